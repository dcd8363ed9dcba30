import Derived.Test.YtjjepgkcgbbmhacDoorGAppL
import Derived.Test.YtjjepgkcgbbmhacDoorGNps
import Derived.Test.YtjjepgkcgbbmhacDoorGNlw
import Derived.Laws.IdiomStrings
import Derived.Deep.RegionHeld3
namespace Go.Proofs.YtjjepgkcgbbmhacDoor
open Go.RowKit Go.Maps
set_option maxRecDepth 20000
set_option linter.unusedVariables false
set_option linter.unusedSimpArgs false

theorem Grew.by {w w' : World} {v v' : Value} (h : Grew w w' v v') : w.grownBy w' v.ownBlock := by
  rcases h with ⟨_, rfl⟩ | ⟨_, hb⟩ | ⟨_, _, hg⟩
  · exact World.grownBy.refl _ _
  · exact ⟨hb.os, hb.tape, hb.output, hb.size, fun k hk _ => hb.block k hk⟩
  · exact hg

theorem Grew.at {w w' : World} {v v' : Value} (h : Grew w w' v v') : v'.ownBlock = some w.heap.size ∨ v'.ownBlock = v.ownBlock := by
  rcases h with ⟨rfl, _⟩ | ⟨h, _⟩ | ⟨h, _⟩
  · exact .inr rfl
  · exact .inl h
  · exact .inr h

theorem built_src (w : World) (cs : List Int) : Src Tryd.prog 1 24 (.slice (some ⟨w.heap.size, 0, none⟩) cs.length cs.length) cs.length (cs.map (Value.int .u8)) (w.alloc (.cells (cs.map (Value.int .u8)).toArray 5)) := by
  refine Src.ofSlice _ Tryd.underlying24 _ _ _ _ (by simp) (fun j u hj => ?_) (fun u hu => by obtain ⟨n, _, rfl⟩ := List.mem_map.1 hu; rfl)
  have e := heap_alloc_new w (.cells (cs.map (Value.int .u8)).toArray 5)
  rw [Addr.add_lit]
  unfold World.cell?
  simp only [e, Nat.zero_add]
  simpa using hj

theorem OB.alloc {w : World} {base : Nat} {v : Value} {l : List Int} (h : OB w base v l) (o : Obj) : OB (w.alloc o) base v l := h.move fun k hk => Below.heap_alloc w o k (h.lt k hk).2

/-- A slice that can be read. -/
def RS (w : World) (v : Value) (l : List Int) : Prop :=
  ∃ ao cap, v = .slice ao l.length cap ∧ l.length ≤ maxLen ∧ (l ≠ [] → ∃ b o, ao = some ⟨b, o, none⟩ ∧ ∀ i, i < l.length → w.cell? ⟨b, o + i, none⟩ = some (.int .u8 (l.getD i 0)))

theorem rs_convert {w : World} {v : Value} {l : List Int} (h : RS w v l) : (convert 24 9 v).run Tryd.prog w = .ok (.string (strOfNums l)) w := by
  obtain ⟨ao, cap, rfl, hm, hc⟩ := h
  by_cases hl : l = []
  · subst hl
    cases ao with
    | none => exact run_convert_bytes_nil (P := Tryd.prog) w 24 5 Tryd.underlying24 Tryd.underlying5 0 cap 9 Tryd.underlying9
    | some a =>
      have h0 : (loadCells a 0).run Tryd.prog w = .ok (([] : List Int).map (Value.int .u8)).toArray w := by
        have := run_loadCells_list (P := Tryd.prog) w a [] (fun j v hj => by simp at hj)
        simpa using this
      show (convert 24 9 (.slice (some a) 0 cap)).run Tryd.prog w = _
      rw [run_convert_bytes_string w 24 9 5 _ 0 cap Tryd.underlying24 Tryd.underlying5 Tryd.underlying9, run_bytesToString w a 0 cap [] h0]
      rfl
  · obtain ⟨b, o, rfl, hcell⟩ := hc hl
    exact run_convert_bytes_arg (P := Tryd.prog) w 24 5 Tryd.underlying24 Tryd.underlying5 b o l.length cap l rfl hcell 9 Tryd.underlying9

theorem SB.rs12 {w : World} {v : Value} {l : List Int} (h : SB w v l) : RS w v l := by
  obtain ⟨ao, cap, rfl, h1, h2, h3, h4⟩ := h
  refine ⟨ao, cap, rfl, Nat.le_trans h1 h2, fun hne => ?_⟩
  have hp : 0 < l.length := List.length_pos_iff.2 hne
  cases ao with
  | none => have := h3 rfl; omega
  | some x =>
    obtain ⟨b, o, rfl⟩ := addr_lit (h4 x rfl 0 hp)
    exact ⟨b, o, rfl, fun i hi => by have := h4 _ rfl i hi; rwa [Addr.add_lit] at this⟩

theorem tmod_pos {k n : Int} (h : 0 ≤ k) : k.tmod n = k % n := Int.tmod_eq_emod_of_nonneg h

theorem tmod_neg {k n : Int} (hn : 0 < n) (h : k < 0) : (k.tmod n < 0 → k.tmod n + n = k % n) ∧ (¬ k.tmod n < 0 → k.tmod n = k % n) := by
  have h1 := Int.emod_nonneg k (show n ≠ 0 by omega)
  have h2 := Int.emod_lt_of_pos k hn
  have e : k.tmod n = -((-k) % n) := by
    have h5 := Int.tmod_eq_emod_of_nonneg (a := -k) (b := n) (by omega)
    have := Int.neg_tmod (-k) n
    rw [Int.neg_neg, h5] at this
    exact this
  have h3 := Int.emod_nonneg (-k) (show n ≠ 0 by omega)
  have h4 := Int.emod_lt_of_pos (-k) hn
  have d1 := Int.mul_ediv_add_emod k n
  have d2 := Int.mul_ediv_add_emod (-k) n
  have key : k % n = (if (-k) % n = 0 then 0 else n - (-k) % n) := by
    by_cases hz : (-k) % n = 0
    · rw [if_pos hz]
      have : k = n * (-((-k) / n)) := by rw [Int.mul_neg]; omega
      rw [this, Int.mul_emod_right]
    · rw [if_neg hz]
      have : k = (n - (-k) % n) + n * (-((-k) / n) - 1) := by rw [Int.mul_sub, Int.mul_neg]; omega
      conv => lhs; rw [this]
      rw [Int.add_mul_emod_self_left, Int.emod_eq_of_lt (by omega) (by omega)]
  rw [e, key]
  refine ⟨fun h => ?_, fun h => ?_⟩
  · rw [if_neg (by omega)]; omega
  · rw [if_pos (by omega)]; omega

theorem which_any (k n : Int) (hn : 0 < n) (hn1 : n ≤ 4611686018427387904) (w : World) : Calls Tryd.prog 7 #[.int .i64 k, .int .i64 n] w fun e w' => e = .returned (.int .i64 (k % n)) ∧ w' = w := by
  by_cases hk : 0 ≤ k
  · have h0 := tmod_pos (n := n) hk
    have h1 := Int.emod_nonneg k (show n ≠ 0 by omega)
    have h2 : k.tmod n = k % n ∧ ¬ (k % n < 0) := ⟨h0, by omega⟩
    obtain ⟨M, HM⟩ : ∃ M, Hid (M = k % n) := ⟨_, rfl⟩
    rw [← HM.out] at h0 h1 ⊢
    clear h2
    have hn0 : n ≠ 0 := by omega
    go_enter Tryd.func7, Tryd.ntmps7
    go_wp2
    go_ret
    exact ⟨rfl, rfl⟩
  · obtain ⟨h1, h2⟩ := tmod_neg (k := k) hn (by omega)
    obtain ⟨M, HM⟩ : ∃ M, Hid (M = k.tmod n) := ⟨_, rfl⟩
    have hM : k.tmod n = M := HM.out.symm
    rw [hM] at h1 h2
    have hn0 : n ≠ 0 := by omega
    have H1 := hide h1
    have H2 := hide h2
    have h3 := Int.emod_nonneg k hn0
    have h4 := Int.emod_lt_of_pos k hn
    by_cases h0 : M < 0
    · have HX : Hid (M + n = k % n) := h1 h0
      have hw : -4611686018427387904 ≤ M + n ∧ M + n ≤ 4611686018427387904 := by have := HX.out; omega
      clear h1 h2 h3 h4
      go_enter Tryd.func7, Tryd.ntmps7
      go_wp2
      go_ret
      rw [← HX.out]
      exact ⟨rfl, rfl⟩
    · have HX : Hid (M = k % n) := h2 h0
      clear h1 h2 h3 h4
      go_enter Tryd.func7, Tryd.ntmps7
      go_wp2
      go_ret
      rw [← HX.out]
      exact ⟨rfl, rfl⟩

end Go.Proofs.YtjjepgkcgbbmhacDoor

