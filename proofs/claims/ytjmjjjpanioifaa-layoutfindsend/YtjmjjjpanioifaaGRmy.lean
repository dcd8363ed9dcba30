import Derived.Test.YtjmjjjpanioifaaGSpoil
import Derived.Laws.CopyOwn
namespace Go.Proofs.Ytjmjjjpanioifaa
open Go.RowKit Go.Maps
set_option maxRecDepth 20000
set_option linter.unusedVariables false
set_option linter.unusedSimpArgs false

def Spare (w : World) (v : Value) (n : Nat) : Prop := ∃ g, v = .slice (some ⟨g, 0, none⟩) n (n + 9) ∧ ∀ j, j < 9 → w.cell? ⟨g, n + j, none⟩ = some (.int .u8 165)

theorem spared_any (v : Value) (n : Nat) (w : World) (h : Spare w v n) (hn : n ≤ 140737488351232) :
    Calls Try.prog 21 #[v] w fun e w' => e = .returned (.bool true) ∧ w' = w := by
  obtain ⟨g, rfl, h⟩ := h
  have H := hide h
  clear h
  go_enter Try.func21, Try.ntmps21
  go_wp2
  go_loopw [4] (fun i wr => ∃ k : Nat, i = .int .i64 k ∧ n ≤ k ∧ k ≤ n + 9 ∧ wr = w) (fun i _ => n + 9 - (intOf i).toNat)
  case atStart => exact ⟨n, rfl, Nat.le_refl _, by omega, rfl⟩
  case round =>
    obtain ⟨k, rfl, hk1, hk2, hw⟩ := hrel
    subst hw
    by_cases hlt : k < n + 9
    · have hlt' : (k : Int) < (n : Int) + 9 := by omega
      have hc : wr.cell? ⟨g, k, none⟩ = some (.int .u8 165) := by
        have := H.out (k - n) (by omega)
        rwa [show n + (k - n) = k by omega] at this
      go_wp2
      go_roundw
      case rel => exact ⟨k + 1, by go_num, by omega, by omega, trivial⟩
      case measure => simp [intOf]; omega
    · have hlt' : ¬ (k : Int) < (n : Int) + 9 := by omega
      go_wp2
      go_ret
      exact ⟨rfl, rfl⟩

theorem cell_at {w : World} {g : Nat} {L : List Value} {t : TypeId} {fr : Nat × Nat} (h : w.heap[g]? = some (.cells L.toArray t fr)) (i : Nat) : w.cell? ⟨g, i, none⟩ = L[i]? := by
  simp [World.cell?, h]

theorem room_at (A : List Value) (k n : Nat) (x z : Value) (h : k < n) : (A ++ List.replicate k x ++ List.replicate (n - k) z)[A.length + k]? = some z := by
  rw [List.getElem?_append_right (by simp), List.getElem?_replicate, if_pos (by simp; omega)]

theorem room_set (A : List Value) (k n : Nat) (x z : Value) (h : k < n) : (A ++ List.replicate k x ++ List.replicate (n - k) z).set (A.length + k) x = A ++ List.replicate (k + 1) x ++ List.replicate (n - (k + 1)) z := by
  obtain ⟨r, hr⟩ : ∃ r, n - k = r + 1 := ⟨n - k - 1, by omega⟩
  have e : A.length + k - (A ++ List.replicate k x).length = 0 := by simp
  rw [List.set_append_right _ _ (by simp), hr, show n - (k + 1) = r by omega, List.replicate_succ' (n := k), e, List.replicate_succ (n := r), List.set_cons_zero, ← List.append_assoc, List.append_assoc (A ++ List.replicate k x)]
  rfl

theorem room_end (A : List Value) (n j : Nat) (x z : Value) (h : j < n) : (A ++ List.replicate n x ++ List.replicate (n - n) z)[A.length + j]? = some x := by
  rw [List.append_assoc, List.getElem?_append_right (by omega), List.getElem?_append_left (by simp; omega), List.getElem?_replicate, if_pos (by omega)]

theorem roomy_any (v : Value) (l : List Int) (w : World) (h : SB w v l) (hr : l.length ≤ 140737488351232) :
    Calls Try.prog 16 #[v] w fun e w' => ∃ v', e = .returned v' ∧ v' = .slice (some ⟨w.heap.size, 0, none⟩) l.length (l.length + 9) ∧ OB w' w.heap.size v' l ∧ Spare w' v' l.length ∧ Below w.heap.size w w' := by
  obtain ⟨ao, cap, rfl, hlc, hcm, hnil, hcell⟩ := h
  unfold maxLen at hcm
  obtain ⟨i0, hi, hz0, hz1, hz2⟩ := info_parts info5
  go_enter Try.func16, Try.ntmps16
  go_wp2_with (at_make; refine wpList_make_full _ rfl _ _ 42 rfl w.heap.size 5 i0 (.int .u8 0) 1 Try.underlying42 hi hz0 hz1 _ _ _ _ (l.length + 9) rfl rfl rfl (by first | rfl | (simp; done)) ?b2 ?b3 ?b4 ?_)
  case b2 => rw [hz2]; omega
  case b3 => unfold maxLen; omega
  case b4 => exact Nat.le_refl _
  intro w1 hown hgrow
  rw [madeBytes] at hown
  obtain ⟨hg, _⟩ := ownsRow_full hown
  have hb1 : Below w.heap.size w w1 := (Below.refl _ _).grown hgrow (Nat.le_refl _) (fun k hk => by cases hk)
  have Hg : Hid (w1.heap[w.heap.size]? = some (.cells (List.replicate (l.length + 9) (Value.int .u8 0)).toArray 5 (0, 0))) := hg
  clear hg hown hgrow
  have HN : Hid (ao = none → cap = 0) := hnil
  have HC : Hid (∀ x, ao = some x → ∀ i, i < l.length → w.cell? (x.add i) = some (.int .u8 (l.getD i 0))) := hcell
  clear hnil hcell
  obtain ⟨cs, hcs⟩ : ∃ cs, cs = l.map (Value.int .u8) := ⟨_, rfl⟩
  have HS : Hid (cs = l.map (Value.int .u8)) := hcs
  clear hcs
  have C1 : Hid (cs.length = Nat.min l.length (l.length + 9)) := by show _ = _; rw [HS.out, List.length_map]; exact (Nat.min_eq_left (by omega)).symm
  have C2 : Hid (0 < cs.length → (some (⟨w.heap.size, 0, none⟩ : Addr)) = some ⟨w.heap.size, 0, none⟩ ∧ ∃ ad, ao = some ad ∧ ∀ j v, cs[j]? = some v → w1.cell? (ad.add j) = some v) := by
    intro hp
    refine ⟨rfl, ?_⟩
    rw [HS.out, List.length_map] at hp
    cases ao with
    | none => have := HN.out rfl; omega
    | some x =>
      refine ⟨x, rfl, fun j u hj => ?_⟩
      rw [HS.out] at hj
      obtain ⟨hjl, rfl⟩ := List.getElem?_eq_some_iff.1 hj
      have hjl' : j < l.length := by simpa using hjl
      have hc := HC.out x rfl j hjl'
      rw [hb1.cell (by have := World.block_lt_of_cell? _ _ hc; exact this), hc]
      simp [hjl']
  have C3 : Hid (0 + cs.length ≤ (List.replicate (l.length + 9) (Value.int .u8 0)).length) := by show _ ≤ _; rw [HS.out]; simp
  have C4 : Hid (∀ v ∈ cs, v.oneCell' = true) := by rw [HS.out]; intro u hu; obtain ⟨n, _, rfl⟩ := List.mem_map.1 hu; rfl
  go_wp2_with (refine wpList_copy_splice rfl _ _ 42 42 rfl 5 Try.underlying42 sizeByte _ _ _ _ _ _ rfl rfl w.heap.size 0 (List.replicate (l.length + 9) (Value.int .u8 0)) 5 Hg.out cs C1.out C2.out C3.out C4.out w.heap.size w hb1 (Nat.le_refl _) ?_)
  intro w2 HG2 hb2
  have HG3 : Hid (w2.heap[w.heap.size]? = some (.cells (l.map (Value.int .u8) ++ List.replicate 0 (Value.int .u8 165) ++ List.replicate 9 (Value.int .u8 0)).toArray 5 (0, 0))) := by
    show _ = _
    rw [HG2.out, HS.out]
    simp [splice]
  have HB2 := hide hb2
  clear hb2 HG2 C1 C2 C3 C4 HC HN HS hb1 Hg
  go_wp2
  go_loopw [4] (fun i wr => ∃ k : Nat, i = .int .i64 ((l.length + k : Nat) : Int) ∧ k ≤ 9 ∧ Hid (wr.heap[w.heap.size]? = some (.cells (l.map (Value.int .u8) ++ List.replicate k (Value.int .u8 165) ++ List.replicate (9 - k) (Value.int .u8 0)).toArray 5 (0, 0))) ∧ Hid (Below w.heap.size w wr)) (fun i _ => l.length + 9 - (intOf i).toNat)
  case atStart => exact ⟨0, rfl, Nat.zero_le _, HG3.out, HB2.out⟩
  case round =>
    obtain ⟨k, rfl, hk, HH, HB⟩ := hrel
    by_cases hlt : k < 9
    · obtain ⟨q, hq⟩ : ∃ q, q = l.length + k := ⟨_, rfl⟩
      rw [← hq]
      have HQ := hide hq
      have hlt' : (q : Int) < (l.length : Int) + 9 := by omega
      have hc : wr.cell? ⟨w.heap.size, q, none⟩ = some (.int .u8 0) := by
        have := room_at (l.map (Value.int .u8)) k 9 (.int .u8 165) (.int .u8 0) hlt
        rw [List.length_map] at this
        rw [cell_at HH.out, hq]
        exact this
      have hf : wr.frozen? ⟨w.heap.size, q, none⟩ = false := by simp [World.frozen?, HH.out]
      clear hq
      go_wp2
      go_roundw
      case rel =>
        refine ⟨k + 1, by have := HQ.out; go_num, by omega, ?_, HB.out.trans ⟨rfl, rfl, rfl, by rw [size_setCell]; exact Nat.le_refl _, fun i hi => setCell_others _ _ _ _ i (by omega)⟩⟩
        show _ = _
        rw [heap_setCell_at _ HH.out, HQ.out]
        have := room_set (l.map (Value.int .u8)) k 9 (.int .u8 165) (.int .u8 0) hlt
        rw [List.length_map] at this
        rw [← this]
        congr 2
        apply Array.ext'
        simp only [Array.toList_setIfInBounds]
      case measure => simp [intOf]; have := HQ.out; omega
    · have ek : k = 9 := by omega
      subst ek
      go_wp2
      go_ret
      refine ⟨_, rfl, rfl, ?_, ⟨_, rfl, fun j hj => ?_⟩, HB.out⟩
      · exact ⟨by simp, .inr ⟨w.heap.size, l.length + 9, _, rfl, Nat.le_refl _, HH.out, by omega, by unfold maxLen; omega, by simp, by simp⟩⟩
      · have hh := HH.out
        have := room_end (l.map (Value.int .u8)) 9 j (.int .u8 165) (.int .u8 0) hj
        rw [List.length_map] at this
        rw [cell_at hh]
        exact this
end Go.Proofs.Ytjmjjjpanioifaa

