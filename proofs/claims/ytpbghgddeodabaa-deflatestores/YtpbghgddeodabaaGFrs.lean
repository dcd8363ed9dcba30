import Derived.Test.YtpbghgddeodabaaGStx
namespace Go.Proofs.Ytpbghgddeodabaa
open Go.RowKit Go.Maps
set_option maxRecDepth 20000
set_option linter.unusedVariables false
set_option linter.unusedSimpArgs false

theorem copied_any (v : Value) (l : List Int) (w : World) (h : SB w v l) (hr : l.length ≤ 140737488351232) :
    Calls Try.prog 8 #[v] w fun e w' => ∃ v', e = .returned v' ∧ v' = .slice (some ⟨w.heap.size, 0, none⟩) l.length l.length ∧ OB w' w.heap.size v' l ∧ Below w.heap.size w w' := by
  obtain ⟨ao, cap, rfl, hlc, hcm, hnil, hcell⟩ := h
  obtain ⟨i0, hi, hz0, hz1, hz2⟩ := info_parts info5
  go_enter Try.func8, Try.ntmps8
  go_wp2_with (at_make; refine wpList_make_full _ rfl _ _ 22 rfl w.heap.size 5 i0 (.int .u8 0) 1 Try.underlying22 hi hz0 hz1 _ _ _ _ l.length rfl rfl rfl rfl ?b2 ?b3 ?b4 ?_)
  case b2 => rw [hz2]; omega
  case b3 => unfold maxLen; omega
  case b4 => exact Nat.le_refl _
  intro w1 hown hgrow
  rw [madeBytes] at hown
  obtain ⟨hg, _⟩ := ownsRow_full hown
  have hb1 : Below w.heap.size w w1 := (Below.refl _ _).grown hgrow (Nat.le_refl _) (fun k hk => by cases hk)
  have Hg : Hid (w1.heap[w.heap.size]? = some (.cells (List.replicate l.length (Value.int .u8 0)).toArray 5 (0, 0))) := hg
  clear hg hown hgrow
  have HN : Hid (ao = none → cap = 0) := hnil
  have HC : Hid (∀ x, ao = some x → ∀ i, i < l.length → w.cell? (x.add i) = some (.int .u8 (l.getD i 0))) := hcell
  clear hnil hcell
  obtain ⟨cs, hcs⟩ : ∃ cs, cs = l.map (Value.int .u8) := ⟨_, rfl⟩
  have HS : Hid (cs = l.map (Value.int .u8)) := hcs
  clear hcs
  have C1 : Hid (cs.length = Nat.min l.length l.length) := by show _ = _; rw [HS.out]; simp
  have C2 : Hid (0 < cs.length → (some (⟨w.heap.size, 0, none⟩ : Addr)) = some ⟨w.heap.size, 0, none⟩ ∧ ∃ ad, ao = some ad ∧ ∀ j v, cs[j]? = some v → w1.cell? (ad.add j) = some v) := by
    intro hp
    refine ⟨rfl, ?_⟩
    rw [HS.out, List.length_map] at hp
    cases ao with
    | none => have := HN.out rfl; omega
    | some x =>
      refine ⟨x, rfl, fun j u hj => ?_⟩
      rw [HS.out] at hj
      obtain ⟨hjl, rfl⟩ := List.getElem?_eq_some_iff.1 hj
      have hjl' : j < l.length := by simpa using hjl
      have hc := HC.out x rfl j hjl'
      rw [hb1.cell (by have := World.block_lt_of_cell? _ _ hc; exact this), hc]
      simp [hjl']
  have C3 : Hid (0 + cs.length ≤ (List.replicate l.length (Value.int .u8 0)).length) := by show _ ≤ _; rw [HS.out]; simp
  have C4 : Hid (∀ v ∈ cs, v.oneCell' = true) := by rw [HS.out]; intro u hu; obtain ⟨n, _, rfl⟩ := List.mem_map.1 hu; rfl
  go_wp2_with (refine wpList_copy_splice rfl _ _ 22 22 rfl 5 Try.underlying22 sizeByte _ _ _ _ _ _ rfl rfl w.heap.size 0 (List.replicate l.length (Value.int .u8 0)) 5 Hg.out cs C1.out C2.out C3.out C4.out w.heap.size w hb1 (Nat.le_refl _) ?_)
  intro w2 HG2 hb2
  have hfin : OB w2 w.heap.size (.slice (some ⟨w.heap.size, 0, none⟩) l.length l.length) l := by
    refine OB.of_full ?_ (Nat.le_refl _) (by unfold maxLen; omega)
    rw [HG2.out, splice_all _ _ (by rw [HS.out]; simp), HS.out]
  have HF := hfin
  go_wp2
  go_ret
  exact ⟨_, rfl, rfl, HF, hb2⟩

def marks4 : List Int := [192, 193, 194, 195]

theorem framed_any (v : Value) (l : List Int) (w : World) (h : SB w v l) (hr : l.length ≤ 140737488351232) :
    Calls Try.prog 4 #[v] w fun e w' => ∃ g c, e = .returned (.slice (some ⟨g, 0, none⟩) (l.length + 4) c) ∧ OB w' w.heap.size (.slice (some ⟨g, 0, none⟩) (l.length + 4) c) (l ++ marks4) ∧ Below w.heap.size w w' := by
  obtain ⟨ao, cap, rfl, hlc, hcm, hnil, hcell⟩ := h
  unfold maxLen at hcm
  go_enter Try.func4, Try.ntmps4
  go_wp2_with (at_make; refine wpList_mk rfl _ _ rfl _ _ _ _ l.length (l.length + 4) rfl rfl rfl (by first | rfl | (simp; done)) (by omega) (by omega) ?_)
  intro w1 hg hb1
  have Hg := hide hg
  clear hg
  have HN : Hid (ao = none → cap = 0) := hnil
  have HC : Hid (∀ x, ao = some x → ∀ i, i < l.length → w.cell? (x.add i) = some (.int .u8 (l.getD i 0))) := hcell
  clear hnil hcell
  obtain ⟨cs, hcs⟩ : ∃ cs, cs = l.map (Value.int .u8) := ⟨_, rfl⟩
  have HS : Hid (cs = l.map (Value.int .u8)) := hcs
  clear hcs
  have C1 : Hid (cs.length = Nat.min l.length l.length) := by show _ = _; rw [HS.out]; simp
  have C2 : Hid (0 < cs.length → (some (⟨w.heap.size, 0, none⟩ : Addr)) = some ⟨w.heap.size, 0, none⟩ ∧ ∃ ad, ao = some ad ∧ ∀ j v, cs[j]? = some v → w1.cell? (ad.add j) = some v) := by
    intro hp
    refine ⟨rfl, ?_⟩
    rw [HS.out, List.length_map] at hp
    cases ao with
    | none => have := HN.out rfl; omega
    | some x =>
      refine ⟨x, rfl, fun j u hj => ?_⟩
      rw [HS.out] at hj
      obtain ⟨hjl, rfl⟩ := List.getElem?_eq_some_iff.1 hj
      have hjl' : j < l.length := by simpa using hjl
      have hc := HC.out x rfl j hjl'
      rw [hb1.cell (by have := World.block_lt_of_cell? _ _ hc; exact this), hc]
      simp [hjl']
  have C3 : Hid (0 + cs.length ≤ (List.replicate (l.length + 4) (Value.int .u8 0)).length) := by show _ ≤ _; rw [HS.out]; simp
  have C4 : Hid (∀ v ∈ cs, v.oneCell' = true) := by rw [HS.out]; intro u hu; obtain ⟨n, _, rfl⟩ := List.mem_map.1 hu; rfl
  go_wp2_with (refine wpList_copy_splice rfl _ _ 22 22 rfl 5 Try.underlying22 sizeByte _ _ _ _ _ _ rfl rfl w.heap.size 0 (List.replicate (l.length + 4) (Value.int .u8 0)) 5 Hg.out cs C1.out C2.out C3.out C4.out w.heap.size w hb1 (Nat.le_refl _) ?_)
  intro w2 HG2 hb2
  have HF : Hid (OB w2 w.heap.size (.slice (some ⟨w.heap.size, 0, none⟩) l.length (l.length + 4)) l) := by
    have hg := HG2.out
    rw [splice_front _ _ _ _ (by rw [HS.out]; simp), HS.out] at hg
    exact ⟨by simp, .inr ⟨w.heap.size, l.length + 4, _, rfl, Nat.le_refl _, hg, by omega, by unfold maxLen; omega, by simp, by simp⟩⟩
  have HB2 := hide hb2
  clear C1 C2 C3 C4 HS HN HC Hg HG2 hb1 hb2
  go_wp2_with (at_builtin; refine wpList_app rfl _ _ 22 rfl w.heap.size _ _ l marks4 rfl (HF.out.alloc _) rfl (built_src w2 marks4) (by show _ + 4 ≤ _; omega) (by have := HB2.out.size; simp; omega) ?_)
  intro v' w3 ho hgr
  rcases ho.2 with ⟨_, hx⟩ | ⟨g, c, cur, rfl, k1, k2, k3, k4, k5, k6⟩
  · simp [marks4] at hx
  have e4 : (l ++ marks4).length = l.length + 4 := by simp [marks4]
  rw [e4] at ho
  rw [e4]
  have HO := hide ho
  have HB3 : Hid (Below w.heap.size w w3) := (HB2.out.alloc HB2.out.size _).grown hgr.by (by have := HB2.out.size; simp; omega) (fun k hk => by simp [Value.ownBlock] at hk; omega)
  clear ho hgr k2 k6 k5 k3
  go_wp2
  go_ret
  exact ⟨g, c, rfl, HO.out, HB3.out⟩

theorem SB.cellsAt {w : World} {g o n c : Nat} {l : List Int} (h : SB w (.slice (some ⟨g, o, none⟩) n c) l) : ∀ i, i < l.length → w.cell? ⟨g, o + i, none⟩ = some (.int .u8 (l.getD i 0)) := by
  obtain ⟨ao, cap, he, h1, h2, h3, h4⟩ := h
  simp only [Value.slice.injEq] at he
  intro i hi
  have := h4 ⟨g, o, none⟩ he.1.symm i hi
  rwa [Addr.add_lit] at this

theorem whole_any (v2 : Value) (g c : Nat) (l : List Int) (w : World) (h1 : SB w (.slice (some ⟨g, 0, none⟩) (l.length + 4) c) (l ++ marks4)) (h2 : SB w v2 l) (hr : l.length ≤ 140737488351232) :
    Calls Try.prog 11 #[.slice (some ⟨g, 0, none⟩) (l.length + 4) c, v2] w fun e w' => e = .returned (.bool true) ∧ ∃ n, w' = w.drewN n := by
  have hcl : ∀ i, i < l.length + 4 → w.cell? ⟨g, i, none⟩ = some (.int .u8 ((l ++ marks4).getD i 0)) := fun i hi => by
    have := h1.cellsAt i (by simp [marks4]; omega)
    rwa [Nat.zero_add] at this
  have m0 : w.cell? ⟨g, l.length, none⟩ = some (.int .u8 192) := by rw [hcl l.length (by omega)]; simp [marks4]
  have m1 : w.cell? ⟨g, l.length + 1, none⟩ = some (.int .u8 193) := by rw [hcl (l.length + 1) (by omega)]; simp [marks4]
  have m2 : w.cell? ⟨g, l.length + 2, none⟩ = some (.int .u8 194) := by rw [hcl (l.length + 2) (by omega)]; simp [marks4]
  have m3 : w.cell? ⟨g, l.length + 3, none⟩ = some (.int .u8 195) := by rw [hcl (l.length + 3) (by omega)]; simp [marks4]
  have HCL : Hid (∀ i, i < l.length → w.cell? ⟨g, i, none⟩ = some (.int .u8 (l.getD i 0))) := fun i hi => by
    rw [hcl i (by omega)]; simp [hi, List.getElem?_append_left]
  have H2 := hide h2
  obtain ⟨ao, cap, rfl, hlc, hcm, _⟩ := h2
  unfold maxLen at hcm
  clear hcl h1
  go_enter Try.func11, Try.ntmps11
  go_wp2
  go_loopw [6] (fun i wr => ∃ k n : Nat, k ≤ l.length ∧ i = .int .i64 k ∧ wr = w.drewN n) (fun i _ => l.length - (intOf i).toNat)
  case atStart => exact ⟨0, 0, Nat.zero_le _, rfl, rfl⟩
  case round =>
    obtain ⟨k, n, hk, rfl, rfl⟩ := hrel
    by_cases hlt : k < l.length
    · obtain ⟨x, hx, hcell⟩ : ∃ x : Addr, ao = some x ∧ ∀ i, i < l.length → w.cell? (x.add i) = some (.int .u8 (l.getD i 0)) := by
        obtain ⟨ao', cap', he, a1, a2, a3, a4⟩ := H2.out
        simp only [Value.slice.injEq] at he
        obtain ⟨rfl, _, rfl⟩ := he
        cases ao with
        | none => have := a3 rfl; omega
        | some x => exact ⟨x, rfl, a4 x rfl⟩
      subst hx
      obtain ⟨b, o, rfl⟩ := addr_lit (hcell 0 (by omega))
      obtain ⟨y, c1, c2⟩ : ∃ y, w.cell? ⟨g, k, none⟩ = some (.int .u8 y) ∧ w.cell? ⟨b, o + k, none⟩ = some (.int .u8 y) := ⟨_, HCL.out k hlt, by have := hcell k hlt; rwa [Addr.add_lit] at this⟩
      clear hcell
      go_wp2
      go_quiet (fail)
      go_wp2
      go_roundw
      case rel => exact ⟨k + 1, _, by omega, by go_num, rfl⟩
      case measure => simp [intOf]; omega
    · go_wp2
      go_ret
      exact ⟨rfl, _, rfl⟩

end Go.Proofs.Ytpbghgddeodabaa

