import Derived.Test.YtlidmhdcikcpkaaGWbs
namespace Go.Proofs.Ytlidmhdcikcpkaa
open Go.RowKit Go.Maps
set_option maxRecDepth 20000
set_option linter.unusedVariables false
set_option linter.unusedSimpArgs false

theorem box_cells {w : World} {c : Nat} {A : Array Value} {t : TypeId} {k : Nat × Nat} (h : w.heap[c]? = some (.cells A t k)) (i : Nat) {u : Value} (hu : A[i]? = some u) : w.cell? ⟨c, i, none⟩ = some u := by
  unfold World.cell?
  simp only [h]
  exact hu

theorem rgt_step {size : Int} {P : List Wn} {k : Nat} {e a : Int} {n : Nat} (h : k < P.length) (hp : P.getD k wn0 = (a, n)) :
    (n = 0 ∨ a < e ∨ size - (n : Int) < a → rgt size (P.drop k) e = false) ∧ (¬ (n = 0 ∨ a < e ∨ size - (n : Int) < a) → rgt size (P.drop k) e = rgt size (P.drop (k + 1)) (a + n)) := by
  rw [drop_get wn0 h, hp]
  exact ⟨fun hb => if_pos hb, fun hb => if_neg hb⟩

set_option maxHeartbeats 8000000 in
theorem right_any (v : Value) (R : List We) (size : Int) (w : World) (h : SW w v R) (hs : domN size) (ho : ∀ e ∈ R, -9223372036854775808 ≤ e.at' ∧ e.at' ≤ 9223372036854775807) (hm : ∀ e ∈ R, e.l.length ≤ 140737488351232) :
    Calls Try.prog 28 #[v, .int .i64 size] w fun e w' => e = .returned (.bool (rgt size (nms R) 0)) ∧ Below w.heap.size w w' := by
  have HS := hide h
  have HO := hide ho
  have HM := hide hm
  obtain ⟨ca, ccap, rfl, c1, c2⟩ := h.open
  obtain ⟨hs0, hs1⟩ := hs
  clear h ho hm
  go_enter Try.func28, Try.ntmps28
  go_wp2
  go_loopw [5, 7, 10] (fun e _ i wr => ∃ (j : Nat) (E : Int), e = .int .i64 E ∧ i = .int .i64 (j : Int) ∧ j ≤ R.length ∧ (0 ≤ E ∧ E ≤ 16777216) ∧ Hid (rgt size ((nms R).drop j) E = rgt size (nms R) 0) ∧ Hid (Below w.heap.size w wr)) (fun _ _ i _ => R.length - (intOf i).toNat)
  case atStart => exact ⟨0, 0, rfl, rfl, Nat.zero_le _, by omega, rfl, Below.refl _ _⟩
  case round =>
    obtain ⟨j, E, rfl, rfl, hj, ⟨hE0, hE1⟩, HR, HB⟩ := hrel
    by_cases hlt : j < R.length
    · have hlt' : (j : Int) < (R.length : Int) := by omega
      obtain ⟨b0, o0, a', c', hla, hbl, hdv, g0, g1, hsb, k1, k2⟩ := (HS.out.low HB.out).row hlt
      have hml : (R.getD j we0).l.length ≤ 140737488351232 := HM.out _ (we_mem hlt)
      have hok := HO.out _ (we_mem hlt)
      have hnn := n_get hlt
      obtain ⟨e, he⟩ : ∃ e, e = R.getD j we0 := ⟨_, rfl⟩
      rw [← he] at hdv g0 g1 hsb k1 hml hok hnn
      obtain ⟨at0, dv0, l0⟩ := e
      simp only [We.n] at hdv g0 g1 hsb k1 hml hok hnn
      obtain ⟨n, hn⟩ : ∃ n, n = l0.length := ⟨_, rfl⟩
      rw [← hn] at hdv g1 hsb k1 hml hnn
      subst hla
      have HBa : Hid (Below w.heap.size w (wr.alloc (.cells #[.int .i64 at0, .slice a' n c'] 41))) := HB.out.alloc HB.out.size _
      obtain ⟨w2, hw2⟩ : ∃ y, wr.alloc (.cells #[.int .i64 at0, .slice a' n c'] 41) = y := ⟨_, rfl⟩
      have hbx : w2.heap[wr.heap.size]? = some (.cells #[.int .i64 at0, .slice a' n c'] 41) := by rw [← hw2]; exact heap_alloc_new _ _
      rw [hw2] at HBa
      have q0 := box_cells hbx 0 rfl
      have q1 := box_cells hbx 1 rfl
      have HST := hide (rgt_step (size := size) (e := E) (by rw [nms_len]; exact hlt) hnn)
      clear hdv he hsb hn hnn hbx
      by_cases hbad : n = 0 ∨ at0 < E ∨ size - (n : Int) < at0
      · have HF : Hid (rgt size (nms R) 0 = false) := by have := HST.out.1 hbad; rw [HR.out] at this; exact this
        clear HST
        rcases hbad with rfl | hbad
        · go_wp2
          go_ret
          rw [HF.out]
          exact ⟨rfl, HBa.out⟩
        · by_cases hn0 : n = 0
          · subst hn0
            go_wp2
            go_ret
            rw [HF.out]
            exact ⟨rfl, HBa.out⟩
          have hn1 : ((n : Int) == 0) = false := by simp; omega
          by_cases hb2 : at0 < E
          · go_wp2
            go_ret
            rw [HF.out]
            exact ⟨rfl, HBa.out⟩
          · have hb3 : size - (n : Int) < at0 := by omega
            go_wp2
            go_ret
            rw [HF.out]
            exact ⟨rfl, HBa.out⟩
      · have HF : Hid (rgt size ((nms R).drop (j + 1)) (at0 + (n : Int)) = rgt size (nms R) 0) := by have := HST.out.2 hbad; rw [HR.out] at this; exact this.symm
        have hn1 : ((n : Int) == 0) = false := by simp; omega
        have hn2 : ¬ at0 < E := by omega
        have hn3 : ¬ size - (n : Int) < at0 := by omega
        clear HST
        go_wp2
        go_roundw
        case rel => exact ⟨j + 1, at0 + (n : Int), by go_num, by go_num, by omega, by omega, HF.out, HBa.out⟩
        case measure => simp [intOf]; omega
    · have hje : j = R.length := by omega
      subst hje
      have HF : Hid (rgt size (nms R) 0 = true) := by have := HR.out; rw [← nms_len, List.drop_length] at this; exact this.symm
      clear HR
      go_wp2
      go_ret
      rw [HF.out]
      exact ⟨rfl, HB.out⟩
end Go.Proofs.Ytlidmhdcikcpkaa

