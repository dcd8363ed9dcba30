import Derived.Test.YtlidmhdcikcpkaaGLim
namespace Go.Proofs.Ytlidmhdcikcpkaa
open Go.RowKit
set_option maxRecDepth 20000
set_option linter.unusedVariables false
set_option linter.unusedSimpArgs false

set_option maxHeartbeats 4000000 in
theorem yLimits_any (a b m d : Int) (w : World) : Calls Try.prog 11 #[.int .i64 a, .int .i64 b, .agg #[.int .i64 m, .int .i64 d]] w fun e w' => e = .returned (.int .i64 (lmE a b m d)) ∧ Below w.heap.size w w' := by
  have HB : Hid (Below w.heap.size w (w.alloc (.cells #[.int .i64 m, .int .i64 d] 28))) := (Below.refl _ _).alloc (Nat.le_refl _) _
  obtain ⟨w1, hw1⟩ : ∃ y, w.alloc (.cells #[.int .i64 m, .int .i64 d] 28) = y := ⟨_, rfl⟩
  have hbx : w1.heap[w.heap.size]? = some (.cells #[.int .i64 m, .int .i64 d] 28) := by rw [← hw1]; exact heap_alloc_new _ _
  rw [hw1] at HB
  have q0 := boxC hbx 0 rfl
  have q1 := boxC hbx 1 rfl
  clear hbx
  by_cases c0 : a < 0
  · have e0 : lmE a b m d = 1 := if_pos (show lmA a b m d from .inl c0)
    rw [e0]
    clear e0
    go_enter Try.func11, Try.ntmps11
    go_wp2
    go_ret
    exact ⟨rfl, HB.out⟩
  by_cases c1 : b < 0
  · have e0 : lmE a b m d = 1 := if_pos (show lmA a b m d from .inr (.inl c1))
    rw [e0]
    clear e0
    go_enter Try.func11, Try.ntmps11
    go_wp2
    go_ret
    exact ⟨rfl, HB.out⟩
  by_cases c2 : m < 0
  · have e0 : lmE a b m d = 1 := if_pos (show lmA a b m d from .inr (.inr (.inl c2)))
    rw [e0]
    clear e0
    go_enter Try.func11, Try.ntmps11
    go_wp2
    go_ret
    exact ⟨rfl, HB.out⟩
  by_cases c3 : 65535 < m
  · have e0 : lmE a b m d = 1 := if_pos (show lmA a b m d from .inr (.inr (.inr (.inl c3))))
    rw [e0]
    clear e0
    go_enter Try.func11, Try.ntmps11
    go_wp2
    go_ret
    exact ⟨rfl, HB.out⟩
  by_cases c4 : d < 0
  · have e0 : lmE a b m d = 1 := if_pos (show lmA a b m d from .inr (.inr (.inr (.inr (.inl c4)))))
    rw [e0]
    clear e0
    go_enter Try.func11, Try.ntmps11
    go_wp2
    go_ret
    exact ⟨rfl, HB.out⟩
  by_cases c5 : 4294967295 < d
  · have e0 : lmE a b m d = 1 := if_pos (show lmA a b m d from .inr (.inr (.inr (.inr (.inr (c5))))))
    rw [e0]
    clear e0
    go_enter Try.func11, Try.ntmps11
    go_wp2
    go_ret
    exact ⟨rfl, HB.out⟩
  have HA : Hid (¬ lmA a b m d) := by show ¬ _; unfold lmA; omega
  have HE : Hid (lmE a b m d = if lmM m 65535 < a then 152 else if lmM d 4294967295 < b ∨ 16777216 < b then 153 else 0) := if_neg HA.out
  rw [HE.out]
  clear HE HA
  by_cases hm : m = 0
  · have eM : lmM m 65535 = 65535 := if_pos hm
    rw [eM]
    clear eM
    subst hm
    by_cases hz : d = 0
    · have eD : lmM d 4294967295 = 4294967295 := if_pos hz
      rw [eD]
      clear eD
      subst hz
      by_cases hc : (65535 : Int) < a
      · rw [if_pos hc]
        go_enter Try.func11, Try.ntmps11
        go_wp2
        go_ret
        exact ⟨rfl, HB.out⟩
      rw [if_neg hc]
      by_cases hd : (4294967295 : Int) < b
      · rw [if_pos (.inl hd)]
        go_enter Try.func11, Try.ntmps11
        go_wp2
        go_ret
        exact ⟨rfl, HB.out⟩
      by_cases hf : 16777216 < b
      · rw [if_pos (.inr hf)]
        go_enter Try.func11, Try.ntmps11
        go_wp2
        go_ret
        exact ⟨rfl, HB.out⟩
      · rw [if_neg (by omega)]
        go_enter Try.func11, Try.ntmps11
        go_wp2
        go_ret
        exact ⟨rfl, HB.out⟩
    · have eD : lmM d 4294967295 = d := if_neg hz
      rw [eD]
      clear eD
      have hz' : (d == 0) = false := by simpa using hz
      by_cases hc : (65535 : Int) < a
      · rw [if_pos hc]
        go_enter Try.func11, Try.ntmps11
        go_wp2
        go_ret
        exact ⟨rfl, HB.out⟩
      rw [if_neg hc]
      by_cases hd : d < b
      · rw [if_pos (.inl hd)]
        go_enter Try.func11, Try.ntmps11
        go_wp2
        go_ret
        exact ⟨rfl, HB.out⟩
      by_cases hf : 16777216 < b
      · rw [if_pos (.inr hf)]
        go_enter Try.func11, Try.ntmps11
        go_wp2
        go_ret
        exact ⟨rfl, HB.out⟩
      · rw [if_neg (by omega)]
        go_enter Try.func11, Try.ntmps11
        go_wp2
        go_ret
        exact ⟨rfl, HB.out⟩
  · have eM : lmM m 65535 = m := if_neg hm
    rw [eM]
    clear eM
    have hm' : (m == 0) = false := by simpa using hm
    by_cases hz : d = 0
    · have eD : lmM d 4294967295 = 4294967295 := if_pos hz
      rw [eD]
      clear eD
      subst hz
      by_cases hc : m < a
      · rw [if_pos hc]
        go_enter Try.func11, Try.ntmps11
        go_wp2
        go_ret
        exact ⟨rfl, HB.out⟩
      rw [if_neg hc]
      by_cases hd : (4294967295 : Int) < b
      · rw [if_pos (.inl hd)]
        go_enter Try.func11, Try.ntmps11
        go_wp2
        go_ret
        exact ⟨rfl, HB.out⟩
      by_cases hf : 16777216 < b
      · rw [if_pos (.inr hf)]
        go_enter Try.func11, Try.ntmps11
        go_wp2
        go_ret
        exact ⟨rfl, HB.out⟩
      · rw [if_neg (by omega)]
        go_enter Try.func11, Try.ntmps11
        go_wp2
        go_ret
        exact ⟨rfl, HB.out⟩
    · have eD : lmM d 4294967295 = d := if_neg hz
      rw [eD]
      clear eD
      have hz' : (d == 0) = false := by simpa using hz
      by_cases hc : m < a
      · rw [if_pos hc]
        go_enter Try.func11, Try.ntmps11
        go_wp2
        go_ret
        exact ⟨rfl, HB.out⟩
      rw [if_neg hc]
      by_cases hd : d < b
      · rw [if_pos (.inl hd)]
        go_enter Try.func11, Try.ntmps11
        go_wp2
        go_ret
        exact ⟨rfl, HB.out⟩
      by_cases hf : 16777216 < b
      · rw [if_pos (.inr hf)]
        go_enter Try.func11, Try.ntmps11
        go_wp2
        go_ret
        exact ⟨rfl, HB.out⟩
      · rw [if_neg (by omega)]
        go_enter Try.func11, Try.ntmps11
        go_wp2
        go_ret
        exact ⟨rfl, HB.out⟩

set_option maxHeartbeats 4000000 in
theorem limits_walk (a b m d : Int) (w : World) : Calls Try.prog 4 #[.int .i64 a, .int .i64 b, .agg #[.int .i64 m, .int .i64 d]] w fun e w' => e = .returned (.bool true) ∧ Below w.heap.size w w' := by
  have HB : Hid (Below w.heap.size w (w.alloc (.cells #[.int .i64 m, .int .i64 d] 28))) := (Below.refl _ _).alloc (Nat.le_refl _) _
  obtain ⟨w1, hw1⟩ : ∃ y, w.alloc (.cells #[.int .i64 m, .int .i64 d] 28) = y := ⟨_, rfl⟩
  have hbx : w1.heap[w.heap.size]? = some (.cells #[.int .i64 m, .int .i64 d] 28) := by rw [← hw1]; exact heap_alloc_new _ _
  rw [hw1] at HB
  have HQ := hide (And.intro (boxC hbx 0 rfl) (boxC hbx 1 rfl))
  have HL : Hid (w.heap.size < w1.heap.size) := (Array.getElem?_eq_some_iff.1 hbx).1
  clear hbx
  have HCel : Hid (∀ W, Below w1.heap.size w1 W → W.cell? ⟨w.heap.size, 0, none⟩ = some (.int .i64 m) ∧ W.cell? ⟨w.heap.size, 1, none⟩ = some (.int .i64 d)) := fun W h => ⟨(h.cell HL.out).trans HQ.out.1, (h.cell HL.out).trans HQ.out.2⟩
  have HP : Hid (∀ W, Below w1.heap.size w1 W → Calls Try.prog 10 #[.int .i64 a, .int .i64 b, .agg #[.int .i64 m, .int .i64 d]] W fun e w' => e = .returned (.int .i64 (lmE a b m d)) ∧ Below w1.heap.size w1 w') := fun W h => (pLimits_any a b m d W).mono fun e w' q => ⟨q.1, h.trans (q.2.mono h.size)⟩
  have HY : Hid (∀ W, Below w1.heap.size w1 W → Calls Try.prog 11 #[.int .i64 a, .int .i64 b, .agg #[.int .i64 m, .int .i64 d]] W fun e w' => e = .returned (.int .i64 (lmE a b m d)) ∧ Below w1.heap.size w1 w') := fun W h => (yLimits_any a b m d W).mono fun e w' q => ⟨q.1, h.trans (q.2.mono h.size)⟩
  have HN : Hid (∀ (x : Int) W, Below w1.heap.size w1 W → Calls Try.prog 9 #[.int .i64 x] W fun e w' => e = .returned (.int .i64 x) ∧ Below w1.heap.size w1 w') := fun x W h => (numL_any x W).mono fun e w' q => ⟨q.1, by rw [q.2]; exact h⟩
  have HX : Hid (Below w1.heap.size w1 w1.drew) := (Below.refl _ _).drew
  obtain ⟨E, hE⟩ : ∃ E, E = lmE a b m d := ⟨_, rfl⟩
  rw [← hE] at HP HY
  clear hE
  go_enter Try.func4, Try.ntmps4
  go_wp2_with fail
  go_region_held3 (fun W => W.cell? ⟨w.heap.size, 0, none⟩ = some (.int .i64 m) ∧ W.cell? ⟨w.heap.size, 1, none⟩ = some (.int .i64 d)) (first | exact HQ.out | exact HCel.out _ HX.out | exact HCel.out _ HX1.out | exact HCel.out _ HX2.out | exact HCel.out _ HX3.out)
    (first
      | (go_at_call 10; refine (HP.out _ (by first | exact HX1.out | exact HX.out)).mono ?_; rintro e w2 ⟨rfl, hb2⟩; have HX1 := hide hb2; clear hb2)
      | (go_at_call 11; refine (HY.out _ (by first | exact HX1.out | exact HX.out)).mono ?_; rintro e w2 ⟨rfl, hb2⟩; have HX1 := hide hb2; clear hb2)
      | (go_at_call 9; refine (HN.out _ _ (by first | exact HX1.out | exact HX.out)).mono ?_; rintro e w2 ⟨rfl, hb2⟩; have HX1 := hide hb2; clear hb2))
  all_goals
    go_wp2
    go_ret
    exact ⟨rfl, HB.out.trans (HX1.out.mono HB.out.size)⟩
end Go.Proofs.Ytlidmhdcikcpkaa

