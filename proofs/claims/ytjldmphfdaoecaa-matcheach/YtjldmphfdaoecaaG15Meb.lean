import Derived.Test.YtjldmphfdaoecaaG14Mea
namespace Go.Proofs.Ytjldmphfdaoecaa
open Go.RowKit Go.Maps Go.Shelf
set_option maxRecDepth 20000
set_option linter.unusedVariables false

theorem each_no (v : Value) (D : List Int) (x y : Int) (z : Bool) (w : World) (h : SB w v D) (hm : mbb D.length x y = false) :
    Calls Try.prog 4 #[v, .agg #[.int .i64 x, .int .i64 y, .bool z]] w fun e w' => e = .returned (.func (.func 14) #[] #[]) ∧ Below w.heap.size w w' := by
  have HM := hide hm
  have b1 : Below w.heap.size w (w.alloc (.cells #[v] 22)) := (Below.refl _ _).alloc (Nat.le_refl _) _
  have HB2 := hide (b1.alloc (by have := b1.size; omega) (.cells #[.int .i64 x, .int .i64 y, .bool z] 24))
  have e1 := heap_alloc_new w (.cells #[v] 22)
  have e2 := heap_alloc_new (w.alloc (.cells #[v] 22)) (.cells #[.int .i64 x, .int .i64 y, .bool z] 24)
  obtain ⟨w2, hw2⟩ : ∃ w2, (w.alloc (.cells #[v] 22)).alloc (.cells #[.int .i64 x, .int .i64 y, .bool z] 24) = w2 := ⟨_, rfl⟩
  have s1 : (w.alloc (.cells #[v] 22)).heap.size = w.heap.size + 1 := by simp
  rw [hw2] at HB2 e2
  rw [s1] at e2
  have g1 : w2.heap[w.heap.size]? = some (.cells #[v] 22 (0, 0)) := by rw [← hw2]; exact (Below.heap_alloc _ _ _ (by simp)).trans e1
  have c0 : w2.cell? ⟨w.heap.size, 0, none⟩ = some v := cellIn g1 rfl
  have d0 : w2.cell? ⟨w.heap.size + 1, 0, none⟩ = some (.int .i64 x) := cellIn e2 rfl
  have d1 : w2.cell? ⟨w.heap.size + 1, 1, none⟩ = some (.int .i64 y) := cellIn e2 rfl
  have d2 : w2.cell? ⟨w.heap.size + 1, 2, none⟩ = some (.bool z) := cellIn e2 rfl
  obtain ⟨ao, cap, rfl, hlc, hcm⟩ := h.open
  have HMB := hide (mayBe_any D ao cap x y z w2)
  rw [HM.out] at HMB
  clear h e1 b1 hm s1 e2 g1
  go_enter Try.func4, Try.ntmps4
  go_wp2_with fail
  refine HMB.out.mono ?_
  rintro e w3 ⟨rfl, b3⟩
  have HB3 := hide (HB2.out.trans (b3.mono HB2.out.size))
  clear hw2 b3 HMB c0 d0 d1 d2
  go_wp2
  go_ret
  exact ⟨rfl, HB3.out⟩

theorem each_any (v : Value) (D : List Int) (x y : Int) (z : Bool) (w : World) (h : SB w v D) (hB : Byt D) :
    Calls Try.prog 4 #[v, .agg #[.int .i64 x, .int .i64 y, .bool z]] w fun e w' => ∃ f bs Its, e = .returned (.func f #[] bs) ∧ LoopR (.func f #[] bs) (tL D x y z) Its w' ∧ (∀ b, Its b → w.heap.size ≤ b ∧ b < w'.heap.size) ∧ Below w.heap.size w w' := by
  by_cases h1 : (D.length : Int) ≤ 16777216 ∧ Dmn x y
  · obtain ⟨e1, e2⟩ := tE_ok (z := z) h1
    rw [e2]
    obtain ⟨h2, h3⟩ := h1
    unfold Dmn at h3
    obtain ⟨W, rfl⟩ := Int.eq_ofNat_of_zero_le (show 0 ≤ x by omega)
    obtain ⟨C, rfl⟩ := Int.eq_ofNat_of_zero_le (show 0 ≤ y by omega)
    refine (each_yes v D (W : Int) (C : Int) z w h (by omega) (decide_eq_true ⟨by omega, by unfold Dmn; omega⟩)).mono ?_
    rintro e w' ⟨u, rfl, ho, hd, he, b⟩
    refine ⟨_, _, _, rfl, loop_yes w.heap.size W C u D z w' hB (by omega) (by omega) (by omega) (by omega) ho hd he, fun k hk => ?_, b⟩
    have l1 := (Array.getElem?_eq_some_iff.1 hd).1
    have l2 := (Array.getElem?_eq_some_iff.1 he).1
    rcases hk with rfl | rfl | hk
    · exact ⟨Nat.le_refl _, l1⟩
    · exact ⟨by omega, l2⟩
    · have := ho.lt k hk
      exact ⟨by omega, this.2⟩
  · obtain ⟨e1, e2⟩ := tE_bad (z := z) h1
    rw [e2]
    refine (each_no v D x y z w h (decide_eq_false h1)).mono ?_
    rintro e w' ⟨rfl, b⟩
    exact ⟨_, _, _, rfl, loop_no w', fun k hk => hk.elim, b⟩
end Go.Proofs.Ytjldmphfdaoecaa

