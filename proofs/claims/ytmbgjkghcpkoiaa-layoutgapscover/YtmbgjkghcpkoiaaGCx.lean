import Derived.Test.YtmbgjkghcpkoiaaGRe
import Derived.Test.YtmbgjkghcpkoiaaGSt
import Derived.Test.YtmbgjkghcpkoiaaGLnb
namespace Go.Proofs.Ytmbgjkghcpkoiaa
open Go.RowKit Go.Maps
set_option maxRecDepth 20000
set_option linter.unusedVariables false

/-- Bytes of a row, and the number that stands there. -/
def sub (d : List Int) (k n : Nat) : List Int := (d.drop k).take n
def fld (d : List Int) (k n : Nat) : Int := le (sub d k n)

theorem sub_len {d : List Int} {k n : Nat} (h : k + n ≤ d.length) : (sub d k n).length = n := by
  unfold sub; rw [List.length_take, List.length_drop]; omega

theorem sub_sub {d : List Int} {k n p m : Nat} (h : p + m ≤ n) : sub (sub d k n) p m = sub d (k + p) m := by
  unfold sub
  rw [List.drop_take, List.take_take, List.drop_drop, Nat.min_eq_left (by omega)]

theorem fld_sub {d : List Int} {k n p m : Nat} (h : p + m ≤ n) : fld (sub d k n) p m = fld d (k + p) m := by
  unfold fld; rw [sub_sub h]

theorem byt_sub {d : List Int} (h : Byt d) (k n : Nat) : Byt (sub d k n) := byt_take (byt_drop h k) n

theorem fld_bound {d : List Int} (h : Byt d) (k n : Nat) : 0 ≤ fld d k n ∧ fld d k n < 256 ^ n := by
  have := le_bound (byt_sub h k n)
  refine ⟨this.1, Int.lt_of_lt_of_le this.2 ?_⟩
  have hl : (sub d k n).length ≤ n := by unfold sub; rw [List.length_take]; omega
  exact_mod_cast Nat.pow_le_pow_right (show 0 < 256 by omega) hl

theorem fld2 {d : List Int} (h : Byt d) (k : Nat) : 0 ≤ fld d k 2 ∧ fld d k 2 ≤ 65535 := by have := fld_bound h k 2; omega
theorem fld4 {d : List Int} (h : Byt d) (k : Nat) : 0 ≤ fld d k 4 ∧ fld d k 4 ≤ 4294967295 := by have := fld_bound h k 4; omega

/-- What a step of the cursor leaves. -/
structure Cst (w : World) (g : Nat) (w' : World) : Prop where
  block : ∀ k, k < w.heap.size → k ≠ g → w'.heap[k]? = w.heap[k]?
  size : w.heap.size ≤ w'.heap.size

theorem next_st {d : List Int} {p n : Nat} (h : p + n ≤ d.length) : nextSt ⟨d, p, 0⟩ (n : Int) = ⟨d, p + n, 0⟩ ∧ nextL ⟨d, p, 0⟩ (n : Int) = sub d p n := by
  have ok : okN ⟨d, p, 0⟩ (n : Int) := ⟨rfl, by omega, by show (n : Int) ≤ (d.length : Int) - (p : Int); omega⟩
  exact ⟨by rw [nextSt_ok ok]; simp, (nextL_ok ok).1⟩

/-- The error with which a record of n bytes and a signature doesn't begin at a place. -/
def beE (d : List Int) (at' : Int) (n : Nat) (sig : Int) : Int :=
  if at' < 0 ∨ (d.length : Int) < at' then 1 else if (d.length : Int) - at' < n then 122 else if fld d at'.toNat 4 ≠ sig then 123 else 0

theorem beE_ok {d : List Int} {at' : Int} {n : Nat} {sig : Int} (h : beE d at' n sig = 0) : ∃ k : Nat, at' = k ∧ k + n ≤ d.length ∧ fld d k 4 = sig := by
  unfold beE at h
  by_cases h0 : at' < 0 ∨ (d.length : Int) < at'
  · rw [if_pos h0] at h; omega
  · rw [if_neg h0] at h
    by_cases h1 : (d.length : Int) - at' < n
    · rw [if_pos h1] at h; omega
    · rw [if_neg h1] at h
      by_cases h2 : fld d at'.toNat 4 ≠ sig
      · rw [if_pos h2] at h; omega
      · exact ⟨at'.toNat, by omega, by omega, by simpa using h2⟩

/-- A part of a row that can be read. -/
theorem SB.part12 {w : World} {b o c : Nat} {l : List Int} (h : SB w (.slice (some ⟨b, o, none⟩) l.length c) l) {k n : Nat} (hk : k + n ≤ l.length) (hkc : k ≤ c) : SB w (.slice (some ⟨b, o + k, none⟩) n (c - k)) (sub l k n) := by
  obtain ⟨ao, cap, he, h1, h2, h3, h4⟩ := h
  simp only [Value.slice.injEq] at he
  obtain ⟨rfl, -, rfl⟩ := he
  refine ⟨some ⟨b, o + k, none⟩, c - k, by rw [sub_len hk], by rw [sub_len hk]; omega, Nat.le_trans (Nat.sub_le _ _) h2, (fun e => by cases e), fun x hx i hi => ?_⟩
  cases hx
  rw [sub_len hk] at hi
  have hc := h4 _ rfl (k + i) (by omega)
  rw [Addr.add_lit] at hc ⊢
  rw [Nat.add_assoc, hc]
  unfold sub
  simp [List.getD, hi]

end Go.Proofs.Ytmbgjkghcpkoiaa

namespace Go.Proofs.Ytmbgjkghcpkoiaa
open Go.RowKit Go.Maps
set_option maxRecDepth 20000
set_option linter.unusedVariables false
set_option linter.unusedSimpArgs false

theorem set7 {w : World} {c : Nat} {a0 a1 a2 a3 a4 a5 a6 : Value} {t : TypeId} (h : w.heap[c]? = some (.cells #[a0, a1, a2, a3, a4, a5, a6] t (0, 0))) :
    (∀ u, (w.setCell ⟨c, 0, none⟩ u).heap[c]? = some (.cells #[u, a1, a2, a3, a4, a5, a6] t (0, 0))) ∧ (∀ u, (w.setCell ⟨c, 1, none⟩ u).heap[c]? = some (.cells #[a0, u, a2, a3, a4, a5, a6] t (0, 0))) ∧ (∀ u, (w.setCell ⟨c, 2, none⟩ u).heap[c]? = some (.cells #[a0, a1, u, a3, a4, a5, a6] t (0, 0))) ∧ (∀ u, (w.setCell ⟨c, 3, none⟩ u).heap[c]? = some (.cells #[a0, a1, a2, u, a4, a5, a6] t (0, 0))) ∧ (∀ u, (w.setCell ⟨c, 4, none⟩ u).heap[c]? = some (.cells #[a0, a1, a2, a3, u, a5, a6] t (0, 0))) ∧ (∀ u, (w.setCell ⟨c, 5, none⟩ u).heap[c]? = some (.cells #[a0, a1, a2, a3, a4, u, a6] t (0, 0))) ∧ (∀ u, (w.setCell ⟨c, 6, none⟩ u).heap[c]? = some (.cells #[a0, a1, a2, a3, a4, a5, u] t (0, 0))) := by
  refine ⟨?_, ?_, ?_, ?_, ?_, ?_, ?_⟩ <;> intro u <;> rw [heap_setCell_at u h] <;> rfl

theorem put7 {w : World} {c : Nat} {a0 a1 a2 a3 a4 a5 a6 x0 x1 x2 x3 x4 x5 x6 : Value} {t : TypeId} (h : w.heap[c]? = some (.cells #[a0, a1, a2, a3, a4, a5, a6] t (0, 0))) :
    (((((((w.setCell ⟨c, 0, none⟩ x0).setCell ⟨c, 1, none⟩ x1).setCell ⟨c, 2, none⟩ x2).setCell ⟨c, 3, none⟩ x3).setCell ⟨c, 4, none⟩ x4).setCell ⟨c, 5, none⟩ x5).setCell ⟨c, 6, none⟩ x6).heap[c]? = some (.cells #[x0, x1, x2, x3, x4, x5, x6] t (0, 0)) := by
  have h0 := (set7 h).1 x0
  have h1 := (set7 h0).2.1 x1
  have h2 := (set7 h1).2.2.1 x2
  have h3 := (set7 h2).2.2.2.1 x3
  have h4 := (set7 h3).2.2.2.2.1 x4
  have h5 := (set7 h4).2.2.2.2.2.1 x5
  have h6 := (set7 h5).2.2.2.2.2.2 x6
  exact h6

theorem put7_below {w w0 : World} {c B : Nat} {x0 x1 x2 x3 x4 x5 x6 : Value} (h : Below B w0 w) (hB : B ≤ c) : Below B w0 (((((((w.setCell ⟨c, 0, none⟩ x0).setCell ⟨c, 1, none⟩ x1).setCell ⟨c, 2, none⟩ x2).setCell ⟨c, 3, none⟩ x3).setCell ⟨c, 4, none⟩ x4).setCell ⟨c, 5, none⟩ x5).setCell ⟨c, 6, none⟩ x6) :=
  (((((((h.setCell (p := ⟨c, 0, none⟩) hB _).setCell (p := ⟨c, 1, none⟩) hB _).setCell (p := ⟨c, 2, none⟩) hB _).setCell (p := ⟨c, 3, none⟩) hB _).setCell (p := ⟨c, 4, none⟩) hB _).setCell (p := ⟨c, 5, none⟩) hB _).setCell (p := ⟨c, 6, none⟩) hB _)

theorem set10 {w : World} {c : Nat} {a0 a1 a2 a3 a4 a5 a6 a7 a8 a9 : Value} {t : TypeId} (h : w.heap[c]? = some (.cells #[a0, a1, a2, a3, a4, a5, a6, a7, a8, a9] t (0, 0))) :
    (∀ u, (w.setCell ⟨c, 0, none⟩ u).heap[c]? = some (.cells #[u, a1, a2, a3, a4, a5, a6, a7, a8, a9] t (0, 0))) ∧ (∀ u, (w.setCell ⟨c, 1, none⟩ u).heap[c]? = some (.cells #[a0, u, a2, a3, a4, a5, a6, a7, a8, a9] t (0, 0))) ∧ (∀ u, (w.setCell ⟨c, 2, none⟩ u).heap[c]? = some (.cells #[a0, a1, u, a3, a4, a5, a6, a7, a8, a9] t (0, 0))) ∧ (∀ u, (w.setCell ⟨c, 3, none⟩ u).heap[c]? = some (.cells #[a0, a1, a2, u, a4, a5, a6, a7, a8, a9] t (0, 0))) ∧ (∀ u, (w.setCell ⟨c, 4, none⟩ u).heap[c]? = some (.cells #[a0, a1, a2, a3, u, a5, a6, a7, a8, a9] t (0, 0))) ∧ (∀ u, (w.setCell ⟨c, 5, none⟩ u).heap[c]? = some (.cells #[a0, a1, a2, a3, a4, u, a6, a7, a8, a9] t (0, 0))) ∧ (∀ u, (w.setCell ⟨c, 6, none⟩ u).heap[c]? = some (.cells #[a0, a1, a2, a3, a4, a5, u, a7, a8, a9] t (0, 0))) ∧ (∀ u, (w.setCell ⟨c, 7, none⟩ u).heap[c]? = some (.cells #[a0, a1, a2, a3, a4, a5, a6, u, a8, a9] t (0, 0))) ∧ (∀ u, (w.setCell ⟨c, 8, none⟩ u).heap[c]? = some (.cells #[a0, a1, a2, a3, a4, a5, a6, a7, u, a9] t (0, 0))) ∧ (∀ u, (w.setCell ⟨c, 9, none⟩ u).heap[c]? = some (.cells #[a0, a1, a2, a3, a4, a5, a6, a7, a8, u] t (0, 0))) := by
  refine ⟨?_, ?_, ?_, ?_, ?_, ?_, ?_, ?_, ?_, ?_⟩ <;> intro u <;> rw [heap_setCell_at u h] <;> rfl

theorem put10 {w : World} {c : Nat} {a0 a1 a2 a3 a4 a5 a6 a7 a8 a9 x0 x1 x2 x3 x4 x5 x6 x7 x8 x9 : Value} {t : TypeId} (h : w.heap[c]? = some (.cells #[a0, a1, a2, a3, a4, a5, a6, a7, a8, a9] t (0, 0))) :
    ((((((((((w.setCell ⟨c, 0, none⟩ x0).setCell ⟨c, 1, none⟩ x1).setCell ⟨c, 2, none⟩ x2).setCell ⟨c, 3, none⟩ x3).setCell ⟨c, 4, none⟩ x4).setCell ⟨c, 5, none⟩ x5).setCell ⟨c, 6, none⟩ x6).setCell ⟨c, 7, none⟩ x7).setCell ⟨c, 8, none⟩ x8).setCell ⟨c, 9, none⟩ x9).heap[c]? = some (.cells #[x0, x1, x2, x3, x4, x5, x6, x7, x8, x9] t (0, 0)) := by
  have h0 := (set10 h).1 x0
  have h1 := (set10 h0).2.1 x1
  have h2 := (set10 h1).2.2.1 x2
  have h3 := (set10 h2).2.2.2.1 x3
  have h4 := (set10 h3).2.2.2.2.1 x4
  have h5 := (set10 h4).2.2.2.2.2.1 x5
  have h6 := (set10 h5).2.2.2.2.2.2.1 x6
  have h7 := (set10 h6).2.2.2.2.2.2.2.1 x7
  have h8 := (set10 h7).2.2.2.2.2.2.2.2.1 x8
  have h9 := (set10 h8).2.2.2.2.2.2.2.2.2 x9
  exact h9

theorem put10_below {w w0 : World} {c B : Nat} {x0 x1 x2 x3 x4 x5 x6 x7 x8 x9 : Value} (h : Below B w0 w) (hB : B ≤ c) : Below B w0 ((((((((((w.setCell ⟨c, 0, none⟩ x0).setCell ⟨c, 1, none⟩ x1).setCell ⟨c, 2, none⟩ x2).setCell ⟨c, 3, none⟩ x3).setCell ⟨c, 4, none⟩ x4).setCell ⟨c, 5, none⟩ x5).setCell ⟨c, 6, none⟩ x6).setCell ⟨c, 7, none⟩ x7).setCell ⟨c, 8, none⟩ x8).setCell ⟨c, 9, none⟩ x9) :=
  ((((((((((h.setCell (p := ⟨c, 0, none⟩) hB _).setCell (p := ⟨c, 1, none⟩) hB _).setCell (p := ⟨c, 2, none⟩) hB _).setCell (p := ⟨c, 3, none⟩) hB _).setCell (p := ⟨c, 4, none⟩) hB _).setCell (p := ⟨c, 5, none⟩) hB _).setCell (p := ⟨c, 6, none⟩) hB _).setCell (p := ⟨c, 7, none⟩) hB _).setCell (p := ⟨c, 8, none⟩) hB _).setCell (p := ⟨c, 9, none⟩) hB _)

theorem set16 {w : World} {c : Nat} {a0 a1 a2 a3 a4 a5 a6 a7 a8 a9 a10 a11 a12 a13 a14 a15 : Value} {t : TypeId} (h : w.heap[c]? = some (.cells #[a0, a1, a2, a3, a4, a5, a6, a7, a8, a9, a10, a11, a12, a13, a14, a15] t (0, 0))) :
    (∀ u, (w.setCell ⟨c, 0, none⟩ u).heap[c]? = some (.cells #[u, a1, a2, a3, a4, a5, a6, a7, a8, a9, a10, a11, a12, a13, a14, a15] t (0, 0))) ∧ (∀ u, (w.setCell ⟨c, 1, none⟩ u).heap[c]? = some (.cells #[a0, u, a2, a3, a4, a5, a6, a7, a8, a9, a10, a11, a12, a13, a14, a15] t (0, 0))) ∧ (∀ u, (w.setCell ⟨c, 2, none⟩ u).heap[c]? = some (.cells #[a0, a1, u, a3, a4, a5, a6, a7, a8, a9, a10, a11, a12, a13, a14, a15] t (0, 0))) ∧ (∀ u, (w.setCell ⟨c, 3, none⟩ u).heap[c]? = some (.cells #[a0, a1, a2, u, a4, a5, a6, a7, a8, a9, a10, a11, a12, a13, a14, a15] t (0, 0))) ∧ (∀ u, (w.setCell ⟨c, 4, none⟩ u).heap[c]? = some (.cells #[a0, a1, a2, a3, u, a5, a6, a7, a8, a9, a10, a11, a12, a13, a14, a15] t (0, 0))) ∧ (∀ u, (w.setCell ⟨c, 5, none⟩ u).heap[c]? = some (.cells #[a0, a1, a2, a3, a4, u, a6, a7, a8, a9, a10, a11, a12, a13, a14, a15] t (0, 0))) ∧ (∀ u, (w.setCell ⟨c, 6, none⟩ u).heap[c]? = some (.cells #[a0, a1, a2, a3, a4, a5, u, a7, a8, a9, a10, a11, a12, a13, a14, a15] t (0, 0))) ∧ (∀ u, (w.setCell ⟨c, 7, none⟩ u).heap[c]? = some (.cells #[a0, a1, a2, a3, a4, a5, a6, u, a8, a9, a10, a11, a12, a13, a14, a15] t (0, 0))) ∧ (∀ u, (w.setCell ⟨c, 8, none⟩ u).heap[c]? = some (.cells #[a0, a1, a2, a3, a4, a5, a6, a7, u, a9, a10, a11, a12, a13, a14, a15] t (0, 0))) ∧ (∀ u, (w.setCell ⟨c, 9, none⟩ u).heap[c]? = some (.cells #[a0, a1, a2, a3, a4, a5, a6, a7, a8, u, a10, a11, a12, a13, a14, a15] t (0, 0))) ∧ (∀ u, (w.setCell ⟨c, 10, none⟩ u).heap[c]? = some (.cells #[a0, a1, a2, a3, a4, a5, a6, a7, a8, a9, u, a11, a12, a13, a14, a15] t (0, 0))) ∧ (∀ u, (w.setCell ⟨c, 11, none⟩ u).heap[c]? = some (.cells #[a0, a1, a2, a3, a4, a5, a6, a7, a8, a9, a10, u, a12, a13, a14, a15] t (0, 0))) ∧ (∀ u, (w.setCell ⟨c, 12, none⟩ u).heap[c]? = some (.cells #[a0, a1, a2, a3, a4, a5, a6, a7, a8, a9, a10, a11, u, a13, a14, a15] t (0, 0))) ∧ (∀ u, (w.setCell ⟨c, 13, none⟩ u).heap[c]? = some (.cells #[a0, a1, a2, a3, a4, a5, a6, a7, a8, a9, a10, a11, a12, u, a14, a15] t (0, 0))) ∧ (∀ u, (w.setCell ⟨c, 14, none⟩ u).heap[c]? = some (.cells #[a0, a1, a2, a3, a4, a5, a6, a7, a8, a9, a10, a11, a12, a13, u, a15] t (0, 0))) ∧ (∀ u, (w.setCell ⟨c, 15, none⟩ u).heap[c]? = some (.cells #[a0, a1, a2, a3, a4, a5, a6, a7, a8, a9, a10, a11, a12, a13, a14, u] t (0, 0))) := by
  refine ⟨?_, ?_, ?_, ?_, ?_, ?_, ?_, ?_, ?_, ?_, ?_, ?_, ?_, ?_, ?_, ?_⟩ <;> intro u <;> rw [heap_setCell_at u h] <;> rfl

theorem put16 {w : World} {c : Nat} {a0 a1 a2 a3 a4 a5 a6 a7 a8 a9 a10 a11 a12 a13 a14 a15 x0 x1 x2 x3 x4 x5 x6 x7 x8 x9 x10 x11 x12 x13 x14 x15 : Value} {t : TypeId} (h : w.heap[c]? = some (.cells #[a0, a1, a2, a3, a4, a5, a6, a7, a8, a9, a10, a11, a12, a13, a14, a15] t (0, 0))) :
    ((((((((((((((((w.setCell ⟨c, 0, none⟩ x0).setCell ⟨c, 1, none⟩ x1).setCell ⟨c, 2, none⟩ x2).setCell ⟨c, 3, none⟩ x3).setCell ⟨c, 4, none⟩ x4).setCell ⟨c, 5, none⟩ x5).setCell ⟨c, 6, none⟩ x6).setCell ⟨c, 7, none⟩ x7).setCell ⟨c, 8, none⟩ x8).setCell ⟨c, 9, none⟩ x9).setCell ⟨c, 10, none⟩ x10).setCell ⟨c, 11, none⟩ x11).setCell ⟨c, 12, none⟩ x12).setCell ⟨c, 13, none⟩ x13).setCell ⟨c, 14, none⟩ x14).setCell ⟨c, 15, none⟩ x15).heap[c]? = some (.cells #[x0, x1, x2, x3, x4, x5, x6, x7, x8, x9, x10, x11, x12, x13, x14, x15] t (0, 0)) := by
  have h0 := (set16 h).1 x0
  have h1 := (set16 h0).2.1 x1
  have h2 := (set16 h1).2.2.1 x2
  have h3 := (set16 h2).2.2.2.1 x3
  have h4 := (set16 h3).2.2.2.2.1 x4
  have h5 := (set16 h4).2.2.2.2.2.1 x5
  have h6 := (set16 h5).2.2.2.2.2.2.1 x6
  have h7 := (set16 h6).2.2.2.2.2.2.2.1 x7
  have h8 := (set16 h7).2.2.2.2.2.2.2.2.1 x8
  have h9 := (set16 h8).2.2.2.2.2.2.2.2.2.1 x9
  have h10 := (set16 h9).2.2.2.2.2.2.2.2.2.2.1 x10
  have h11 := (set16 h10).2.2.2.2.2.2.2.2.2.2.2.1 x11
  have h12 := (set16 h11).2.2.2.2.2.2.2.2.2.2.2.2.1 x12
  have h13 := (set16 h12).2.2.2.2.2.2.2.2.2.2.2.2.2.1 x13
  have h14 := (set16 h13).2.2.2.2.2.2.2.2.2.2.2.2.2.2.1 x14
  have h15 := (set16 h14).2.2.2.2.2.2.2.2.2.2.2.2.2.2.2 x15
  exact h15

theorem put16_below {w w0 : World} {c B : Nat} {x0 x1 x2 x3 x4 x5 x6 x7 x8 x9 x10 x11 x12 x13 x14 x15 : Value} (h : Below B w0 w) (hB : B ≤ c) : Below B w0 ((((((((((((((((w.setCell ⟨c, 0, none⟩ x0).setCell ⟨c, 1, none⟩ x1).setCell ⟨c, 2, none⟩ x2).setCell ⟨c, 3, none⟩ x3).setCell ⟨c, 4, none⟩ x4).setCell ⟨c, 5, none⟩ x5).setCell ⟨c, 6, none⟩ x6).setCell ⟨c, 7, none⟩ x7).setCell ⟨c, 8, none⟩ x8).setCell ⟨c, 9, none⟩ x9).setCell ⟨c, 10, none⟩ x10).setCell ⟨c, 11, none⟩ x11).setCell ⟨c, 12, none⟩ x12).setCell ⟨c, 13, none⟩ x13).setCell ⟨c, 14, none⟩ x14).setCell ⟨c, 15, none⟩ x15) :=
  ((((((((((((((((h.setCell (p := ⟨c, 0, none⟩) hB _).setCell (p := ⟨c, 1, none⟩) hB _).setCell (p := ⟨c, 2, none⟩) hB _).setCell (p := ⟨c, 3, none⟩) hB _).setCell (p := ⟨c, 4, none⟩) hB _).setCell (p := ⟨c, 5, none⟩) hB _).setCell (p := ⟨c, 6, none⟩) hB _).setCell (p := ⟨c, 7, none⟩) hB _).setCell (p := ⟨c, 8, none⟩) hB _).setCell (p := ⟨c, 9, none⟩) hB _).setCell (p := ⟨c, 10, none⟩) hB _).setCell (p := ⟨c, 11, none⟩) hB _).setCell (p := ⟨c, 12, none⟩) hB _).setCell (p := ⟨c, 13, none⟩) hB _).setCell (p := ⟨c, 14, none⟩) hB _).setCell (p := ⟨c, 15, none⟩) hB _)

theorem drew_heap12 (w : World) : w.drew.heap = w.heap := rfl

theorem put7d {w : World} {c : Nat} {a0 a1 a2 a3 a4 a5 a6 x0 x1 x2 x3 x4 x5 x6 : Value} {t : TypeId} (h : w.heap[c]? = some (.cells #[a0, a1, a2, a3, a4, a5, a6] t (0, 0))) :
    (((((((w.setCell ⟨c, 0, none⟩ x0).setCell ⟨c, 1, none⟩ x1).setCell ⟨c, 2, none⟩ x2).setCell ⟨c, 3, none⟩ x3).setCell ⟨c, 4, none⟩ x4).setCell ⟨c, 5, none⟩ x5).setCell ⟨c, 6, none⟩ x6).drew.heap[c]? = some (.cells #[x0, x1, x2, x3, x4, x5, x6] t (0, 0)) := by rw [drew_heap12]; exact put7 h

theorem put7d_below {w w0 : World} {c B : Nat} {x0 x1 x2 x3 x4 x5 x6 : Value} (h : Below B w0 w) (hB : B ≤ c) : Below B w0 (((((((w.setCell ⟨c, 0, none⟩ x0).setCell ⟨c, 1, none⟩ x1).setCell ⟨c, 2, none⟩ x2).setCell ⟨c, 3, none⟩ x3).setCell ⟨c, 4, none⟩ x4).setCell ⟨c, 5, none⟩ x5).setCell ⟨c, 6, none⟩ x6).drew := (put7_below h hB).drew

theorem put10d {w : World} {c : Nat} {a0 a1 a2 a3 a4 a5 a6 a7 a8 a9 x0 x1 x2 x3 x4 x5 x6 x7 x8 x9 : Value} {t : TypeId} (h : w.heap[c]? = some (.cells #[a0, a1, a2, a3, a4, a5, a6, a7, a8, a9] t (0, 0))) :
    ((((((((((w.setCell ⟨c, 0, none⟩ x0).setCell ⟨c, 1, none⟩ x1).setCell ⟨c, 2, none⟩ x2).setCell ⟨c, 3, none⟩ x3).setCell ⟨c, 4, none⟩ x4).setCell ⟨c, 5, none⟩ x5).setCell ⟨c, 6, none⟩ x6).setCell ⟨c, 7, none⟩ x7).setCell ⟨c, 8, none⟩ x8).setCell ⟨c, 9, none⟩ x9).drew.heap[c]? = some (.cells #[x0, x1, x2, x3, x4, x5, x6, x7, x8, x9] t (0, 0)) := by rw [drew_heap12]; exact put10 h

theorem put10d_below {w w0 : World} {c B : Nat} {x0 x1 x2 x3 x4 x5 x6 x7 x8 x9 : Value} (h : Below B w0 w) (hB : B ≤ c) : Below B w0 ((((((((((w.setCell ⟨c, 0, none⟩ x0).setCell ⟨c, 1, none⟩ x1).setCell ⟨c, 2, none⟩ x2).setCell ⟨c, 3, none⟩ x3).setCell ⟨c, 4, none⟩ x4).setCell ⟨c, 5, none⟩ x5).setCell ⟨c, 6, none⟩ x6).setCell ⟨c, 7, none⟩ x7).setCell ⟨c, 8, none⟩ x8).setCell ⟨c, 9, none⟩ x9).drew := (put10_below h hB).drew

theorem put16d {w : World} {c : Nat} {a0 a1 a2 a3 a4 a5 a6 a7 a8 a9 a10 a11 a12 a13 a14 a15 x0 x1 x2 x3 x4 x5 x6 x7 x8 x9 x10 x11 x12 x13 x14 x15 : Value} {t : TypeId} (h : w.heap[c]? = some (.cells #[a0, a1, a2, a3, a4, a5, a6, a7, a8, a9, a10, a11, a12, a13, a14, a15] t (0, 0))) :
    ((((((((((((((((w.setCell ⟨c, 0, none⟩ x0).setCell ⟨c, 1, none⟩ x1).setCell ⟨c, 2, none⟩ x2).setCell ⟨c, 3, none⟩ x3).setCell ⟨c, 4, none⟩ x4).setCell ⟨c, 5, none⟩ x5).setCell ⟨c, 6, none⟩ x6).setCell ⟨c, 7, none⟩ x7).setCell ⟨c, 8, none⟩ x8).setCell ⟨c, 9, none⟩ x9).setCell ⟨c, 10, none⟩ x10).setCell ⟨c, 11, none⟩ x11).setCell ⟨c, 12, none⟩ x12).setCell ⟨c, 13, none⟩ x13).setCell ⟨c, 14, none⟩ x14).setCell ⟨c, 15, none⟩ x15).drew.heap[c]? = some (.cells #[x0, x1, x2, x3, x4, x5, x6, x7, x8, x9, x10, x11, x12, x13, x14, x15] t (0, 0)) := by rw [drew_heap12]; exact put16 h

theorem put16d_below {w w0 : World} {c B : Nat} {x0 x1 x2 x3 x4 x5 x6 x7 x8 x9 x10 x11 x12 x13 x14 x15 : Value} (h : Below B w0 w) (hB : B ≤ c) : Below B w0 ((((((((((((((((w.setCell ⟨c, 0, none⟩ x0).setCell ⟨c, 1, none⟩ x1).setCell ⟨c, 2, none⟩ x2).setCell ⟨c, 3, none⟩ x3).setCell ⟨c, 4, none⟩ x4).setCell ⟨c, 5, none⟩ x5).setCell ⟨c, 6, none⟩ x6).setCell ⟨c, 7, none⟩ x7).setCell ⟨c, 8, none⟩ x8).setCell ⟨c, 9, none⟩ x9).setCell ⟨c, 10, none⟩ x10).setCell ⟨c, 11, none⟩ x11).setCell ⟨c, 12, none⟩ x12).setCell ⟨c, 13, none⟩ x13).setCell ⟨c, 14, none⟩ x14).setCell ⟨c, 15, none⟩ x15).drew := (put16_below h hB).drew

theorem box_free {w : World} {c : Nat} {cs : Array Value} {t : TypeId} (h : w.heap[c]? = some (.cells cs t (0, 0))) : ∀ i, w.frozen? ⟨c, i, none⟩ = false := fun i => by simp [World.frozen?, h]

theorem SB.rs12 {w : World} {v : Value} {l : List Int} (h : SB w v l) : RS w v l := by
  obtain ⟨ao, cap, rfl, h1, h2, h3, h4⟩ := h
  refine ⟨ao, cap, rfl, Nat.le_trans h1 h2, fun hne => ?_⟩
  have hp : 0 < l.length := List.length_pos_iff.2 hne
  cases ao with
  | none => have := h3 rfl; omega
  | some x =>
    obtain ⟨b, o, rfl⟩ := addr_lit (h4 x rfl 0 hp)
    exact ⟨b, o, rfl, fun i hi => by have := h4 _ rfl i hi; rwa [Addr.add_lit] at this⟩

theorem next_err {d : List Int} {p : Nat} {e : Int} (he : e ≠ 0) (n : Int) : nextSt ⟨d, p, e⟩ n = ⟨d, p, e⟩ := by
  unfold nextSt; rw [if_pos he]

theorem next_short {d : List Int} {p n : Nat} (h : d.length < p + n) : nextSt ⟨d, p, 0⟩ (n : Int) = ⟨d, p, 20⟩ := by
  unfold nextSt
  rw [if_neg (by simp), if_neg (by omega), if_pos (by show (d.length : Int) - (p : Int) < (n : Int); omega)]

end Go.Proofs.Ytmbgjkghcpkoiaa

