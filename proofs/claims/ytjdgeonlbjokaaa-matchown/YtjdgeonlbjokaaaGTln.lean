import Derived.Test.YtjdgeonlbjokaaaGTnm
import Derived.Test.YtjdgeonlbjokaaaGBp
namespace Go.Proofs.Ytjdgeonlbjokaaa
set_option linter.unusedVariables false

/-- The three bytes at a place. -/
def thk (D : List Int) (p : Nat) : Int × Int × Int := (D.getD p 0, D.getD (p + 1) 0, D.getD (p + 2) 0)

/-- The places of three bytes, among n from a on, rising. -/
def plc (D : List Int) (k : Int × Int × Int) (a n : Nat) : List Nat := (List.range' a n).filter fun p => decide (thk D p = k)

theorem plc_zero (D : List Int) (k : Int × Int × Int) (a : Nat) : plc D k a 0 = [] := rfl

theorem plc_snoc (D : List Int) (k : Int × Int × Int) (a n : Nat) : plc D k a (n + 1) = plc D k a n ++ (if thk D (a + n) = k then [a + n] else []) := by
  unfold plc
  rw [List.range'_1_concat, List.filter_append]
  congr 1
  by_cases h : thk D (a + n) = k
  · simp [h]
  · simp [h]

theorem plc_cons (D : List Int) (k : Int × Int × Int) (a n : Nat) : plc D k a (n + 1) = (if thk D a = k then [a] else []) ++ plc D k (a + 1) n := by
  unfold plc
  rw [List.range'_succ, List.filter_cons]
  by_cases h : thk D a = k
  · simp [h]
  · simp [h]

theorem plc_enter (D : List Int) (a n : Nat) : plc D (thk D (a + n)) a (n + 1) = plc D (thk D (a + n)) a n ++ [a + n] := by rw [plc_snoc, if_pos rfl]
theorem plc_enter_ne {D : List Int} {k : Int × Int × Int} {a n : Nat} (h : thk D (a + n) ≠ k) : plc D k a (n + 1) = plc D k a n := by rw [plc_snoc, if_neg h, List.append_nil]
theorem plc_leave (D : List Int) (a n : Nat) : plc D (thk D a) a (n + 1) = a :: plc D (thk D a) (a + 1) n := by rw [plc_cons, if_pos rfl]; rfl
theorem plc_leave_ne {D : List Int} {k : Int × Int × Int} {a n : Nat} (h : thk D a ≠ k) : plc D k a (n + 1) = plc D k (a + 1) n := by rw [plc_cons, if_neg h, List.nil_append]

theorem plc_len (D : List Int) (k : Int × Int × Int) (a n : Nat) : (plc D k a n).length ≤ n := by
  unfold plc
  have := List.length_filter_le (fun p => decide (thk D p = k)) (List.range' a n)
  simpa using this

theorem plc_asc {D : List Int} {i : Nat} (a n : Nat) (h : i + 3 ≤ D.length) : plc D (thk D i) a n = asc D i a n := by
  unfold plc asc
  apply List.filter_congr
  intro p _
  have : (thk D p = thk D i) ↔ Cnd D p i := by
    unfold thk Cnd
    simp only [Prod.mk.injEq]
    constructor
    · rintro ⟨h1, h2, h3⟩; exact ⟨by omega, h1, h2, h3⟩
    · rintro ⟨_, h1, h2, h3⟩; exact ⟨h1, h2, h3⟩
  simp only [this]

theorem bst_none {D : List Int} {i W C : Nat} (h : ¬ i + 3 ≤ D.length) : bst D i W C = (0, 0) := by
  unfold bst cds
  rw [asc_none h]
  simp [pick]

/-- What the teller's best tells. -/
def bb (D : List Int) (W C i b : Nat) : Nat × Nat := if b < (bst D i W C).1 then bst D i W C else (0, 0)

theorem bb_near {D : List Int} {W C i b : Nat} (h : i + 3 ≤ D.length) : lng D i (((plc D (thk D i) (i - min i W) (min i W)).drop ((plc D (thk D i) (i - min i W) (min i W)).length - C)).reverse) b = bb D W C i b := by
  rw [plc_asc _ _ h, near_rev]
  show lng D i ((cds D i (min i W)).take C) b = _
  rw [lng_eq fun j hj => (cds_mem (Nat.min_le_left _ _) (List.mem_of_mem_take hj)).2.1]
  rfl

theorem bb_none {D : List Int} {W C i b : Nat} (h : ¬ i + 3 ≤ D.length) : bb D W C i b = (0, 0) := by
  unfold bb
  rw [bst_none h]
  simp

theorem bb_two {D : List Int} {W C i : Nat} : bb D W C i 2 = bst D i W C := by
  unfold bb
  rcases bst_facts (D := D) (i := i) (W := W) (C := C) with h | ⟨j, _, _, _, h4, h5, _⟩
  · rw [h]; simp
  · rw [h5, if_pos (by simp only; omega)]

/-- What is put off. -/
def ofb (D : List Int) (W C : Nat) (z : Bool) (i : Nat) : Nat × Nat := if z = true ∧ (bst D i W C).1 ≠ 0 then bb D W C (i + 1) (bst D i W C).1 else (0, 0)

theorem lit_ofb {D : List Int} {W C : Nat} {z : Bool} {i : Nat} : Lit D W C z i ↔ ((bst D i W C).1 = 0 ∨ 0 < (ofb D W C z i).1) := by
  unfold Lit ofb bb
  by_cases h0 : (bst D i W C).1 = 0
  · simp [h0]
  · by_cases hz : z = true
    · rw [if_pos ⟨hz, h0⟩]
      by_cases hl : (bst D i W C).1 < (bst D (i + 1) W C).1
      · rw [if_pos hl]
        refine ⟨fun _ => .inr (by omega), fun _ => .inr ⟨hz, ?_, hl⟩⟩
        by_cases e : i + 1 + 3 ≤ D.length
        · omega
        · rw [bst_none e] at hl; simp at hl
      · rw [if_neg hl]
        constructor
        · rintro (h | ⟨_, _, h⟩)
          · exact .inl h
          · exact absurd h hl
        · rintro (h | h)
          · exact .inl h
          · simp at h
    · rw [if_neg (fun q => hz q.1)]
      constructor
      · rintro (h | ⟨h, _⟩)
        · exact .inl h
        · exact absurd h hz
      · rintro (h | h)
        · exact .inl h
        · simp at h

/-- What the teller carries on: nothing, or the best copy of the next place. -/
def Cry (D : List Int) (W C i : Nat) (s : Nat × Nat) : Prop := s = (0, 0) ∨ (s.1 ≠ 0 ∧ s = bst D i W C)

theorem cry_go {D : List Int} {W C : Nat} {z : Bool} {i : Nat} (hi : i < D.length) : Cry D W C (i + says (tok D W C z i)) (ofb D W C z i) := by
  by_cases h : Lit D W C z i
  · rw [says_lit h]
    unfold ofb bb
    split
    · split
      · exact .inr ⟨by omega, rfl⟩
      · exact .inl rfl
    · exact .inl rfl
  · left
    have : ¬ 0 < (ofb D W C z i).1 := fun q => h (lit_ofb.2 (.inr q))
    unfold ofb bb at this ⊢
    split
    · rename_i q
      rw [if_pos q] at this
      split
      · rename_i q2
        rw [if_pos q2] at this
        omega
      · rfl
    · rfl

theorem tks_go {D : List Int} {W C : Nat} {z : Bool} {n i : Nat} (hi : i < D.length) : tks D W C z (n + 1) i = tok D W C z i :: tks D W C z n (i + says (tok D W C z i)) := by simp only [tks, if_pos hi]
theorem tks_end {D : List Int} {W C : Nat} {z : Bool} {n i : Nat} (hi : ¬ i < D.length) : tks D W C z n i = [] := by cases n <;> simp [tks, hi]
end Go.Proofs.Ytjdgeonlbjokaaa

