import Derived.Test.YtjjepgkcgbbmhaaGGds
namespace Go.Proofs.Ytjjepgkcgbbmhaa
open Go.RowKit Go.Maps
set_option maxRecDepth 20000
set_option linter.unusedVariables false
set_option linter.unusedSimpArgs false

theorem le4_inj {x y : Int} (hx0 : 0 ≤ x) (hx1 : x < 4294967296) (hy0 : 0 ≤ y) (hy1 : y < 4294967296) (h : bytesLE x 4 = bytesLE y 4) : x = y := by
  simp only [bytesLE, List.cons.injEq, and_true] at h
  omega

theorem pfx_iff (D p : List Int) : pfx D p = true ↔ D.take p.length = p := by unfold pfx eqB; simp

theorem pfx_app (p r : List Int) : pfx (p ++ r) p = true := by rw [pfx_iff]; simp

/-- Two rows that begin with numbers of 32 bits. -/
theorem pfx_head {x y : Int} {a b : List Int} (hx0 : 0 ≤ x) (hx1 : x < 4294967296) (hy0 : 0 ≤ y) (hy1 : y < 4294967296) (h : pfx (bytesLE x 4 ++ a) (bytesLE y 4 ++ b) = true) : x = y ∧ pfx a b = true := by
  rw [pfx_iff, List.length_append, length_bytesLE, List.take_append, length_bytesLE, List.take_of_length_le (by rw [length_bytesLE]; omega)] at h
  have h4 := congrArg (List.take 4) h
  have h5 := congrArg (List.drop 4) h
  rw [List.take_append_of_le_length (by rw [length_bytesLE]; omega), List.take_append_of_le_length (by rw [length_bytesLE]; omega), List.take_of_length_le (by rw [length_bytesLE]; omega), List.take_of_length_le (by rw [length_bytesLE]; omega)] at h4
  rw [List.drop_append_of_le_length (by rw [length_bytesLE]; omega), List.drop_append_of_le_length (by rw [length_bytesLE]; omega), List.drop_of_length_le (by rw [length_bytesLE]; omega), List.drop_of_length_le (by rw [length_bytesLE]; omega), List.nil_append, List.nil_append] at h5
  refine ⟨le4_inj hx0 hx1 hy0 hy1 h4, ?_⟩
  rw [pfx_iff]
  have e : 4 + b.length - 4 = b.length := by omega
  rw [e] at h5
  exact h5

theorem ds_true (l : Loc) : rowI (dsI l true) = bytesLE 134695760 4 ++ rowI (dsI l false) := by simp [dsI, dsT, rowI, itB]
theorem ds_false (l : Loc) : rowI (dsI l false) = bytesLE l.sum 4 ++ (bytesLE l.packed 4 ++ bytesLE l.size 4) := by simp [dsI, dsT, rowI, itB]

/-- P12.11 at a place where something stands, where the numbers fit. -/
theorem gd_at {a D : List Int} {l : Loc} (hf : fitI (dsI l true)) : gdN (a ++ D) (a.length : Int) l = (if pfx D (rowI (dsI l true)) then 16 else if pfx D (rowI (dsI l false)) then 12 else 0) ∧
    gdE (a ++ D) (a.length : Int) l = (if pfx D (rowI (dsI l true)) then 0 else if pfx D (rowI (dsI l false)) then 0 else if (D.length : Int) < 12 then 122 else 123) := by
  have hx : ¬ ((a.length : Int) < 0 ∨ (((a ++ D).length : Nat) : Int) < (a.length : Int)) := by rw [List.length_append]; omega
  have hf' : ¬ ¬ fitI (dsI l true) := fun x => x hf
  have e : (a ++ D).drop ((a.length : Int)).toNat = D := by rw [Int.toNat_natCast, List.drop_left]
  have e2 : (((a ++ D).length : Nat) : Int) - (a.length : Int) = (D.length : Int) := by rw [List.length_append]; omega
  unfold gdN gdE
  rw [if_neg hx, if_neg hx, if_neg hf', if_neg hf', e, e2]
  exact ⟨rfl, rfl⟩

/-- A descriptor that stands there, in its form. -/
theorem gd_self {a r : List Int} {l : Loc} (ok : l.Ok) (b : Bool) (hf : fitI (dsI l true)) :
    gdE (a ++ (rowI (dsI l b) ++ r)) (a.length : Int) l = 0 ∧ (gdN (a ++ (rowI (dsI l b) ++ r)) (a.length : Int) l = (if b then 16 else 12) ∨ l.sum = 134695760) := by
  obtain ⟨h1, h2⟩ := gd_at (a := a) (D := rowI (dsI l b) ++ r) hf
  rw [h1, h2]
  cases b with
  | true => rw [if_pos (pfx_app _ _), if_pos (pfx_app _ _)]; exact ⟨rfl, .inl rfl⟩
  | false =>
    by_cases hp : pfx (rowI (dsI l false) ++ r) (rowI (dsI l true)) = true
    · rw [if_pos hp, if_pos hp]
      refine ⟨rfl, .inr ?_⟩
      rw [ds_true, ds_false, List.append_assoc] at hp
      exact (pfx_head ok.sum0 ok.sum1 (by omega) (by omega) hp).1
    · rw [if_neg hp, if_neg hp, if_pos (pfx_app _ _), if_pos (pfx_app _ _)]
      exact ⟨rfl, .inl rfl⟩

/-- Four bytes on, the signed one is the one that is not signed. -/
theorem gd_four {a r : List Int} {l : Loc} (ok : l.Ok) (hf : fitI (dsI l true)) (hs : l.sum ≠ 134695760) :
    gdE (a ++ (rowI (dsI l true) ++ r)) ((a.length + 4 : Nat) : Int) l = 0 ∧ gdN (a ++ (rowI (dsI l true) ++ r)) ((a.length + 4 : Nat) : Int) l = 12 := by
  have e : a ++ (rowI (dsI l true) ++ r) = (a ++ bytesLE 134695760 4) ++ (rowI (dsI l false) ++ r) := by rw [ds_true]; simp [List.append_assoc]
  have e2 : (a ++ bytesLE 134695760 4).length = a.length + 4 := by rw [List.length_append, length_bytesLE]
  rw [e, ← e2]
  obtain ⟨h1, h2⟩ := gd_self (a := a ++ bytesLE 134695760 4) (r := r) ok false hf
  refine ⟨h1, ?_⟩
  rcases h2 with h | h
  · exact h
  · exact absurd h hs

/-- With another sum it is not found. -/
theorem gd_other {a r : List Int} {l : Loc} (ok : l.Ok) (b : Bool) (hf : fitI (dsI l true)) (s : Int) (hs0 : 0 ≤ s) (hs1 : s < 4294967296) (hne : s ≠ l.sum) :
    gdE (a ++ (rowI (dsI l b) ++ r)) (a.length : Int) { l with sum := s } ≠ 0 ∨ l.sum = 134695760 ∨ s = 134695760 := by
  have hf2 : fitI (dsI { l with sum := s } true) := by
    have hp : ¬ wide l.packed 4 := hf (.num l.packed 4) (by simp [dsI, dsT])
    have hz : ¬ wide l.size 4 := hf (.num l.size 4) (by simp [dsI, dsT])
    intro i hi
    simp only [dsI, dsT, if_true, List.mem_cons, List.not_mem_nil, or_false] at hi
    rcases hi with rfl | rfl | rfl | rfl
    · exact notwide4 (by omega) (by omega)
    · exact notwide4 hs0 hs1
    · exact hp
    · exact hz
  obtain ⟨h1, h2⟩ := gd_at (a := a) (D := rowI (dsI l b) ++ r) hf2
  rw [h2]
  by_cases p1 : pfx (rowI (dsI l b) ++ r) (rowI (dsI { l with sum := s } true)) = true
  · cases b with
    | true =>
      rw [ds_true, ds_true, List.append_assoc] at p1
      have p2 := (pfx_head (by omega) (by omega) (by omega) (by omega) p1).2
      rw [ds_false, ds_false, List.append_assoc] at p2
      exact absurd (pfx_head ok.sum0 ok.sum1 hs0 hs1 p2).1.symm hne
    | false =>
      rw [ds_true, ds_false, List.append_assoc] at p1
      exact .inr (.inl (pfx_head ok.sum0 ok.sum1 (by omega) (by omega) p1).1)
  · by_cases p2 : pfx (rowI (dsI l b) ++ r) (rowI (dsI { l with sum := s } false)) = true
    · cases b with
      | true =>
        rw [ds_true, ds_false (l := { l with sum := s }), List.append_assoc] at p2
        exact .inr (.inr (pfx_head (by omega) (by omega) hs0 hs1 p2).1.symm)
      | false =>
        rw [ds_false, ds_false (l := { l with sum := s }), List.append_assoc] at p2
        exact absurd (pfx_head ok.sum0 ok.sum1 hs0 hs1 p2).1.symm hne
    · refine .inl ?_
      rw [if_neg p1, if_neg p2]
      split <;> omega
end Go.Proofs.Ytjjepgkcgbbmhaa

