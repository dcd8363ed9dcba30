import Derived.Test.YtcgeaidegppiaaaDoorGA08
namespace Go.Proofs.YtcgeaidegppiaaaDoor
open Go.RowKit Go.Maps
set_option maxRecDepth 20000
set_option linter.unusedVariables false

/-- How many lengths of the small code have to be written. -/
def wrn (c : List Int) : Nat → Nat
  | 0 => 0
  | n + 1 => if 4 < n + 1 ∧ c.getD (zor.getD n 0).toNat 0 = 0 then wrn c n else n + 1
def wrt (c : List Int) : Nat := wrn c 19

theorem wrn_le (c : List Int) : ∀ n, wrn c n ≤ n
  | 0 => Nat.le_refl _
  | n + 1 => by simp only [wrn]; split
                · have := wrn_le c n; omega
                · exact Nat.le_refl _
theorem wrt_le (c : List Int) : wrt c ≤ 19 := wrn_le c 19
theorem wrn_ge (c : List Int) : ∀ n, 4 ≤ n → 4 ≤ wrn c n
  | 0, h => h
  | n + 1, h => by simp only [wrn]; split
                   · rename_i q; exact wrn_ge c n (by omega)
                   · exact h
theorem wrt_ge (c : List Int) : 4 ≤ wrt c := wrn_ge c 19 (by omega)

/-- How many bits the runs have. -/
def rsz (C : List Int) : List Rn → Int
  | [] => 0
  | r :: R => C.getD r.1.toNat 0 + (frt r.1 : Nat) + rsz C R
def hsz (C : List Int) (R : List Rn) : Int := 14 + 3 * (wrt C : Int) + rsz C R

theorem rsz_snoc (C : List Int) (R : List Rn) (r : Rn) : rsz C (R ++ [r]) = rsz C R + (C.getD r.1.toNat 0 + (frt r.1 : Nat)) := by
  induction R with
  | nil => simp [rsz]
  | cons a R ih => simp only [List.cons_append, rsz, ih]; omega

theorem frt_le (s : Int) : frt s ≤ 7 := by unfold frt; split; omega; split; omega; split <;> omega

theorem rsz_bound {C : List Int} (hC : ∀ s, 0 ≤ C.getD s 0 ∧ C.getD s 0 ≤ 15) (R : List Rn) : 0 ≤ rsz C R ∧ rsz C R ≤ 22 * R.length := by
  induction R with
  | nil => simp [rsz]
  | cons r R ih =>
    have := hC r.1.toNat
    have := frt_le r.1
    simp only [rsz, List.length_cons]
    omega

end Go.Proofs.YtcgeaidegppiaaaDoor

namespace Go.Proofs.YtcgeaidegppiaaaDoor
open Go.RowKit Go.Maps
set_option linter.unusedVariables false

/-- The first n lengths of the small code, as bits. -/
def hdS (C : List Int) : Nat → List Int
  | 0 => []
  | n + 1 => hdS C n ++ bts (C.getD (zor.getD n 0).toNat 0) 3
/-- The runs, as bits: the word of each ('wb' of the code's own texts, by its definition), and how many above the least. -/
def hdR (C : List Int) : List Rn → List Int
  | [] => []
  | r :: R => (bts (wd C r.1.toNat) (ln C r.1.toNat)).reverse ++ bts (r.2 - lst r.1) (frt r.1) ++ hdR C R
/-- The header, as bits. -/
def hdB (L D C : List Int) (R : List Rn) : List Int := bts ((L.length : Int) - 257) 5 ++ bts ((D.length : Int) - 1) 5 ++ bts ((wrt C : Int) - 4) 4 ++ hdS C (wrt C) ++ hdR C R

theorem hdS_len (C : List Int) (n : Nat) : (hdS C n).length = 3 * n := by
  induction n with
  | zero => rfl
  | succ n ih => simp only [hdS, List.length_append, ih, length_bts]; omega

theorem hdR_len {C : List Int} (hC : ∀ s, 0 ≤ C.getD s 0) (R : List Rn) : ((hdR C R).length : Int) = rsz C R := by
  induction R with
  | nil => rfl
  | cons r R ih =>
    have h : ((ln C r.1.toNat : Nat) : Int) = C.getD r.1.toNat 0 := by unfold ln; have := hC r.1.toNat; omega
    simp only [hdR, rsz, List.length_append, List.length_reverse, length_bts]
    omega

/-- The header takes Size bits. -/
theorem hdB_len {L D C : List Int} {R : List Rn} (hC : ∀ s, 0 ≤ C.getD s 0) : ((hdB L D C R).length : Int) = hsz C R := by
  have h1 := hdS_len C (wrt C)
  have h2 := hdR_len hC R
  unfold hdB hsz
  simp only [List.length_append, length_bts]
  omega

theorem hdR_snoc (C : List Int) (R : List Rn) (r : Rn) : hdR C (R ++ [r]) = hdR C R ++ ((bts (wd C r.1.toNat) (ln C r.1.toNat)).reverse ++ bts (r.2 - lst r.1) (frt r.1)) := by
  induction R with
  | nil => simp [hdR]
  | cons a R ih => simp only [List.cons_append, hdR, ih, List.append_assoc]
end Go.Proofs.YtcgeaidegppiaaaDoor

