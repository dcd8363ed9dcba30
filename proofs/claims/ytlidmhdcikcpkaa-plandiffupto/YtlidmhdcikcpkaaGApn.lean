import Derived.Test.YtlidmhdcikcpkaaGFwr
namespace Go.Proofs.Ytlidmhdcikcpkaa
open Go.RowKit Go.Maps
set_option maxRecDepth 20000
set_option linter.unusedVariables false
set_option linter.unusedSimpArgs false

/-! The new content in numbers. -/
def ap0 (C : List Int) (n : Nat) : List Int := C.take n ++ List.replicate (n - C.length) 0
def apW (L : List Int) (a : Nat) (d : List Int) : List Int := L.take a ++ d ++ L.drop (a + d.length)
def apl (C : List Int) (n : Nat) (P : List (Int × List Int)) : List Int := P.foldl (fun L p => apW L p.1.toNat p.2) (ap0 C n)

theorem ap0_len (C : List Int) (n : Nat) : (ap0 C n).length = n := by unfold ap0; simp; omega
theorem apW_len {L d : List Int} {a : Nat} (h : a + d.length ≤ L.length) : (apW L a d).length = L.length := by unfold apW; simp; omega
def wp0 : Int × List Int := (0, [])
theorem apl_take {C : List Int} {n j : Nat} {P : List (Int × List Int)} (h : j < P.length) : apl C n (P.take (j + 1)) = apW (apl C n (P.take j)) (P.getD j wp0).1.toNat (P.getD j wp0).2 := by
  unfold apl
  rw [take_get wp0 h, List.foldl_append]
  rfl
theorem ap0_byt {C : List Int} {n : Nat} (h : ∀ i, 0 ≤ C.getD i 0 ∧ C.getD i 0 < 256) : True := trivial
theorem prs_get {R : List We} {i : Nat} (h : i < R.length) : (prs R).getD i wp0 = ((R.getD i we0).at', (R.getD i we0).l) := by simp [prs, List.getD, h]
theorem prs_len (R : List We) : (prs R).length = R.length := by simp [prs]
theorem splice_apW (L d : List Int) (a : Nat) : splice (L.map (Value.int .u8)) a (d.map (Value.int .u8)) = (apW L a d).map (Value.int .u8) := by
  unfold splice apW
  simp
theorem splice_ap0 (C : List Int) (n : Nat) : splice ((List.replicate n (0 : Int)).map (Value.int .u8)) 0 ((C.take n).map (Value.int .u8)) = (ap0 C n).map (Value.int .u8) := by
  unfold splice ap0
  simp only [List.take_zero, List.nil_append, Nat.zero_add, List.length_map, List.length_take, List.map_append, List.map_replicate, List.drop_replicate]
  congr 2
  omega
end Go.Proofs.Ytlidmhdcikcpkaa

