import Derived.Test.YtdpoggapenjjfaaGreatDoorG35Ibt
import Derived.Test.YtdpoggapenjjfaaGreatDoorG41Wkp
namespace Go.Proofs.YtdpoggapenjjfaaGreatDoor
open Go.RowKit Go.Maps
set_option maxRecDepth 20000
set_option linter.unusedVariables false
set_option linter.unusedSimpArgs false

theorem Chn.le {d : Bool} {a n b z : Nat} {ps : List Pc} (h : Chn d a n ps b z) : a ≤ b ∧ n ≤ z := by
  induction h with
  | nil => omega
  | last _ _ _ h1 h2 => omega
  | go _ _ h1 h2 _ ih => omega

theorem Chn.some {d : Bool} {a n b z : Nat} {ps : List Pc} (h : Chn d a n ps b z) (hd : d = true) : ps ≠ [] := by
  cases h with
  | nil h1 => rw [hd] at h1; cases h1
  | last => simp
  | go => simp

end Go.Proofs.YtdpoggapenjjfaaGreatDoor

