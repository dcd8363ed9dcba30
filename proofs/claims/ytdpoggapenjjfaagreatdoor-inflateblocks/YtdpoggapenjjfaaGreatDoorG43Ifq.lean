import Derived.Test.YtdpoggapenjjfaaGreatDoorG13Ifp
namespace Go.Proofs.YtdpoggapenjjfaaGreatDoor
open Go.RowKit Go.Maps
set_option maxRecDepth 20000
set_option linter.unusedVariables false

theorem Txt.mono {row : List Int} {L p : Nat} {out : List Int} {ps : List Pc} {e : Int} {q : Nat} {o : List Int} (hb : Bit row) (h : Txt row L p out ps e q o) : e = 0 → out.length ≤ o.length ∧ p < q ∧ q ≤ row.length := by
  induction h with
  | bad h1 h2 => exact fun h => absurd h h2
  | last h1 => intro _; have := h1.lt hb rfl; omega
  | go h1 h2 ih => intro he; have := h1.lt hb rfl; have := ih he; omega

end Go.Proofs.YtdpoggapenjjfaaGreatDoor

