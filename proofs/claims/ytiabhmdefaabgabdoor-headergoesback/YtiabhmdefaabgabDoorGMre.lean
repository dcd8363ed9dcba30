import Derived.Test.YtiabhmdefaabgabDoorGMk5
namespace Go.Proofs.YtiabhmdefaabgabDoor
open Go.RowKit Go.Maps
set_option maxRecDepth 20000
set_option linter.unusedVariables false

theorem lnm_any (w : World) (x : Int) : Calls Tryd.prog 14 #[.int .i64 x] w fun e w' => e = .returned (.int .i64 x) ∧ w' = w := by
  go_enter Tryd.func14, Tryd.ntmps14
  go_wp2
  go_ret
  exact ⟨rfl, rfl⟩

def Mrl (l d L D C : List Int) (R : List Rn) (Z : Int) : Prop := (mkE l d = 0 ∧ L = mkL l ∧ D = mkD d ∧ C = mkC l d ∧ R = mkR l d ∧ Z = mkZ l d) ∨ (mkE l d ≠ 0 ∧ L = [] ∧ D = [] ∧ C = [] ∧ R = [] ∧ Z = 0)

theorem mrl_one {l d L D C L' D' C' : List Int} {R R' : List Rn} {Z Z' : Int} (h : Mrl l d L D C R Z) (h' : Mrl l d L' D' C' R' Z') : L' = L ∧ D' = D ∧ C' = C ∧ R' = R ∧ Z' = Z := by
  rcases h with ⟨e, rfl, rfl, rfl, rfl, rfl⟩ | ⟨e, rfl, rfl, rfl, rfl, rfl⟩ <;> rcases h' with ⟨e', rfl, rfl, rfl, rfl, rfl⟩ | ⟨e', rfl, rfl, rfl, rfl, rfl⟩
  · exact ⟨rfl, rfl, rfl, rfl, rfl⟩
  · exact absurd e e'
  · exact absurd e' e
  · exact ⟨rfl, rfl, rfl, rfl, rfl⟩

def Mrs (w w' : World) (l d : List Int) (e : Ending) : Prop := ∃ aL cL aD cD aC cC aR cR L D C R Z, Mrl l d L D C R Z ∧ e = .returned (.tuple #[.agg #[.slice aL L.length cL, .slice aD D.length cD, .slice aC C.length cC, .slice aR R.length cR, .int .i64 Z], .int .i64 (mkE l d)]) ∧ Mkd w' w.heap.size (.slice aL L.length cL) (.slice aD D.length cD) (.slice aC C.length cC) (.slice aR R.length cR) L D C R

theorem mrs_of {w w' : World} {l d : List Int} {e : Ending} (h : (mkE l d ≠ 0 ∧ MkNo (mkE l d) e) ∨ (mkE l d = 0 ∧ MkYes w w' l d e)) : Mrs w w' l d e := by
  rcases h with ⟨h, hn⟩ | ⟨h, vL, vD, vC, vR, he, hm⟩
  · exact ⟨none, 0, none, 0, none, 0, none, 0, [], [], [], [], 0, .inr ⟨h, rfl, rfl, rfl, rfl, rfl⟩, hn, World.ownsRow_nil _ _ _ _, World.ownsRow_nil _ _ _ _, World.ownsRow_nil _ _ _ _, OR.nil _ _⟩
  · obtain ⟨aL, cL, rfl⟩ := hm.l.shape
    obtain ⟨aD, cD, rfl⟩ := hm.d.shape
    obtain ⟨aC, cC, rfl⟩ := hm.c.shape
    obtain ⟨aR, cR, rfl, _⟩ := hm.r.shape
    exact ⟨aL, cL, aD, cD, aC, cC, aR, cR, _, _, _, _, _, .inl ⟨h, rfl, rfl, rfl, rfl, rfl⟩, by rw [he, h], hm⟩
end Go.Proofs.YtiabhmdefaabgabDoor

