import Derived.Test.YtjmjjjpanioifaaGSrw
import Derived.Test.YtjmjjjpanioifaaGAppL
import Derived.Test.YtjmjjjpanioifaaGSt
namespace Go.Proofs.Ytjmjjjpanioifaa
open Go.RowKit Go.Maps
set_option maxRecDepth 20000
set_option linter.unusedVariables false
set_option linter.unusedSimpArgs false

def enx (n L : Nat) (at' : Int) (cm : ByteArray) : Enr := ⟨0, 0, n, n, L, at', cm⟩

def drOk (cs : List Cen) (at' : Int) (cm : ByteArray) : Prop := (∀ c ∈ cs, fitI (ceI c)) ∧ fitI (enI (enx cs.length (rowsC cs).length at' cm))

instance (cs : List Cen) (at' : Int) (cm : ByteArray) : Decidable (drOk cs at' cm) := by unfold drOk; exact inferInstance

def drE (cs : List Cen) (at' : Int) (cm : ByteArray) : Int := if at' < 0 then 1 else if drOk cs at' cm then 0 else 124
def drL (cs : List Cen) (at' : Int) (cm : ByteArray) : List Int := if at' < 0 then [] else if drOk cs at' cm then rowsC cs ++ rowI (enI (enx cs.length (rowsC cs).length at' cm)) else []

theorem dr_neg {cs : List Cen} {at' : Int} {cm : ByteArray} (h : at' < 0) : drE cs at' cm = 1 ∧ drL cs at' cm = [] := ⟨if_pos h, if_pos h⟩
theorem dr_no {cs : List Cen} {at' : Int} {cm : ByteArray} (h0 : ¬ at' < 0) (h : ¬ drOk cs at' cm) : drE cs at' cm = 124 ∧ drL cs at' cm = [] := by
  unfold drE drL
  rw [if_neg h0, if_neg h, if_neg h0, if_neg h]
  exact ⟨rfl, rfl⟩
theorem dr_yes {cs : List Cen} {at' : Int} {cm : ByteArray} (h0 : ¬ at' < 0) (h : drOk cs at' cm) : drE cs at' cm = 0 ∧ drL cs at' cm = rowsC cs ++ rowI (enI (enx cs.length (rowsC cs).length at' cm)) := by
  unfold drE drL
  rw [if_neg h0, if_pos h, if_neg h0, if_pos h]
  exact ⟨rfl, rfl⟩

theorem enx_ok {n L : Nat} {at' : Int} {cm : ByteArray} (hn : n ≤ 1048576) (hL : L ≤ 300000000000) (h : Ok64 at') (hc : cm.size ≤ 140737488351232) : (enx n L at' cm).Ok := by
  have a0 : Ok64 0 := by unfold Ok64; omega
  have a1 : Ok64 (n : Int) := by unfold Ok64; omega
  have a2 : Ok64 (L : Int) := by unfold Ok64; omega
  exact ⟨a0, a0, a1, a1, a2, h, hc⟩

theorem sb_nil13 (w : World) : SB w (.slice none 0 0) [] := ⟨none, 0, rfl, Nat.le_refl _, Nat.zero_le _, fun _ => rfl, fun x hx => by cases hx⟩

theorem ob_nil13 (w : World) (b : Nat) : OB w b (.slice none 0 0) [] := ⟨by simp, .inl ⟨rfl, rfl⟩⟩

theorem grew_to {base : Nat} {w0 wr w1 : World} {v v' : Value} {l : List Int} (hb : Below base w0 wr) (hB : base ≤ w0.heap.size) (ho : OB wr base v l) (hg : Grew wr w1 v v') : Below base w0 w1 :=
  hb.grown hg.by (Nat.le_trans hB hb.size) (fun k hk => (ho.lt k hk).1)
end Go.Proofs.Ytjmjjjpanioifaa

