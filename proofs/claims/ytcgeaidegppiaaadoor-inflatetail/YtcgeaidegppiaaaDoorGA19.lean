import Derived.Test.YtcgeaidegppiaaaDoorGA06
import Derived.WalkMore
namespace Go.Proofs.YtcgeaidegppiaaaDoor
open Go.RowKit Go.Maps
set_option maxRecDepth 20000
set_option linter.unusedVariables false

/-- For how many lengths one run of the Sym could stand. -/
def rch (s : Nat) (l : List Int) (k : Nat) : Nat := if s = 16 ∧ k = 0 then 0 else min (eqn (mnt s (l.take k)) (l.drop k)) (mst s).toNat

theorem rch_18 (l : List Int) (k : Nat) : rch 18 l k = n18 l k := by unfold rch n18; rw [if_neg (by omega)]; rfl
theorem rch_17 (l : List Int) (k : Nat) : rch 17 l k = n17 l k := by unfold rch n17; rw [if_neg (by omega)]; rfl
theorem rch_16 {l : List Int} {k : Nat} (hk : k < l.length) : rch 16 l k = n16 l k := by
  unfold rch n16
  by_cases h : k = 0
  · rw [if_pos ⟨rfl, h⟩, if_pos h]
  · rw [if_neg (by omega), if_neg h]
    have e : mnt (16 : Nat) (l.take k) = l.getD (k - 1) 0 := by
      show mnt 16 (l.take k) = _
      unfold mnt
      rw [if_neg (by decide), if_pos rfl, List.length_take, show min k l.length - 1 = k - 1 by omega]
      simp only [List.getD_eq_getElem?_getD, List.getElem?_take]
      rw [if_pos (by omega)]
    rw [e]; rfl

theorem SI.sub {w : World} {b o cap : Nat} {l : List Int} (h : SI w (.slice (some ⟨b, o, none⟩) l.length cap) l) {i j : Nat} (hij : i ≤ j) (hj : j ≤ l.length) : SI w (.slice (some ⟨b, o + i, none⟩) (j - i) (cap - i)) ((l.drop i).take (j - i)) := by
  obtain ⟨ao', cap', he, h1, h2, h3, h4⟩ := h
  simp only [Value.slice.injEq] at he
  obtain ⟨rfl, -, rfl⟩ := he
  have hl : ((l.drop i).take (j - i)).length = j - i := by rw [List.length_take, List.length_drop]; omega
  refine ⟨_, _, by rw [hl], by rw [hl]; omega, by omega, (fun e => by cases e), fun x hx n hn => ?_⟩
  cases hx
  rw [hl] at hn
  have := h4 _ rfl (i + n) (by omega)
  rw [Addr.add_lit] at this ⊢
  rw [Nat.add_assoc, this]
  simp only [List.getD_eq_getElem?_getD, List.getElem?_take, List.getElem?_drop]
  rw [if_pos hn]

end Go.Proofs.YtcgeaidegppiaaaDoor

namespace Go.Proofs.YtcgeaidegppiaaaDoor
open Go.RowKit Go.Maps
set_option maxRecDepth 20000
set_option linter.unusedVariables false

/-- What a round of Runs stands on. -/
structure Rsr (w wr : World) (l : List Int) (ao : Option Addr) (cap : Nat) (u : Value) (R : List Rn) : Prop where
  si : SI wr (.slice ao l.length cap) l
  tab : Tab wr
  row : OR wr w.heap.size u R
  bel : Below w.heap.size w wr

theorem Rsr.draw {w wr : World} {l : List Int} {ao : Option Addr} {cap : Nat} {u : Value} {R : List Rn} (h : Rsr w wr l ao cap u R) (q : Nat) : Rsr w (wr.drewN q) l ao cap u R :=
  ⟨h.si, h.tab.drewN q, h.row.drewN q, below_drewN h.bel q⟩

theorem Rsr.cells {w wr : World} {l : List Int} {ao : Option Addr} {cap : Nat} {u : Value} {R : List Rn} (h : Rsr w wr l ao cap u R) : wr.cell? ⟨2, 18, none⟩ = some (.int .i64 11) ∧ wr.cell? ⟨2, 17, none⟩ = some (.int .i64 3) ∧ wr.cell? ⟨2, 16, none⟩ = some (.int .i64 3) :=
  ⟨h.tab.least 18 (by omega), h.tab.least 17 (by omega), h.tab.least 16 (by omega)⟩

theorem Rsr.more {w wr w3 : World} {l : List Int} {ao : Option Addr} {cap : Nat} {u u3 : Value} {R : List Rn} {p : Rn} {o : Obj} (h : Rsr w wr l ao cap u R) (h0 : SI w (.slice ao l.length cap) l) (t0 : Tab w) (ho : OR w3 w.heap.size u3 (R ++ [p])) (hg : (wr.alloc o).grownBy w3 u.ownBlock) : Rsr w w3 l ao cap u3 (R ++ [p]) := by
  have hb := grow_run h.bel (Nat.le_refl _) h.row hg
  exact ⟨h0.below hb, t0.mono hb, ho, hb⟩

theorem n18_le {l : List Int} {k : Nat} : n18 l k ≤ 138 := by unfold n18; omega
theorem n17_le {l : List Int} {k : Nat} : n17 l k ≤ 10 := by unfold n17; omega
theorem n16_le {l : List Int} {k : Nat} : n16 l k ≤ 6 := by unfold n16; split <;> omega

/-- What one run more means. -/
theorem rns_more {l : List Int} {k c : Nat} {R : List Rn} {p1 : Int} (hk : k < l.length) (hR : rns l = R ++ rnK l k) (hl : R.length ≤ k) (hp : run1 l k = (p1, (c : Int))) : k + c ≤ l.length ∧ 1 ≤ c ∧ c ≤ 138 ∧ rns l = (R ++ [(p1, (c : Int))]) ++ rnK l (k + c) ∧ (R ++ [(p1, (c : Int))]).length ≤ k + c := by
  obtain ⟨c', e, c1, c2, c3⟩ := run1_cnt hk
  rw [hp] at e
  have : c = c' := by simp only at e; omega
  subst this
  refine ⟨c2, c1, c3, ?_, by rw [List.length_append]; simp; omega⟩
  rw [hR, rnK_step hk (by rw [hp]), hp, List.append_assoc]
  rfl

end Go.Proofs.YtcgeaidegppiaaaDoor

