import Derived.Test.YtknjblgnjoocbaaDoorGCtw
import Derived.Test.YtknjblgnjoocbaaDoorGSyx
namespace Go.Proofs.YtknjblgnjoocbaaDoor
open Go.RowKit Go.Maps
set_option maxRecDepth 20000
set_option linter.unusedVariables false

/-- The two lists of counts. -/
structure Cx (w : World) (B g1 g2 : Nat) (l d : List Int) : Prop where
  lit : OI w B (.slice (some ⟨g1, 0, none⟩) 286 286) l
  dist : OI w B (.slice (some ⟨g2, 0, none⟩) 30 30) d
  ll : l.length = 286
  dl : d.length = 30
  ne : g1 ≠ g2
  up : B ≤ g1 ∧ B ≤ g2

theorem Cx.low {w w' : World} {B g1 g2 : Nat} {l d : List Int} (h : Cx w B g1 g2 l d) (hb : Below w.heap.size w w') : Cx w' B g1 g2 l d :=
  ⟨h.lit.move fun k hk => hb.block k (h.lit.lt k hk).2, h.dist.move fun k hk => hb.block k (h.dist.lt k hk).2, h.ll, h.dl, h.ne, h.up⟩

theorem Cx.atl {w : World} {B g1 g2 : Nat} {l d : List Int} (h : Cx w B g1 g2 l d) {i : Nat} (hi : i < 286) : w.cell? ⟨g1, i, none⟩ = some (.int .i64 (l.getD i 0)) ∧ w.frozen? ⟨g1, i, none⟩ = false := by
  have hl : i < l.length := by rw [h.ll]; exact hi
  obtain ⟨g', c', e, ⟨u, hu⟩, hf, _⟩ := h.lit.put hl 0
  simp only [Value.slice.injEq, Option.some.injEq, Addr.mk.injEq] at e
  obtain ⟨⟨rfl, -⟩, -⟩ := e
  exact ⟨h.lit.get rfl hl, hf⟩

theorem Cx.atd {w : World} {B g1 g2 : Nat} {l d : List Int} (h : Cx w B g1 g2 l d) {i : Nat} (hi : i < 30) : w.cell? ⟨g2, i, none⟩ = some (.int .i64 (d.getD i 0)) ∧ w.frozen? ⟨g2, i, none⟩ = false := by
  have hl : i < d.length := by rw [h.dl]; exact hi
  obtain ⟨g', c', e, ⟨u, hu⟩, hf, _⟩ := h.dist.put hl 0
  simp only [Value.slice.injEq, Option.some.injEq, Addr.mk.injEq] at e
  obtain ⟨⟨rfl, -⟩, -⟩ := e
  exact ⟨h.dist.get rfl hl, hf⟩

theorem Cx.putl {w : World} {B g1 g2 : Nat} {l d : List Int} (h : Cx w B g1 g2 l d) {i : Nat} (hi : i < 286) (x : Int) : Cx (w.setCell ⟨g1, i, none⟩ (.int .i64 x)) B g1 g2 (l.set i x) d := by
  have hl : i < l.length := by rw [h.ll]; exact hi
  obtain ⟨g', c', e, _, _, ho⟩ := h.lit.put hl x
  simp only [Value.slice.injEq, Option.some.injEq, Addr.mk.injEq] at e
  obtain ⟨⟨rfl, -⟩, -⟩ := e
  refine ⟨ho, h.dist.move fun k hk => ?_, by simp [h.ll], h.dl, h.ne, h.up⟩
  simp [Value.ownBlock] at hk
  subst hk
  exact setCell_others _ _ _ _ _ (fun e => h.ne e.symm)

theorem Cx.putd {w : World} {B g1 g2 : Nat} {l d : List Int} (h : Cx w B g1 g2 l d) {i : Nat} (hi : i < 30) (x : Int) : Cx (w.setCell ⟨g2, i, none⟩ (.int .i64 x)) B g1 g2 l (d.set i x) := by
  have hl : i < d.length := by rw [h.dl]; exact hi
  obtain ⟨g', c', e, _, _, ho⟩ := h.dist.put hl x
  simp only [Value.slice.injEq, Option.some.injEq, Addr.mk.injEq] at e
  obtain ⟨⟨rfl, -⟩, -⟩ := e
  refine ⟨h.lit.move fun k hk => ?_, ho, h.ll, by simp [h.dl], h.ne, h.up⟩
  simp [Value.ownBlock] at hk
  subst hk
  exact setCell_others _ _ _ _ _ h.ne

/-- What Count answers: the error and the two lists. -/
noncomputable def ctE (R : List Tk) : Int := if 16777216 < R.length then 1 else if asnd R then 0 else 100
noncomputable def ctL (R : List Tk) : List Int := if ctE R = 0 then (cls (List.replicate 286 0) R).set 256 1 else []
noncomputable def ctD (R : List Tk) : List Int := if ctE R = 0 then cdt (List.replicate 30 0) R else []

/-- An answer of Count in memory. -/
def Cta (B : Nat) (R : List Tk) (e : Ending) (w w' : World) : Prop :=
  ∃ vl vd, e = .returned (.tuple #[vl, vd, .int .i64 (ctE R)]) ∧ OI w' B vl (ctL R) ∧ OI w' B vd (ctD R) ∧ (∀ k, vl.ownBlock = some k → vd.ownBlock ≠ some k) ∧ Below B w w'

theorem oi_nil10 (w : World) (B : Nat) : OI w B (.slice none 0 0) [] := ⟨rfl, .inl ⟨rfl, rfl⟩⟩

theorem cta_no {R : List Tk} {B : Nat} {w w' : World} (hE : ctE R ≠ 0) (hb : Below B w w') : Cta B R (.returned (.tuple #[.slice none 0 0, .slice none 0 0, .int .i64 (ctE R)])) w w' := by
  have h1 : ctL R = [] := by unfold ctL; rw [if_neg hE]
  have h2 : ctD R = [] := by unfold ctD; rw [if_neg hE]
  refine ⟨_, _, rfl, by rw [h1]; exact oi_nil10 _ _, by rw [h2]; exact oi_nil10 _ _, fun k hk => by simp [Value.ownBlock] at hk, hb⟩

theorem asnd_all {R : List Tk} (h : asnd R = true) : ∀ t ∈ R, Snd t := by
  intro t ht
  have := List.all_eq_true.1 h t ht
  unfold sndb at this
  exact of_decide_eq_true this

theorem oCount_any (v : Value) (R : List Tk) (w : World) (h : SK w v R) (hb : ∀ t ∈ R, Bt t) (T : Ltab w ∧ Dtab w) : Calls Tryd.prog 6 #[v] w fun e w' => Cta w.heap.size R e w w' := by
  have HS := hide h
  have HT := hide T
  have HBT := hide hb
  obtain ⟨ao, cap, rfl, hlc, hcm⟩ := h.open
  clear h T hb
  have HB0 : Hid (Below w.heap.size w w) := Below.refl _ _
  by_cases hl : 16777216 < R.length
  · have HE : Hid (ctE R = 1) := by show _ = _; unfold ctE; rw [if_pos hl]
    have hl' : (16777216 : Int) < (R.length : Int) := by omega
    have HC := hide (cta_no (w := w) (w' := w) (by rw [HE.out]; decide) HB0.out)
    rw [HE.out] at HC
    go_enter Tryd.func6, Tryd.ntmps6
    go_wp2
    refine bodyPost_ret (results_tmp3 rfl _ _ _) rfl ?_
    exact HC.out
  · have hl' : ¬ (16777216 : Int) < (R.length : Int) := by omega
    have HA := hide (allSound_any _ R w HS.out)
    by_cases ha : asnd R = true
    · have HE : Hid (ctE R = 0) := by show _ = _; unfold ctE; rw [if_neg hl, if_pos ha]
      have HAL := hide (asnd_all ha)
      rw [ha] at HA
      clear ha
      go_enter Tryd.func6, Tryd.ntmps6
      go_wp2_with fail
      refine HA.out.mono ?_
      rintro e w1 ⟨rfl, b1⟩
      have HC := hide (ocount_any _ R w1 (HS.out.below b1) (fun t ht => ⟨HAL.out t ht, HBT.out t ht⟩) (by omega) ⟨HT.out.1.low b1, HT.out.2.low b1⟩)
      have HB1 := hide b1
      clear b1 HA
      go_wp2_with fail
      refine HC.out.mono ?_
      rintro e w2 ⟨g1, g2, rfl, o1, o2, o3, b2⟩
      have HB2 := hide (HB1.out.trans (b2.mono HB1.out.size))
      have HO1 := hide (o1.base HB1.out.size)
      have HO2 := hide (o2.base HB1.out.size)
      have HO3 := hide o3
      obtain ⟨w3, hw3⟩ : ∃ w3, w2.alloc (.cells #[.slice (some ⟨g1, 0, none⟩) 286 286, .slice (some ⟨g2, 0, none⟩) 30 30] 37) = w3 := ⟨_, rfl⟩
      have HB3 : Hid (Below w.heap.size w w3) := by rw [← hw3]; exact HB2.out.alloc HB2.out.size _
      have HN3 : Hid (w3.heap[w2.heap.size]? = some (.cells #[.slice (some ⟨g1, 0, none⟩) 286 286, .slice (some ⟨g2, 0, none⟩) 30 30] 37 (0, 0))) := by rw [← hw3]; exact heap_alloc_new _ _
      have HP1 : Hid (OI w3 w.heap.size (.slice (some ⟨g1, 0, none⟩) 286 286) ((cls (List.replicate 286 0) R).set 256 1)) := by rw [← hw3]; exact HO1.out.alloc _
      have HP2 : Hid (OI w3 w.heap.size (.slice (some ⟨g2, 0, none⟩) 30 30) (cdt (List.replicate 30 0) R)) := by rw [← hw3]; exact HO2.out.alloc _
      have c0 : w3.cell? ⟨w2.heap.size, 0, none⟩ = some (.slice (some ⟨g1, 0, none⟩) 286 286) := by unfold World.cell?; rw [HN3.out]; rfl
      have c1 : w3.cell? ⟨w2.heap.size, 1, none⟩ = some (.slice (some ⟨g2, 0, none⟩) 30 30) := by unfold World.cell?; rw [HN3.out]; rfl
      clear o1 o2 o3 b2 HB1 HO1 HO2 HC
      go_wp2
      go_quiet (fail)
      go_wp2
      refine bodyPost_ret (results_tmp3 rfl _ _ _) rfl ?_
      refine ⟨_, _, by rw [HE.out]; rfl, ?_, ?_, fun k hk e => HO3.out ((show g1 = k by simpa [Value.ownBlock] using hk).trans (show g2 = k by simpa [Value.ownBlock] using e).symm), below_drewN HB3.out _⟩
      · unfold ctL; rw [if_pos HE.out]; exact HP1.out
      · unfold ctD; rw [if_pos HE.out]; exact HP2.out
    · have ha' : asnd R = false := by simpa using ha
      have HE : Hid (ctE R = 100) := by show _ = _; unfold ctE; rw [if_neg hl, if_neg ha]
      rw [ha'] at HA
      have HC := hide (fun w' (hb : Below w.heap.size w w') => cta_no (R := R) (w := w) (w' := w') (by rw [HE.out]; decide) hb)
      rw [HE.out] at HC
      clear ha ha'
      go_enter Tryd.func6, Tryd.ntmps6
      go_wp2_with fail
      refine HA.out.mono ?_
      rintro e w1 ⟨rfl, b1⟩
      have HB1 := hide b1
      clear b1 HA
      go_wp2
      refine bodyPost_ret (results_tmp3 rfl _ _ _) rfl ?_
      exact HC.out _ HB1.out
end Go.Proofs.YtknjblgnjoocbaaDoor

namespace Go.Proofs.YtknjblgnjoocbaaDoor
open Go.RowKit Go.Maps
set_option maxRecDepth 20000
set_option linter.unusedVariables false

theorem bd_one : Bd ((List.replicate 286 (0 : Int)).set 256 1) 1 := fun i => by
  by_cases h : i = 256
  · subst h
    have : ((List.replicate 286 (0 : Int)).set 256 1).getD 256 0 = 1 := by rw [List.getD_eq_getElem?_getD, List.getElem?_set_self (by simp)]; rfl
    rw [this]; omega
  · have : ((List.replicate 286 (0 : Int)).set 256 1).getD i 0 = 0 := by
      rw [List.getD_eq_getElem?_getD, List.getElem?_set_ne (fun e => h e.symm), List.getElem?_replicate]; split <;> rfl
    rw [this]; omega

theorem Cx.start {w : World} {B g1 g2 : Nat} (h3 : w.heap[g1]? = some (.cells (List.replicate 286 (Value.int .i64 0)).toArray 3 (0, 0))) (h4 : w.heap[g2]? = some (.cells (List.replicate 30 (Value.int .i64 0)).toArray 3 (0, 0))) (h5 : g1 ≠ g2) (h6 : B ≤ g1 ∧ B ≤ g2) : Cx w B g1 g2 (List.replicate 286 0) (List.replicate 30 0) :=
  ⟨⟨by simp, .inr ⟨g1, 286, _, rfl, h6.1, h3, by simp, by unfold maxLen; omega, by simp, by simp⟩⟩, ⟨by simp, .inr ⟨g2, 30, _, rfl, h6.2, h4, by simp, by unfold maxLen; omega, by simp, by simp⟩⟩, by simp, by simp, h5, h6⟩

end Go.Proofs.YtknjblgnjoocbaaDoor

