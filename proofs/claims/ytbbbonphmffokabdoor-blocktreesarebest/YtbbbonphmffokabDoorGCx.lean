import Derived.Test.YtbbbonphmffokabDoorGCtw
import Derived.Test.YtbbbonphmffokabDoorGSyx
namespace Go.Proofs.YtbbbonphmffokabDoor
open Go.RowKit Go.Maps
set_option maxRecDepth 20000
set_option linter.unusedVariables false

/-- The two lists of counts. -/
structure Cx (w : World) (B g1 g2 : Nat) (l d : List Int) : Prop where
  lit : OI w B (.slice (some ⟨g1, 0, none⟩) 286 286) l
  dist : OI w B (.slice (some ⟨g2, 0, none⟩) 30 30) d
  ll : l.length = 286
  dl : d.length = 30
  ne : g1 ≠ g2
  up : B ≤ g1 ∧ B ≤ g2

theorem Cx.low {w w' : World} {B g1 g2 : Nat} {l d : List Int} (h : Cx w B g1 g2 l d) (hb : Below w.heap.size w w') : Cx w' B g1 g2 l d :=
  ⟨h.lit.move fun k hk => hb.block k (h.lit.lt k hk).2, h.dist.move fun k hk => hb.block k (h.dist.lt k hk).2, h.ll, h.dl, h.ne, h.up⟩

theorem Cx.atl {w : World} {B g1 g2 : Nat} {l d : List Int} (h : Cx w B g1 g2 l d) {i : Nat} (hi : i < 286) : w.cell? ⟨g1, i, none⟩ = some (.int .i64 (l.getD i 0)) ∧ w.frozen? ⟨g1, i, none⟩ = false := by
  have hl : i < l.length := by rw [h.ll]; exact hi
  obtain ⟨g', c', e, ⟨u, hu⟩, hf, _⟩ := h.lit.put hl 0
  simp only [Value.slice.injEq, Option.some.injEq, Addr.mk.injEq] at e
  obtain ⟨⟨rfl, -⟩, -⟩ := e
  exact ⟨h.lit.get rfl hl, hf⟩

theorem Cx.atd {w : World} {B g1 g2 : Nat} {l d : List Int} (h : Cx w B g1 g2 l d) {i : Nat} (hi : i < 30) : w.cell? ⟨g2, i, none⟩ = some (.int .i64 (d.getD i 0)) ∧ w.frozen? ⟨g2, i, none⟩ = false := by
  have hl : i < d.length := by rw [h.dl]; exact hi
  obtain ⟨g', c', e, ⟨u, hu⟩, hf, _⟩ := h.dist.put hl 0
  simp only [Value.slice.injEq, Option.some.injEq, Addr.mk.injEq] at e
  obtain ⟨⟨rfl, -⟩, -⟩ := e
  exact ⟨h.dist.get rfl hl, hf⟩

theorem Cx.putl {w : World} {B g1 g2 : Nat} {l d : List Int} (h : Cx w B g1 g2 l d) {i : Nat} (hi : i < 286) (x : Int) : Cx (w.setCell ⟨g1, i, none⟩ (.int .i64 x)) B g1 g2 (l.set i x) d := by
  have hl : i < l.length := by rw [h.ll]; exact hi
  obtain ⟨g', c', e, _, _, ho⟩ := h.lit.put hl x
  simp only [Value.slice.injEq, Option.some.injEq, Addr.mk.injEq] at e
  obtain ⟨⟨rfl, -⟩, -⟩ := e
  refine ⟨ho, h.dist.move fun k hk => ?_, by simp [h.ll], h.dl, h.ne, h.up⟩
  simp [Value.ownBlock] at hk
  subst hk
  exact setCell_others _ _ _ _ _ (fun e => h.ne e.symm)

theorem Cx.putd {w : World} {B g1 g2 : Nat} {l d : List Int} (h : Cx w B g1 g2 l d) {i : Nat} (hi : i < 30) (x : Int) : Cx (w.setCell ⟨g2, i, none⟩ (.int .i64 x)) B g1 g2 l (d.set i x) := by
  have hl : i < d.length := by rw [h.dl]; exact hi
  obtain ⟨g', c', e, _, _, ho⟩ := h.dist.put hl x
  simp only [Value.slice.injEq, Option.some.injEq, Addr.mk.injEq] at e
  obtain ⟨⟨rfl, -⟩, -⟩ := e
  refine ⟨h.lit.move fun k hk => ?_, ho, h.ll, by simp [h.dl], h.ne, h.up⟩
  simp [Value.ownBlock] at hk
  subst hk
  exact setCell_others _ _ _ _ _ h.ne

/-- What Count answers: the error and the two lists. -/
noncomputable def ctE (R : List Tk) : Int := if 16777216 < R.length then 1 else if asnd R then 0 else 100
noncomputable def ctL (R : List Tk) : List Int := if ctE R = 0 then (cls (List.replicate 286 0) R).set 256 1 else []
noncomputable def ctD (R : List Tk) : List Int := if ctE R = 0 then cdt (List.replicate 30 0) R else []

/-- An answer of Count in memory. -/
def Cta (B : Nat) (R : List Tk) (e : Ending) (w w' : World) : Prop :=
  ∃ vl vd, e = .returned (.tuple #[vl, vd, .int .i64 (ctE R)]) ∧ OI w' B vl (ctL R) ∧ OI w' B vd (ctD R) ∧ (∀ k, vl.ownBlock = some k → vd.ownBlock ≠ some k) ∧ Below B w w'

theorem oi_nil10 (w : World) (B : Nat) : OI w B (.slice none 0 0) [] := ⟨rfl, .inl ⟨rfl, rfl⟩⟩

theorem cta_no {R : List Tk} {B : Nat} {w w' : World} (hE : ctE R ≠ 0) (hb : Below B w w') : Cta B R (.returned (.tuple #[.slice none 0 0, .slice none 0 0, .int .i64 (ctE R)])) w w' := by
  have h1 : ctL R = [] := by unfold ctL; rw [if_neg hE]
  have h2 : ctD R = [] := by unfold ctD; rw [if_neg hE]
  refine ⟨_, _, rfl, by rw [h1]; exact oi_nil10 _ _, by rw [h2]; exact oi_nil10 _ _, fun k hk => by simp [Value.ownBlock] at hk, hb⟩

theorem asnd_all {R : List Tk} (h : asnd R = true) : ∀ t ∈ R, Snd t := by
  intro t ht
  have := List.all_eq_true.1 h t ht
  unfold sndb at this
  exact of_decide_eq_true this

theorem oCount_any (v : Value) (R : List Tk) (w : World) (h : SK w v R) (hb : ∀ t ∈ R, Bt t) (T : Ltab w ∧ Dtab w) : Calls Tryd.prog 10 #[v] w fun e w' => Cta w.heap.size R e w w' := by
  have HS := hide h
  have HT := hide T
  have HBT := hide hb
  obtain ⟨ao, cap, rfl, hlc, hcm⟩ := h.open
  clear h T hb
  have HB0 : Hid (Below w.heap.size w w) := Below.refl _ _
  by_cases hl : 16777216 < R.length
  · have HE : Hid (ctE R = 1) := by show _ = _; unfold ctE; rw [if_pos hl]
    have hl' : (16777216 : Int) < (R.length : Int) := by omega
    have HC := hide (cta_no (w := w) (w' := w) (by rw [HE.out]; decide) HB0.out)
    rw [HE.out] at HC
    go_enter Tryd.func10, Tryd.ntmps10
    go_wp2
    refine bodyPost_ret (results_tmp3 rfl _ _ _) rfl ?_
    exact HC.out
  · have hl' : ¬ (16777216 : Int) < (R.length : Int) := by omega
    have HA := hide (allSound_any _ R w HS.out)
    by_cases ha : asnd R = true
    · have HE : Hid (ctE R = 0) := by show _ = _; unfold ctE; rw [if_neg hl, if_pos ha]
      have HAL := hide (asnd_all ha)
      rw [ha] at HA
      clear ha
      go_enter Tryd.func10, Tryd.ntmps10
      go_wp2_with fail
      refine HA.out.mono ?_
      rintro e w1 ⟨rfl, b1⟩
      have HC := hide (ocount_any _ R w1 (HS.out.below b1) (fun t ht => ⟨HAL.out t ht, HBT.out t ht⟩) (by omega) ⟨HT.out.1.low b1, HT.out.2.low b1⟩)
      have HB1 := hide b1
      clear b1 HA
      go_wp2_with fail
      refine HC.out.mono ?_
      rintro e w2 ⟨g1, g2, rfl, o1, o2, o3, b2⟩
      have HB2 := hide (HB1.out.trans (b2.mono HB1.out.size))
      have HO1 := hide (o1.base HB1.out.size)
      have HO2 := hide (o2.base HB1.out.size)
      have HO3 := hide o3
      obtain ⟨w3, hw3⟩ : ∃ w3, w2.alloc (.cells #[.slice (some ⟨g1, 0, none⟩) 286 286, .slice (some ⟨g2, 0, none⟩) 30 30] 59) = w3 := ⟨_, rfl⟩
      have HB3 : Hid (Below w.heap.size w w3) := by rw [← hw3]; exact HB2.out.alloc HB2.out.size _
      have HN3 : Hid (w3.heap[w2.heap.size]? = some (.cells #[.slice (some ⟨g1, 0, none⟩) 286 286, .slice (some ⟨g2, 0, none⟩) 30 30] 59 (0, 0))) := by rw [← hw3]; exact heap_alloc_new _ _
      have HP1 : Hid (OI w3 w.heap.size (.slice (some ⟨g1, 0, none⟩) 286 286) ((cls (List.replicate 286 0) R).set 256 1)) := by rw [← hw3]; exact HO1.out.alloc _
      have HP2 : Hid (OI w3 w.heap.size (.slice (some ⟨g2, 0, none⟩) 30 30) (cdt (List.replicate 30 0) R)) := by rw [← hw3]; exact HO2.out.alloc _
      have c0 : w3.cell? ⟨w2.heap.size, 0, none⟩ = some (.slice (some ⟨g1, 0, none⟩) 286 286) := by unfold World.cell?; rw [HN3.out]; rfl
      have c1 : w3.cell? ⟨w2.heap.size, 1, none⟩ = some (.slice (some ⟨g2, 0, none⟩) 30 30) := by unfold World.cell?; rw [HN3.out]; rfl
      clear o1 o2 o3 b2 HB1 HO1 HO2 HC
      go_wp2
      go_quiet (fail)
      go_wp2
      refine bodyPost_ret (results_tmp3 rfl _ _ _) rfl ?_
      refine ⟨_, _, by rw [HE.out]; rfl, ?_, ?_, fun k hk e => HO3.out ((show g1 = k by simpa [Value.ownBlock] using hk).trans (show g2 = k by simpa [Value.ownBlock] using e).symm), below_drewN HB3.out _⟩
      · unfold ctL; rw [if_pos HE.out]; exact HP1.out
      · unfold ctD; rw [if_pos HE.out]; exact HP2.out
    · have ha' : asnd R = false := by simpa using ha
      have HE : Hid (ctE R = 100) := by show _ = _; unfold ctE; rw [if_neg hl, if_neg ha]
      rw [ha'] at HA
      have HC := hide (fun w' (hb : Below w.heap.size w w') => cta_no (R := R) (w := w) (w' := w') (by rw [HE.out]; decide) hb)
      rw [HE.out] at HC
      clear ha ha'
      go_enter Tryd.func10, Tryd.ntmps10
      go_wp2_with fail
      refine HA.out.mono ?_
      rintro e w1 ⟨rfl, b1⟩
      have HB1 := hide b1
      clear b1 HA
      go_wp2
      refine bodyPost_ret (results_tmp3 rfl _ _ _) rfl ?_
      exact HC.out _ HB1.out
end Go.Proofs.YtbbbonphmffokabDoor

namespace Go.Proofs.YtbbbonphmffokabDoor
open Go.RowKit Go.Maps
set_option maxRecDepth 20000
set_option linter.unusedVariables false

theorem bd_one : Bd ((List.replicate 286 (0 : Int)).set 256 1) 1 := fun i => by
  by_cases h : i = 256
  · subst h
    have : ((List.replicate 286 (0 : Int)).set 256 1).getD 256 0 = 1 := by rw [List.getD_eq_getElem?_getD, List.getElem?_set_self (by simp)]; rfl
    rw [this]; omega
  · have : ((List.replicate 286 (0 : Int)).set 256 1).getD i 0 = 0 := by
      rw [List.getD_eq_getElem?_getD, List.getElem?_set_ne (fun e => h e.symm), List.getElem?_replicate]; split <;> rfl
    rw [this]; omega

theorem Cx.start {w : World} {B g1 g2 : Nat} (h3 : w.heap[g1]? = some (.cells (List.replicate 286 (Value.int .i64 0)).toArray 3 (0, 0))) (h4 : w.heap[g2]? = some (.cells (List.replicate 30 (Value.int .i64 0)).toArray 3 (0, 0))) (h5 : g1 ≠ g2) (h6 : B ≤ g1 ∧ B ≤ g2) : Cx w B g1 g2 (List.replicate 286 0) (List.replicate 30 0) :=
  ⟨⟨by simp, .inr ⟨g1, 286, _, rfl, h6.1, h3, by simp, by unfold maxLen; omega, by simp, by simp⟩⟩, ⟨by simp, .inr ⟨g2, 30, _, rfl, h6.2, h4, by simp, by unfold maxLen; omega, by simp, by simp⟩⟩, by simp, by simp, h5, h6⟩

set_option maxHeartbeats 1000000 in
theorem xCount_any (v : Value) (R : List Tk) (w : World) (h : SK w v R) (hb : ∀ t ∈ R, Bt t) : Calls Tryd.prog 11 #[v] w fun e w' => Cta w.heap.size R e w w' := by
  have HS := hide h
  have HBT := hide hb
  obtain ⟨ao, cap, rfl, hlc, hcm⟩ := h.open
  clear h hb
  have HB0 : Hid (Below w.heap.size w w) := Below.refl _ _
  by_cases hl : 16777216 < R.length
  · have HE : Hid (ctE R = 1) := by show _ = _; unfold ctE; rw [if_pos hl]
    have hl' : (16777216 : Int) < (R.length : Int) := by omega
    have HC := hide (cta_no (w := w) (w' := w) (by rw [HE.out]; decide) HB0.out)
    rw [HE.out] at HC
    go_enter Tryd.func11, Tryd.ntmps11
    go_wp2
    refine bodyPost_ret (results_tmp3 rfl _ _ _) rfl ?_
    exact HC.out
  have hl' : ¬ (16777216 : Int) < (R.length : Int) := by omega
  have HA := hide (ksound_any _ R w HS.out)
  by_cases ha : ¬ asnd R = true
  · have ha' : asnd R = false := by simpa using ha
    have HE : Hid (ctE R = 100) := by show _ = _; unfold ctE; rw [if_neg hl, if_neg ha]
    rw [ha'] at HA
    have HC := hide (fun w' (hb : Below w.heap.size w w') => cta_no (R := R) (w := w) (w' := w') (by rw [HE.out]; decide) hb)
    rw [HE.out] at HC
    clear ha ha'
    go_enter Tryd.func11, Tryd.ntmps11
    go_wp2_with fail
    refine HA.out.mono ?_
    rintro e w1 ⟨rfl, b1⟩
    have HB1 := hide b1
    clear b1 HA
    go_wp2
    refine bodyPost_ret (results_tmp3 rfl _ _ _) rfl ?_
    exact HC.out _ HB1.out
  have ha1 : asnd R = true := Decidable.byContradiction ha
  have HE : Hid (ctE R = 0) := by show _ = _; unfold ctE; rw [if_neg hl, if_pos ha1]
  have HSN : Hid (∀ t ∈ R, Snd t ∧ Bt t) := fun t ht => ⟨asnd_all ha1 t ht, HBT.out t ht⟩
  rw [ha1] at HA
  have hn : R.length ≤ 16777216 := by omega
  have hmx : R.length ≤ 9223372036854775807 := by omega
  have m1 : ∀ w : World, (Instr.makeSlice 24 (.int .i64 286) (.int .i64 286)).run Tryd.prog w = .ok (.slice (some ⟨w.heap.size, 0, none⟩) 286 286) (w.alloc (.cells (List.replicate 286 (Value.int .i64 0)).toArray 3)) := fun w => mk_ints 286 (by omega) w
  have m2 : ∀ w : World, (Instr.makeSlice 24 (.int .i64 30) (.int .i64 30)).run Tryd.prog w = .ok (.slice (some ⟨w.heap.size, 0, none⟩) 30 30) (w.alloc (.cells (List.replicate 30 (Value.int .i64 0)).toArray 3)) := fun w => mk_ints 30 (by omega) w
  obtain ⟨Z1, HZ1⟩ : ∃ Z, Hid ((List.replicate 286 (Value.int .i64 0)).toArray = Z) := ⟨_, rfl⟩
  obtain ⟨Z2, HZ2⟩ : ∃ Z, Hid ((List.replicate 30 (Value.int .i64 0)).toArray = Z) := ⟨_, rfl⟩
  rw [HZ1.out] at m1
  rw [HZ2.out] at m2
  clear ha ha1 HBT
  go_enter Tryd.func11, Tryd.ntmps11
  go_wp2_with fail
  refine HA.out.mono ?_
  rintro e w1 ⟨rfl, b1⟩
  have s1 : (w1.alloc (.cells Z1 3)).heap.size = w1.heap.size + 1 := by simp
  obtain ⟨w2, hw2⟩ : ∃ w2, (w1.alloc (.cells Z1 3)).alloc (.cells Z2 3) = w2 := ⟨_, rfl⟩
  have HB2' : Hid (Below w.heap.size w w2) := by
    rw [← hw2]
    have h1 := b1.alloc b1.size (.cells Z1 3)
    exact h1.alloc h1.size _
  have HC1 : Hid (Cx w2 w.heap.size w1.heap.size (w1.heap.size + 1) (List.replicate 286 0) (List.replicate 30 0)) := by
    refine Cx.start ?_ ?_ (by omega) ⟨b1.size, by have := b1.size; omega⟩
    · rw [HZ1.out, ← hw2, alloc_at, if_neg (by omega), alloc_at, if_pos rfl]
    · rw [HZ2.out, ← hw2, alloc_at, if_pos s1.symm]
  obtain ⟨g1, hg1⟩ : ∃ g1, w1.heap.size = g1 := ⟨_, rfl⟩
  obtain ⟨g2, hg2⟩ : ∃ g2, g1 + 1 = g2 := ⟨_, rfl⟩
  rw [hg1, hg2] at HC1
  have HC2 := hide (HC1.out.putl (i := 256) (by omega) 1)
  have HB2 : Hid (Below w.heap.size w (w2.setCell ⟨g1, 256, none⟩ (.int .i64 1))) := HB2'.out.setCell (p := ⟨g1, 256, none⟩) HC1.out.up.1 _
  obtain ⟨u0, u1⟩ := HC1.out.atl (i := 256) (by omega)
  obtain ⟨ZL, hZL⟩ : ∃ ZL, (List.replicate 286 (0 : Int)).set 256 1 = ZL := ⟨_, rfl⟩
  have HZB : Hid (Bd ZL 1) := by rw [← hZL]; exact bd_one
  have HEN : Hid (cls ZL R = (cls (List.replicate 286 0) R).set 256 1) := by rw [← hZL]; exact cls_end R _ HSN.out
  rw [hZL] at HC2
  clear hZL HA b1 HC1 HB2' HZ1 HZ2
  go_wp2
  clear m1 m2
  go_loopw [8] (fun t wr => ∃ k : Nat, k ≤ R.length ∧ t = .int .i64 (k : Int) ∧ Hid (Cx wr w.heap.size g1 g2 (cls ZL (R.take k)) (cdt (List.replicate 30 0) (R.take k))) ∧ Hid (Below w.heap.size w wr)) (fun t _ => R.length - (intOf t).toNat)
  case atStart => exact ⟨0, Nat.zero_le _, rfl, HC2, HB2⟩
  case round =>
    obtain ⟨k, hk, rfl, HC, HB⟩ := hrel
    clear HC2 HB2
    by_cases hlt : k < R.length
    · have hlt' : (k : Int) < (R.length : Int) := by omega
      obtain ⟨b, o, rfl, c0, c1, c2⟩ := HS.out.get HB.out hlt
      have hsn : Snd (R.getD k tk0) ∧ Bt (R.getD k tk0) := HSN.out _ (by rw [List.getD_eq_getElem?_getD, List.getElem?_eq_getElem hlt]; exact List.getElem_mem hlt)
      have HLI := hide (litS_in hsn.1 hsn.2)
      have HDI := hide (dsy_in hsn.1)
      have HSP := hide (fun h => lsy_spec (x := (R.getD k tk0).1.toNat) h)
      have HDP := hide (fun h => dsy_spec (x := (R.getD k tk0).2.1.toNat) h)
      have HNL : Hid (cls (ZL) (R.take (k + 1)) = inc (cls (ZL) (R.take k)) (litS (R.getD k tk0))) := by show _ = _; rw [snd_take hlt, cls_snoc]; rfl
      have HND : Hid (cdt (List.replicate 30 0) (R.take (k + 1)) = cd (cdt (List.replicate 30 0) (R.take k)) (R.getD k tk0)) := by show _ = _; rw [snd_take hlt, cdt_snoc]
      have HBL := hide (bd_cls (R.take k) ZL 1 HZB.out)
      have HBD := hide (bd_cdt (R.take k) _ 0 (bd_zeros 30))
      rw [List.length_take, Nat.min_eq_left (Nat.le_of_lt hlt)] at HBL HBD
      rw [Nat.zero_add] at HBD
      obtain ⟨L, hL⟩ : ∃ L, cls (ZL) (R.take k) = L := ⟨_, rfl⟩
      obtain ⟨D, hD⟩ : ∃ D, cdt (List.replicate 30 0) (R.take k) = D := ⟨_, rfl⟩
      rw [hL] at HNL HC HBL
      rw [hD] at HND HC HBD
      obtain ⟨⟨t1, t2, t3⟩, ht⟩ : ∃ t, R.getD k tk0 = t := ⟨_, rfl⟩
      rw [ht] at c0 c1 c2 hsn HLI HDI HSP HDP HNL HND
      simp only at c0 c1 c2
      obtain ⟨w6, hw6⟩ : ∃ w6, wr.alloc (.cells #[.int .i64 t1, .int .i64 t2, .int .u8 t3] 40) = w6 := ⟨_, rfl⟩
      have HB6 : Hid (Below wr.heap.size wr w6) := by rw [← hw6]; exact (Below.refl _ _).alloc (Nat.le_refl _) _
      have HN6 : Hid (w6.heap[wr.heap.size]? = some (.cells #[.int .i64 t1, .int .i64 t2, .int .u8 t3] 40 (0, 0))) := by rw [← hw6]; exact heap_alloc_new wr _
      have hx6 : wr.heap.size < w6.heap.size := by rw [← hw6]; simp
      have HC6 := hide (HC.out.low HB6.out)
      have HBW6 := hide (HB.out.trans (HB6.out.mono HB.out.size))
      clear ht hL hD HC HB HB6
      obtain ⟨q, hq⟩ : ∃ q, wr.heap.size = q := ⟨_, rfl⟩
      rw [hq] at HN6 hx6
      by_cases h0 : t1 = 0
      · have b0 : 0 ≤ t3 := hsn.2.1
        have b1 : t3 < 256 := hsn.2.2
        obtain ⟨n3, rfl⟩ := Int.eq_ofNat_of_zero_le b0
        have e1 : litS (t1, t2, (n3 : Int)) = n3 := by unfold litS; rw [if_pos h0]; simp
        have e2 : cd D (t1, t2, (n3 : Int)) = D := by unfold cd; rw [if_pos h0]
        rw [e1] at HNL HLI
        rw [e2] at HND
        have hi3 : n3 < 286 := by omega
        have y0 : w6.cell? ⟨q, 0, none⟩ = some (.int .i64 t1) := by unfold World.cell?; rw [HN6.out]; rfl
        have y2 : w6.cell? ⟨q, 2, none⟩ = some (.int .u8 (n3 : Int)) := by unfold World.cell?; rw [HN6.out]; rfl
        rw [h0] at y0
        obtain ⟨x0, x1⟩ := HC6.out.atl hi3
        have hbl := HBL.out n3
        have HP := hide (HC6.out.putl hi3 (L.getD n3 0 + 1))
        have HBP : Hid (Below w.heap.size w (w6.setCell ⟨g1, n3, none⟩ (.int .i64 (L.getD n3 0 + 1)))) := HBW6.out.setCell (p := ⟨g1, n3, none⟩) HC6.out.up.1 _
        obtain ⟨x, hx⟩ : ∃ x, L.getD n3 0 = x := ⟨_, rfl⟩
        have e3 : inc L n3 = L.set n3 (x + 1) := by unfold inc; rw [hx]
        rw [e3] at HNL
        rw [hx] at x0 hbl HP HBP
        have hwr : wrap64 (x + 1) = x + 1 := by unfold wrap64; omega
        have n3' : (n3 : Int) < 286 := by omega
        have hcv : IntKind.i64.wrap (n3 : Int) = (n3 : Int) := by rw [IntKind.wrap_i64]; omega
        clear hsn HDI HSP HDP HLI HBL HBD hx e1 e2 e3 HN6 HC6 HBW6 h0
        go_wp2
        go_region
        go_wp2
        go_roundw
        case rel => exact ⟨k + 1, by omega, by go_num, by rw [HNL.out, HND.out]; exact hide (HP.out.low (below_drewN (Below.refl _ _) 1)), hide (below_drewN HBP.out 1)⟩
        case measure => simp [intOf]; omega
      · have hq3 : 3 ≤ t1 ∧ t1 ≤ 258 ∧ 1 ≤ t2 ∧ t2 ≤ 32768 ∧ t3 = 0 := by
          have := hsn.1
          unfold Snd at this
          rw [if_neg h0] at this
          exact this
        obtain ⟨b1, b2, b3, b4, b5⟩ := hq3
        obtain ⟨x1, rfl⟩ := Int.eq_ofNat_of_zero_le (show 0 ≤ t1 by omega)
        obtain ⟨x2, rfl⟩ := Int.eq_ofNat_of_zero_le (show 0 ≤ t2 by omega)
        have e1 : litS ((x1 : Int), (x2 : Int), t3) = 257 + lsy x1 := by unfold litS; rw [if_neg h0]; simp
        have e2 : cd D ((x1 : Int), (x2 : Int), t3) = inc D (dsy x2) := by unfold cd; rw [if_neg h0]; simp
        have e4 : dsy x2 < 30 := by have := HDI.out h0; simpa using this
        have hls : Lsy x1 (lsy x1) := by have := HSP.out (by simp; omega); simpa using this
        have hds : Dsy x2 (dsy x2) := by have := HDP.out (by simp; omega); simpa using this
        have hi1 : 257 + lsy x1 < 286 := by have := HLI.out.1; rw [e1] at this; exact this
        rw [e1] at HNL
        rw [e2] at HND
        have HLS := hide (xlsymbol_any x1 (lsy x1) w6 hls (by omega) (by omega))
        have HDS := hide (fun w7 (hb : Below w6.heap.size w6 w7) => xdsymbol_any x2 (dsy x2) w7 hds (by omega) (by omega))
        obtain ⟨A, hA⟩ : ∃ A, 257 + lsy x1 = A := ⟨_, rfl⟩
        obtain ⟨F1, hF1⟩ : ∃ A, LF (lsy x1) = A := ⟨_, rfl⟩
        obtain ⟨F2, hF2⟩ : ∃ A, x1 - LB (lsy x1) = A := ⟨_, rfl⟩
        obtain ⟨F3, hF3⟩ : ∃ A, DF (dsy x2) = A := ⟨_, rfl⟩
        obtain ⟨F4, hF4⟩ : ∃ A, x2 - DB (dsy x2) = A := ⟨_, rfl⟩
        obtain ⟨B, hB⟩ : ∃ A, dsy x2 = A := ⟨_, rfl⟩
        rw [hA, hF1, hF2] at HLS
        rw [hA] at HNL hi1
        rw [hF3, hF4, hB] at HDS
        rw [hB] at HND e4
        have y0 : w6.cell? ⟨q, 0, none⟩ = some (.int .i64 (x1 : Int)) := by unfold World.cell?; rw [HN6.out]; rfl
        have y1 : w6.cell? ⟨q, 1, none⟩ = some (.int .i64 (x2 : Int)) := by unfold World.cell?; rw [HN6.out]; rfl
        have z0 : ((x1 : Int) == 0) = false := by simp; omega
        clear hsn HDI HSP HDP HLI e1 e2 hls hds hA hF1 hF2 hF3 hF4 hB h0 b1 b2 b3 b4 b5
        go_wp2_with fail
        refine HLS.out.mono ?_
        rintro e w7 ⟨rfl, hb7⟩
        have b7 : Below w6.heap.size w6 w7 := by rw [hb7]; exact Below.refl _ _
        clear hb7
        have HDS7 := hide (HDS.out w7 b7)
        have HC7 := hide (HC6.out.low b7)
        have HBW7 := hide (HBW6.out.trans (b7.mono HBW6.out.size))
        have z1 : w7.cell? ⟨q, 1, none⟩ = some (.int .i64 (x2 : Int)) := (b7.cell (by exact hx6)).trans y1
        clear HDS HLS HC6 HBW6 y0 y1 b7 HN6 hx6
        go_wp2_with fail
        refine HDS7.out.mono ?_
        rintro e w8 ⟨rfl, hb8⟩
        have b8 : Below w7.heap.size w7 w8 := by rw [hb8]; exact Below.refl _ _
        clear hb8
        have HC8 := hide (HC7.out.low b8)
        have HBW8 := hide (HBW7.out.trans (b8.mono HBW7.out.size))
        clear HDS7 HC7 HBW7 z1 b8
        have hbl := HBL.out A
        have hbd := HBD.out B
        have HC9 := hide (HC8.out.putl hi1 (L.getD A 0 + 1))
        have HC10 := hide (HC9.out.putd e4 (D.getD B 0 + 1))
        have HB10 : Hid (Below w.heap.size w ((w8.setCell ⟨g1, A, none⟩ (.int .i64 (L.getD A 0 + 1))).setCell ⟨g2, B, none⟩ (.int .i64 (D.getD B 0 + 1)))) := (HBW8.out.setCell (p := ⟨g1, A, none⟩) HC8.out.up.1 _).setCell (p := ⟨g2, B, none⟩) HC8.out.up.2 _
        obtain ⟨u0, u1⟩ := HC8.out.atl hi1
        obtain ⟨u3, u4⟩ := HC9.out.atd e4
        obtain ⟨x, hx⟩ : ∃ x, L.getD A 0 = x := ⟨_, rfl⟩
        obtain ⟨y, hy⟩ : ∃ x, D.getD B 0 = x := ⟨_, rfl⟩
        have e3 : inc L A = L.set A (x + 1) := by unfold inc; rw [hx]
        have e5 : inc D B = D.set B (y + 1) := by unfold inc; rw [hy]
        rw [e3] at HNL
        rw [e5] at HND
        rw [hx] at u0 hbl HC10 HB10 u3 u4
        rw [hy] at u3 hbd HC10 HB10
        have hw1 : wrap64 (x + 1) = x + 1 := by unfold wrap64; omega
        have hw2 : wrap64 (y + 1) = y + 1 := by unfold wrap64; omega
        have A' : (A : Int) < 286 := by omega
        have B' : (B : Int) < 30 := by omega
        clear hx hy HC8 HC9 HBW8 HBL HBD e3 e5
        go_wp2
        go_roundw
        case rel => exact ⟨k + 1, by omega, by go_num, by rw [HNL.out, HND.out]; exact HC10, HB10⟩
        case measure => simp [intOf]; omega
    · obtain rfl : k = R.length := by omega
      have hlt' : ¬ (R.length : Int) < (R.length : Int) := by omega
      rw [List.take_of_length_le (Nat.le_refl _), HEN.out] at HC
      go_wp2
      refine bodyPost_ret (results_tmp3 rfl _ _ _) rfl ?_
      refine ⟨_, _, by rw [HE.out]; rfl, ?_, ?_, fun k hk e => HC.out.ne ((show g1 = k by simpa [Value.ownBlock] using hk).trans (show g2 = k by simpa [Value.ownBlock] using e).symm), HB.out⟩
      · unfold ctL; rw [if_pos HE.out]; exact HC.out.lit
      · unfold ctD; rw [if_pos HE.out]; exact HC.out.dist
end Go.Proofs.YtbbbonphmffokabDoor

