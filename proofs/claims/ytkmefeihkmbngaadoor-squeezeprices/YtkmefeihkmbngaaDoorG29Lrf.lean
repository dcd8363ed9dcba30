import Derived.Test.YtkmefeihkmbngaaDoorG27Lre
import Derived.Test.YtkmefeihkmbngaaDoorG18Trw
import Derived.Test.YtkmefeihkmbngaaDoorG28Sqw
namespace Go.Proofs.YtkmefeihkmbngaaDoor
open Go.RowKit Go.Maps
set_option maxRecDepth 20000
set_option linter.unusedVariables false

theorem qPrices_any (v : Value) (R : List Tk) (w : World) (h : SK w v R) (hb : ∀ t ∈ R, Bt t) (T : Ltab w ∧ Dtab w) : Calls Tryd.prog 12 #[v] w fun e w' => Psa w.heap.size R e w w' := by
  have HC := hide (oTrees_any v R w h hb T)
  have HT := hide T
  have HCA := hide (ctE_cases R)
  obtain ⟨ao, cap, rfl, hlc, hcm⟩ := h.open
  clear h hb T
  go_enter Tryd.func12, Tryd.ntmps12
  go_wp2_with fail
  refine HC.out.mono ?_
  rintro e w1 ⟨vl, vd, rfl, o1, o2, o3, b1⟩
  obtain ⟨al, cl, rfl, _⟩ := o1.sb.open
  obtain ⟨ad, cd, rfl, _⟩ := o2.sb.open
  have HB1 := hide b1
  by_cases hE : ctE R = 0
  · have HE := hide hE
    have HW := hide (tr_wok hE)
    have HL := hide (learned_any _ _ _ _ w1 o1.sb o2.sb HW.out.1 HW.out.2 ⟨HT.out.1.low b1, HT.out.2.low b1⟩)
    rw [hE]
    obtain ⟨n1, hn1⟩ : ∃ n, (trL R).length = n := ⟨_, rfl⟩
    obtain ⟨n2, hn2⟩ : ∃ n, (trD R).length = n := ⟨_, rfl⟩
    rw [hn1, hn2] at HL ⊢
    clear o1 o2 o3 b1 HC hE hn1 hn2 HT
    go_wp2_with fail
    refine HL.out.mono ?_
    rintro e w2 ⟨g1, g2, rfl, p1, p2, p3, b2⟩
    have HB2 := hide (HB1.out.trans (b2.mono HB1.out.size))
    have HO1 := hide (p1.base HB1.out.size)
    have HO2 := hide (p2.base HB1.out.size)
    have HO3 := hide p3
    obtain ⟨w3, hw3⟩ : ∃ w3, w2.alloc (.cells #[.slice (some ⟨g1, 0, none⟩) 286 286, .slice (some ⟨g2, 0, none⟩) 30 30] 41) = w3 := ⟨_, rfl⟩
    have HB3 : Hid (Below w.heap.size w w3) := by rw [← hw3]; exact HB2.out.alloc HB2.out.size _
    have HN3 : Hid (w3.heap[w2.heap.size]? = some (.cells #[.slice (some ⟨g1, 0, none⟩) 286 286, .slice (some ⟨g2, 0, none⟩) 30 30] 41 (0, 0))) := by rw [← hw3]; exact heap_alloc_new _ _
    have HP1 : Hid (OI w3 w.heap.size (.slice (some ⟨g1, 0, none⟩) 286 286) (pcL (trL R))) := by rw [← hw3]; exact HO1.out.alloc _
    have HP2 : Hid (OI w3 w.heap.size (.slice (some ⟨g2, 0, none⟩) 30 30) (pcD (trD R))) := by rw [← hw3]; exact HO2.out.alloc _
    have c0 : w3.cell? ⟨w2.heap.size, 0, none⟩ = some (.slice (some ⟨g1, 0, none⟩) 286 286) := by unfold World.cell?; rw [HN3.out]; rfl
    have c1' : w3.cell? ⟨w2.heap.size, 1, none⟩ = some (.slice (some ⟨g2, 0, none⟩) 30 30) := by unfold World.cell?; rw [HN3.out]; rfl
    clear p1 p2 p3 b2 HB1 HO1 HO2 HL
    go_wp2
    go_quiet (fail)
    go_wp2
    refine bodyPost_ret (results_tmp3 rfl _ _ _) rfl ?_
    have hps : psE R = 0 := by unfold psE; rw [HE.out]; rfl
    refine ⟨_, _, by rw [hps]; rfl, ?_, ?_, fun k hk e => HO3.out ((show g1 = k by simpa [Value.ownBlock] using hk).trans (show g2 = k by simpa [Value.ownBlock] using e).symm), below_drewN HB3.out _⟩
    · unfold psL; rw [if_pos HE.out]; exact HP1.out
    · unfold psD; rw [if_pos HE.out]; exact HP2.out
  · have HTN := hide (psa_no (w := w) hE b1)
    have HU := hide (unlike_any (ctE R) w1)
    rw [show (if ctE R = 100 then 211 else ctE R) = psE R from rfl] at HU
    obtain ⟨E, hE2⟩ : ∃ E, ctE R = E := ⟨_, rfl⟩
    obtain ⟨E', hE3⟩ : ∃ E, psE R = E := ⟨_, rfl⟩
    rw [hE2] at hE HU ⊢
    rw [hE3] at HTN HU
    have hne : (E != 0) = true := by simpa using hE
    clear o1 o2 o3 b1 HC hE hE2 hE3 HT HCA
    go_wp2_with fail
    refine HU.out.mono ?_
    rintro e w2 ⟨rfl, hw2⟩
    subst hw2
    go_wp2
    refine bodyPost_ret (results_tmp3 rfl _ _ _) rfl ?_
    exact HTN.out

structure Cw (w : World) (B g1 g2 c1 c2 : Nat) (l d : List Int) : Prop where
  lit : OI w B (.slice (some ⟨g1, 0, none⟩) 286 c1) l
  dist : OI w B (.slice (some ⟨g2, 0, none⟩) 30 c2) d
  ll : l.length = 286
  dl : d.length = 30
  ne : g1 ≠ g2
  up : B ≤ g1 ∧ B ≤ g2

theorem Cw.low {w w' : World} {B g1 g2 c1 c2 : Nat} {l d : List Int} (h : Cw w B g1 g2 c1 c2 l d) (hb : Below w.heap.size w w') : Cw w' B g1 g2 c1 c2 l d :=
  ⟨h.lit.move fun k hk => hb.block k (h.lit.lt k hk).2, h.dist.move fun k hk => hb.block k (h.dist.lt k hk).2, h.ll, h.dl, h.ne, h.up⟩

theorem Cw.atl {w : World} {B g1 g2 c1 c2 : Nat} {l d : List Int} (h : Cw w B g1 g2 c1 c2 l d) {i : Nat} (hi : i < 286) : w.cell? ⟨g1, i, none⟩ = some (.int .i64 (l.getD i 0)) ∧ w.frozen? ⟨g1, i, none⟩ = false := by
  have hl : i < l.length := by rw [h.ll]; exact hi
  obtain ⟨g', c', e, ⟨u, hu⟩, hf, _⟩ := h.lit.put hl 0
  simp only [Value.slice.injEq, Option.some.injEq, Addr.mk.injEq] at e
  obtain ⟨⟨rfl, -⟩, -⟩ := e
  exact ⟨h.lit.get rfl hl, hf⟩

theorem Cw.atd {w : World} {B g1 g2 c1 c2 : Nat} {l d : List Int} (h : Cw w B g1 g2 c1 c2 l d) {i : Nat} (hi : i < 30) : w.cell? ⟨g2, i, none⟩ = some (.int .i64 (d.getD i 0)) ∧ w.frozen? ⟨g2, i, none⟩ = false := by
  have hl : i < d.length := by rw [h.dl]; exact hi
  obtain ⟨g', c', e, ⟨u, hu⟩, hf, _⟩ := h.dist.put hl 0
  simp only [Value.slice.injEq, Option.some.injEq, Addr.mk.injEq] at e
  obtain ⟨⟨rfl, -⟩, -⟩ := e
  exact ⟨h.dist.get rfl hl, hf⟩

theorem Cw.putl {w : World} {B g1 g2 c1 c2 : Nat} {l d : List Int} (h : Cw w B g1 g2 c1 c2 l d) {i : Nat} (hi : i < 286) (x : Int) : Cw (w.setCell ⟨g1, i, none⟩ (.int .i64 x)) B g1 g2 c1 c2 (l.set i x) d := by
  have hl : i < l.length := by rw [h.ll]; exact hi
  obtain ⟨g', c', e, _, _, ho⟩ := h.lit.put hl x
  simp only [Value.slice.injEq, Option.some.injEq, Addr.mk.injEq] at e
  obtain ⟨⟨rfl, -⟩, -⟩ := e
  refine ⟨ho, h.dist.move fun k hk => ?_, by simp [h.ll], h.dl, h.ne, h.up⟩
  simp [Value.ownBlock] at hk
  subst hk
  exact setCell_others _ _ _ _ _ (fun e => h.ne e.symm)

theorem Cw.putd {w : World} {B g1 g2 c1 c2 : Nat} {l d : List Int} (h : Cw w B g1 g2 c1 c2 l d) {i : Nat} (hi : i < 30) (x : Int) : Cw (w.setCell ⟨g2, i, none⟩ (.int .i64 x)) B g1 g2 c1 c2 l (d.set i x) := by
  have hl : i < d.length := by rw [h.dl]; exact hi
  obtain ⟨g', c', e, _, _, ho⟩ := h.dist.put hl x
  simp only [Value.slice.injEq, Option.some.injEq, Addr.mk.injEq] at e
  obtain ⟨⟨rfl, -⟩, -⟩ := e
  refine ⟨h.lit.move fun k hk => ?_, ho, h.ll, by simp [h.dl], h.ne, h.up⟩
  simp [Value.ownBlock] at hk
  subst hk
  exact setCell_others _ _ _ _ _ h.ne

set_option maxHeartbeats 1000000 in
theorem vPrices_any (v : Value) (R : List Tk) (w : World) (h : SK w v R) (hb : ∀ t ∈ R, Bt t) : Calls Tryd.prog 13 #[v] w fun e w' => Psa w.heap.size R e w w' := by
  have HC := hide (xTrees_any v R w h hb)
  have HCA := hide (ctE_cases R)
  obtain ⟨ao, cap, rfl, hlc, hcm⟩ := h.open
  clear h hb
  go_enter Tryd.func13, Tryd.ntmps13
  go_wp2_with fail
  refine HC.out.mono ?_
  rintro e w1 ⟨vl, vd, rfl, o1, o2, o3, b1⟩
  rcases HCA.out with hE | hE | hE
  · have HE := hide hE
    have HW := hide (tr_wok hE)
    obtain ⟨L, hL⟩ : ∃ l, trL R = l := ⟨_, rfl⟩
    obtain ⟨D, hD⟩ : ∃ l, trD R = l := ⟨_, rfl⟩
    have HFL : Hid (psL R = pcL L ∧ psD R = pcD D ∧ psE R = 0) := by
      refine ⟨?_, ?_, ?_⟩
      · unfold psL; rw [if_pos hE, hL]
      · unfold psD; rw [if_pos hE, hD]
      · unfold psE; rw [hE]; rfl
    rw [hL, hD] at HW
    rw [hL] at o1
    rw [hD] at o2
    rw [hE]
    have hLl := HW.out.1.1
    have hDl := HW.out.2.1
    have HLB := hide HW.out.1.2
    have HDB := hide HW.out.2.2
    obtain ⟨g1, c1, rfl, _, _, _, hc1⟩ := o1.form (by omega)
    obtain ⟨g2, c2, rfl, _, _, _, hc2⟩ := o2.form (by omega)
    have HNE : Hid (g1 ≠ g2) := fun q => o3 g1 rfl (by rw [q]; rfl)
    have HB1 := hide b1
    have HO1 := hide o1
    have HO2 := hide o2
    have HM0 : Hid (mix (pcL L) L 0 = L ∧ mix (pcL L) L 286 = pcL L) := ⟨mix_zero _ _, by have := mix_all (P := pcL L) (Q := L) (by rw [pcL_len]; omega); rwa [hLl] at this⟩
    have HMS : Hid (∀ k : Nat, k < 286 → (mix (pcL L) L k).getD k 0 = L.getD k 0 ∧ (mix (pcL L) L k).length = 286 ∧ ∀ y, ((mix (pcL L) L k).set k y).set k (wbn (L.getD k 0) + lfu k) = mix (pcL L) L (k + 1)) := fun k hk => by
      refine ⟨?_, by rw [mix_len (by rw [pcL_len]; omega)]; omega, fun y => ?_⟩
      · rw [mix_get (by rw [pcL_len]; omega) (by omega), if_neg (by omega)]
      · rw [List.set_set, ← pcL_at L hk]
        exact mix_set (by rw [pcL_len]; omega) (by omega)
    obtain ⟨M, hM⟩ : ∃ M : Nat → List Int, (fun k => mix (pcL L) L k) = M := ⟨_, rfl⟩
    have hMk : ∀ k, mix (pcL L) L k = M k := fun k => congrFun hM k
    simp only [hMk] at HM0 HMS
    have HN0 : Hid (mix (pcD D) D 0 = D ∧ mix (pcD D) D 30 = pcD D) := ⟨mix_zero _ _, by have := mix_all (P := pcD D) (Q := D) (by rw [pcD_len]; omega); rwa [hDl] at this⟩
    have HNS : Hid (∀ k : Nat, k < 30 → (mix (pcD D) D k).getD k 0 = D.getD k 0 ∧ (mix (pcD D) D k).length = 30 ∧ ∀ y, ((mix (pcD D) D k).set k y).set k (wbn (D.getD k 0) + (DF k : Int)) = mix (pcD D) D (k + 1)) := fun k hk => by
      refine ⟨?_, by rw [mix_len (by rw [pcD_len]; omega)]; omega, fun y => ?_⟩
      · rw [mix_get (by rw [pcD_len]; omega) (by omega), if_neg (by omega)]
      · rw [List.set_set, ← pcD_at D hk]
        exact mix_set (by rw [pcD_len]; omega) (by omega)
    obtain ⟨N, hN⟩ : ∃ M : Nat → List Int, (fun k => mix (pcD D) D k) = M := ⟨_, rfl⟩
    have hNk : ∀ k, mix (pcD D) D k = N k := fun k => congrFun hN k
    simp only [hNk] at HN0 HNS
    rw [hLl] at HO1 ⊢
    rw [hDl] at HO2 ⊢
    have HC0 : Hid (Cw w1 w.heap.size g1 g2 c1 c2 (M 0) (N 0)) := by
      rw [HM0.out.1, HN0.out.1]
      exact ⟨HO1.out, HO2.out, hLl, hDl, HNE.out, (HO1.out.lt g1 rfl).1, (HO2.out.lt g2 rfl).1⟩
    have HVL := hide (fun k (hk : k < 286) w0 => vlengthBits_any k hk w0)
    have HVD := hide (fun k (hk : k < 30) w0 => vdistBits_any k hk w0)
    clear o1 o2 o3 b1 HC hE HCA HO1 HO2 HNE hM hMk hN hNk HW hL hD
    go_wp2
    go_loopw [8] (fun t wr => ∃ k : Nat, k ≤ 286 ∧ t = .int .i64 (k : Int) ∧ Hid (Cw wr w.heap.size g1 g2 c1 c2 (M k) (N 0)) ∧ Hid (Below w.heap.size w wr)) (fun t _ => 286 - (intOf t).toNat)
    case atStart => exact ⟨0, Nat.zero_le _, rfl, HC0, HB1⟩
    case round =>
      obtain ⟨k, hk, rfl, HC, HB⟩ := hrel
      clear HC0 HB1
      by_cases hlt : k < 286
      · have hlt' : (k : Int) < 286 := by omega
        have hx := HLB.out k
        have hf := lfu_bd hlt
        have hy := wbn_bd hx
        obtain ⟨e1, e2, e3⟩ := HMS.out k hlt
        have HST := hide e3
        have HVB := hide (HVL.out k hlt)
        obtain ⟨u0, u1⟩ := HC.out.atl hlt
        rw [e1] at u0
        obtain ⟨x, hx0⟩ : ∃ x, L.getD k 0 = x := ⟨_, rfl⟩
        rw [hx0] at u0 HST hx hy
        obtain ⟨f, hf0⟩ : ∃ y, lfu k = y := ⟨_, rfl⟩
        rw [hf0] at HST hf HVB
        clear e1 e2 e3 hx0 hf0
        by_cases h0 : x = 0
        · subst h0
          have hwb : wbn 0 = 15 := by decide
          rw [hwb] at HST
          have hwr : wrap64 (15 + f) = 15 + f := by unfold wrap64; omega
          have HC5 := hide (HC.out.putl hlt 15)
          obtain ⟨t0, t1⟩ := HC5.out.atl hlt
          have t2 : ((M k).set k 15).getD k 0 = 15 := by rw [getD_set, if_pos ⟨rfl, by rw [HC.out.ll]; exact hlt⟩]
          rw [t2] at t0
          have HP := hide (HC5.out.putl hlt (15 + f))
          rw [HST.out 15] at HP
          have HBP : Hid (Below w.heap.size w ((wr.setCell ⟨g1, k, none⟩ (.int .i64 15)).setCell ⟨g1, k, none⟩ (.int .i64 (15 + f)))) := (HB.out.setCell (p := ⟨g1, k, none⟩) HC.out.up.1 _).setCell (p := ⟨g1, k, none⟩) HC.out.up.1 _
          rw [← hwr] at HP HBP
          clear hx hf hy hwb t2 HST HC5 HC HB
          go_wp2
          go_region_with (go_at_call 23; (with_reducible refine (HVB.out _).mono ?_); rintro e w5 ⟨rfl, hw5⟩; rw [hw5]; clear hw5)
          all_goals
            go_wp2
            go_roundw
            case rel => exact ⟨k + 1, by omega, by go_num, hide (HP.out.low (below_drewN (Below.refl _ _) 1)), hide (below_drewN HBP.out 1)⟩
            case measure => simp [intOf]; omega
        · have h0' : (x == 0) = false := by simpa using h0
          have hwb : wbn x = x := by unfold wbn; rw [if_neg h0]
          rw [hwb] at HST
          have hwr : wrap64 (x + f) = x + f := by unfold wrap64; omega
          have HP := hide (HC.out.putl hlt (x + f))
          have t3 := HST.out (x + f)
          rw [List.set_set] at t3
          rw [t3] at HP
          have HBP : Hid (Below w.heap.size w (wr.setCell ⟨g1, k, none⟩ (.int .i64 (x + f)))) := HB.out.setCell (p := ⟨g1, k, none⟩) HC.out.up.1 _
          rw [← hwr] at HP HBP
          clear hx hf hy hwb t3 HST HC HB h0
          go_wp2
          go_region_with (go_at_call 23; (with_reducible refine (HVB.out _).mono ?_); rintro e w5 ⟨rfl, hw5⟩; rw [hw5]; clear hw5)
          all_goals
            go_wp2
            go_roundw
            case rel => exact ⟨k + 1, by omega, by go_num, hide (HP.out.low (below_drewN (Below.refl _ _) 1)), hide (below_drewN HBP.out 1)⟩
            case measure => simp [intOf]; omega
      · obtain rfl : k = 286 := by omega
        have hlt' : ¬ ((286 : Nat) : Int) < 286 := by omega
        rw [HM0.out.2] at HC
        clear HM0 HMS HLB HVL
        go_wp2
        have HC2 := HC
        have HB2 := HB
        clear HC HB
        go_loopw [9] (fun t wr => ∃ k : Nat, k ≤ 30 ∧ t = .int .i64 (k : Int) ∧ Hid (Cw wr w.heap.size g1 g2 c1 c2 (pcL L) (N k)) ∧ Hid (Below w.heap.size w wr)) (fun t _ => 30 - (intOf t).toNat)
        case atStart => exact ⟨0, Nat.zero_le _, rfl, HC2, HB2⟩
        case round =>
          obtain ⟨k, hk, rfl, HC, HB⟩ := hrel
          clear HC2 HB2
          by_cases hlt : k < 30
          · have hlt' : (k : Int) < 30 := by omega
            have hx := HDB.out k
            have hf := dft_bd hlt
            have hy := wbn_bd hx
            obtain ⟨e1, e2, e3⟩ := HNS.out k hlt
            have HST := hide e3
            have HVB := hide (HVD.out k hlt)
            obtain ⟨u0, u1⟩ := HC.out.atd hlt
            rw [e1] at u0
            obtain ⟨x, hx0⟩ : ∃ x, D.getD k 0 = x := ⟨_, rfl⟩
            rw [hx0] at u0 HST hx hy
            obtain ⟨f, hf0⟩ : ∃ y, DF k = y := ⟨_, rfl⟩
            rw [hf0] at HST hf HVB
            clear e1 e2 e3 hx0 hf0
            by_cases h0 : x = 0
            · subst h0
              have hwb : wbn 0 = 15 := by decide
              rw [hwb] at HST
              have hwr : wrap64 (15 + (f : Int)) = 15 + (f : Int) := by unfold wrap64; omega
              have HC5 := hide (HC.out.putd hlt 15)
              obtain ⟨t0, t1⟩ := HC5.out.atd hlt
              have t2 : ((N k).set k 15).getD k 0 = 15 := by rw [getD_set, if_pos ⟨rfl, by rw [HC.out.dl]; exact hlt⟩]
              rw [t2] at t0
              have HP := hide (HC5.out.putd hlt (15 + (f : Int)))
              rw [HST.out 15] at HP
              have HBP : Hid (Below w.heap.size w ((wr.setCell ⟨g2, k, none⟩ (.int .i64 15)).setCell ⟨g2, k, none⟩ (.int .i64 (15 + (f : Int))))) := (HB.out.setCell (p := ⟨g2, k, none⟩) HC.out.up.2 _).setCell (p := ⟨g2, k, none⟩) HC.out.up.2 _
              rw [← hwr] at HP HBP
              clear hx hf hy hwb t2 HST HC5 HC HB
              go_wp2
              go_region_with (go_at_call 24; (with_reducible refine (HVB.out _).mono ?_); rintro e w5 ⟨rfl, hw5⟩; rw [hw5]; clear hw5)
              all_goals
                go_wp2
                go_roundw
                case rel => exact ⟨k + 1, by omega, by go_num, hide (HP.out.low (below_drewN (Below.refl _ _) 1)), hide (below_drewN HBP.out 1)⟩
                case measure => simp [intOf]; omega
            · have h0' : (x == 0) = false := by simpa using h0
              have hwb : wbn x = x := by unfold wbn; rw [if_neg h0]
              rw [hwb] at HST
              have hwr : wrap64 (x + (f : Int)) = x + (f : Int) := by unfold wrap64; omega
              have HP := hide (HC.out.putd hlt (x + (f : Int)))
              have t3 := HST.out (x + (f : Int))
              rw [List.set_set] at t3
              rw [t3] at HP
              have HBP : Hid (Below w.heap.size w (wr.setCell ⟨g2, k, none⟩ (.int .i64 (x + (f : Int))))) := HB.out.setCell (p := ⟨g2, k, none⟩) HC.out.up.2 _
              rw [← hwr] at HP HBP
              clear hx hf hy hwb t3 HST HC HB h0
              go_wp2
              go_region_with (go_at_call 24; (with_reducible refine (HVB.out _).mono ?_); rintro e w5 ⟨rfl, hw5⟩; rw [hw5]; clear hw5)
              all_goals
                go_wp2
                go_roundw
                case rel => exact ⟨k + 1, by omega, by go_num, hide (HP.out.low (below_drewN (Below.refl _ _) 1)), hide (below_drewN HBP.out 1)⟩
                case measure => simp [intOf]; omega
          · obtain rfl : k = 30 := by omega
            have hlt' : ¬ ((30 : Nat) : Int) < 30 := by omega
            rw [HN0.out.2] at HC
            go_wp2
            refine bodyPost_ret (results_tmp3 rfl _ _ _) rfl ?_
            exact ⟨_, _, by rw [HFL.out.2.2]; rfl, by rw [HFL.out.1]; exact HC.out.lit, by rw [HFL.out.2.1]; exact HC.out.dist, fun j hj e => HC.out.ne ((show g1 = j by simpa [Value.ownBlock] using hj).trans (show g2 = j by simpa [Value.ownBlock] using e).symm), HB.out⟩
  · have HTN := hide (psa_no (w := w) (R := R) (by rw [hE]; decide) b1)
    have hps : psE R = 1 := by unfold psE; rw [hE]; rfl
    rw [hps] at HTN
    rw [hE]
    clear o1 o2 o3 b1 HC hE hps HCA
    go_wp2
    refine bodyPost_ret (results_tmp3 rfl _ _ _) rfl ?_
    exact HTN.out
  · have HTN := hide (psa_no (w := w) (R := R) (by rw [hE]; decide) b1)
    have hps : psE R = 211 := by unfold psE; rw [hE]; rfl
    rw [hps] at HTN
    rw [hE]
    clear o1 o2 o3 b1 HC hE hps HCA
    go_wp2
    refine bodyPost_ret (results_tmp3 rfl _ _ _) rfl ?_
    exact HTN.out
end Go.Proofs.YtkmefeihkmbngaaDoor

