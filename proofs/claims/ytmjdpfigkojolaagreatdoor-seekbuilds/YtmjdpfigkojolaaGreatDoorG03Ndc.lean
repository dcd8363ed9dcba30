import Derived.Test.YtmjdpfigkojolaaGreatDoorG02Drr
import Derived.Deep.RegionLaw
namespace Go.Proofs.YtmjdpfigkojolaaGreatDoor
open Go.RowKit Go.Maps
set_option maxRecDepth 20000

theorem wpList_loadB {ops : Array Oper} {rest : List Oper} {a : Act} {w : World} {Q : Exit → Act → World → Prop} {dst : Option Tmp} {x : Operand} {ty : TypeId} {pos : String} {after : Array Edge} (g : Nat) (vl vw : Value)
    (hx : a.eval x = .pointer (some ⟨g, 0, none⟩)) (hg : w.heap[g]? = some (.cells #[vl, vw] 159 (0, 0))) (h : wpList Tryz.prog ops Q rest (a.put dst (.agg #[vl, vw])) w) :
    wpList Tryz.prog ops Q ({ dst := dst, op := .load 159 x, type := ty, pos := pos, after := after, guard := none } :: rest) a w :=
  wpList_load_row rfl 159 x rfl g hx 159 #[vl, vw] (0, 0) _ hg Tryz.underlying159 rfl (by kernel_rfl) h

theorem step_call1 {P : Program} {ops : Array Oper} {o : Oper} {a : Act} {w : World} {K : Act → World → Prop} {Q : Exit → Act → World → Prop} {E : Prop} (hgd : o.guard = none) (x0 : Operand) (t0 : TypeId) (f : FuncId)
    (ho : o.op = .call { callee := .value (.func f), args := #[x0], argTypes := #[t0] }) (hcall : ∀ args w, (callFunc f args).run P w = .ok (.enter f args) w) (v0 : Value) (h0 : a.eval x0 = v0) {R : Value → World → Prop}
    (hc : Calls P f #[v0] w fun e w' => ∃ u, e = .returned u ∧ R u w') (h : ∀ v w', R v w' → K (a.put o.dst v) w') :
    if Region.wanted o (yielded ops a.tmps) = true then Oper.wp P o a w K Q else E := by
  have hw : Region.wanted o (yielded ops a.tmps) = true := by simp [Region.wanted, hgd]
  rw [if_pos hw]
  have hrun : (execOp a.eval o).run P w = .ok (.enter f #[v0]) w := by
    obtain ⟨dst, op, type, pos, after, guard⟩ := o
    simp only [] at ho
    subst ho
    rw [execOp_call_go, hcall]
    simp [h0]
  unfold Oper.wp
  rw [hrun, Oper.upon_enter]
  refine hc.mono fun e w'' hh => ?_
  obtain ⟨v, rfl, hr⟩ := hh
  exact h _ _ hr

theorem step_call3 {P : Program} {ops : Array Oper} {o : Oper} {a : Act} {w : World} {K : Act → World → Prop} {Q : Exit → Act → World → Prop} {E : Prop} (hgd : o.guard = none) (x y z : Operand) (t u s : TypeId) (f : FuncId)
    (ho : o.op = .call { callee := .value (.func f), args := #[x, y, z], argTypes := #[t, u, s] }) (hcall : ∀ args w, (callFunc f args).run P w = .ok (.enter f args) w) (v1 v2 v3 : Value) (hx : a.eval x = v1) (hy : a.eval y = v2) (hz : a.eval z = v3) {R : Value → World → Prop}
    (hc : Calls P f #[v1, v2, v3] w fun e w' => ∃ u, e = .returned u ∧ R u w') (h : ∀ v w', R v w' → K (a.put o.dst v) w') :
    if Region.wanted o (yielded ops a.tmps) = true then Oper.wp P o a w K Q else E := by
  have hw : Region.wanted o (yielded ops a.tmps) = true := by simp [Region.wanted, hgd]
  rw [if_pos hw]
  have hrun : (execOp a.eval o).run P w = .ok (.enter f #[v1, v2, v3]) w := by
    obtain ⟨dst, op, type, pos, after, guard⟩ := o
    simp only [] at ho
    subst ho
    rw [execOp_call_go, hcall]
    simp [hx, hy, hz]
  unfold Oper.wp
  rw [hrun, Oper.upon_enter]
  refine hc.mono fun e w'' hh => ?_
  obtain ⟨v, rfl, hr⟩ := hh
  exact h _ _ hr

def dcE (l : List Int) : Int := if bkE l ≠ 0 then bkE l else if shp l = 0 then 53 else 0

structure Dp (w : World) (K : Nat → Nat) (g : Nat) (l : List Int) : Prop where
  d : ∃ vl vw vs sy, w.heap[g]? = some (.cells (dv vl vw vs (shf l) (en l)) 163 (0, 0)) ∧ OI w 0 vl l ∧ OI w 0 vw (wds l) ∧ OI w 0 vs sy ∧ SymOk l sy ∧ (∀ k, vl.ownBlock = some k → K k ≠ 0) ∧ (∀ k, vw.ownBlock = some k → K k ≠ 0) ∧ (∀ k, vs.ownBlock = some k → K k ≠ 0)
  k : K g ≠ 0
  sup : ∀ k, K k ≠ 0 → k < w.heap.size
  ok : dcE l = 0

theorem Dp.far {w w' : World} {K : Nat → Nat} {g : Nat} {l : List Int} (h : Dp w K g l) (hsz : w.heap.size ≤ w'.heap.size) (hb : ∀ k, K k ≠ 0 → w'.heap[k]? = w.heap[k]?) : Dp w' K g l := by
  obtain ⟨vl, vw, vs, sy, a1, a2, a3, a4, a5, a6, a7, a8⟩ := h.d
  exact ⟨⟨vl, vw, vs, sy, (hb g h.k).trans a1, a2.move fun k hk => hb k (a6 k hk), a3.move fun k hk => hb k (a7 k hk), a4.move fun k hk => hb k (a8 k hk), a5, a6, a7, a8⟩, h.k, fun k hk => Nat.lt_of_lt_of_le (h.sup k hk) hsz, h.ok⟩

def MadeD (w : World) (l : List Int) (e : Ending) (w' : World) : Prop := Below w.heap.size w w' ∧ ((dcE l ≠ 0 ∧ e = .returned (.tuple #[.pointer none, .int .i64 (dcE l)])) ∨ (dcE l = 0 ∧ ∃ g K, e = .returned (.tuple #[.pointer (some ⟨g, 0, none⟩), .int .i64 0]) ∧ Dp w' K g l ∧ ∀ k, K k ≠ 0 → w.heap.size ≤ k))

theorem dv_new (vl vw : Value) : dv vl vw (.slice none 0 0) (fun _ => 0) (fun _ => 0) = #[vl, vw, .slice none 0 0, .int .i64 0, .int .i64 0, .int .i64 0, .int .i64 0, .int .i64 0, .int .i64 0, .int .i64 0, .int .i64 0, .int .i64 0, .int .i64 0, .int .i64 0, .int .i64 0, .int .i64 0, .int .i64 0, .int .i64 0, .int .i64 0, .int .i64 0, .int .i64 0, .int .i64 0, .int .i64 0, .int .i64 0, .int .i64 0, .int .i64 0, .int .i64 0, .int .i64 0, .int .i64 0, .int .i64 0, .int .i64 0, .int .i64 0, .int .i64 0, .int .i64 0, .int .i64 0] := by
  simp [dv, av_zero]

set_option linter.unusedSimpArgs false in
set_option maxHeartbeats 1000000 in
theorem newDecoder_any (v : Value) (l : List Int) (w : World) (h : SI w v l) :
    Calls Tryz.prog 86 #[v] w fun e w' => MadeD w l e w' := by
  have HS := hide h
  obtain ⟨ao, cap, rfl, hlc, hcm⟩ := h.open
  clear h
  go_enter Tryz.func86, Tryz.ntmps86
  go_wp2_with fail
  refine (newBook_any _ l _ HS.out).mono ?_
  rintro e w1 ⟨vl, vw, rfl, hbk, hb1⟩
  have HB1 := hide hb1
  have HBK := hide hbk
  clear hb1 hbk
  have HA : Hid ((w1.alloc (.cells #[.slice none 0 0, .slice none 0 0] 159)).heap[w1.heap.size]? = some (.cells #[.slice none 0 0, .slice none 0 0] 159 (0, 0))) := heap_alloc_new w1 _
  have HBA : Hid (Below w.heap.size w (w1.alloc (.cells #[.slice none 0 0, .slice none 0 0] 159))) := HB1.out.alloc HB1.out.size _
  have o1 : Hid (vl.oneCell' = true ∧ vw.oneCell' = true) := by
    rcases HBK.out with ⟨_, rfl, rfl⟩ | ⟨_, h1, h2⟩
    · exact ⟨rfl, rfl⟩
    · obtain ⟨_, _, e1⟩ := h1.shape
      obtain ⟨_, _, e2⟩ := h2.shape
      rw [e1, e2]; exact ⟨rfl, rfl⟩
  obtain ⟨w2, HW2⟩ : ∃ w2, Hid (w2 = (w1.alloc (.cells #[.slice none 0 0, .slice none 0 0] 159)).setRow w1.heap.size #[vl, vw]) := ⟨_, rfl⟩
  have HA2 : Hid (w2.heap[w1.heap.size]? = some (.cells #[vl, vw] 159 (0, 0))) := by rw [HW2.out]; exact setRow_heap _ _ _ _ _ _ HA.out
  have hb12 : Below w1.heap.size w1 w2 := by rw [HW2.out]; exact below_setRow ((Below.refl _ _).alloc (Nat.le_refl _) _) (Nat.le_refl _)
  have HB12 := hide hb12
  have HB2 : Hid (Below w.heap.size w w2) := HB1.out.trans (hb12.mono HB1.out.size)
  have hsz2 : w2.heap.size = w1.heap.size + 1 := by rw [HW2.out]; simp
  have HSZ2 := hide hsz2
  clear hb12 hsz2
  by_cases h0 : bkE l = 0
  case neg =>
    have h0' : (bkE l == 0) = false := by simpa using h0
    have HE : Hid (dcE l = bkE l) := if_pos h0
    have HNE : Hid (dcE l ≠ 0) := by show _ ≠ _; rw [HE.out]; exact h0
    obtain ⟨q, HQ⟩ : ∃ q, Hid (q = bkE l) := ⟨_, rfl⟩
    rw [← HQ.out] at h0 h0' HE ⊢
    go_wp2_with ((with_reducible refine wpList_storeB w1.heap.size vl vw _ _ ?hx ?hy HA.out ?h1 ?h2 ?_); (case hx => rfl); (case hy => rfl); (case h1 => exact o1.out.1); (case h2 => exact o1.out.2))
    rw [← HW2.out]
    go_ret2
    exact ⟨HB2.out, .inl ⟨HNE.out, by rw [HE.out]; rfl⟩⟩
  rw [h0]
  obtain ⟨hl, s2, s3⟩ := bkE_zero h0
  have HL := hide hl
  have HBO := hide (show OI w1 w.heap.size vl l ∧ OI w1 w.heap.size vw (wds l) from by
    rcases HBK.out with ⟨hne, _⟩ | ⟨_, h1, h2⟩
    · exact absurd h0 hne
    · exact ⟨h1, h2⟩)
  have H0 := hide h0
  clear hl s2 s3 h0 HBK
  have HSL : Hid (SI w2 vl l) := (HBO.out.1.below HB12.out (Nat.le_refl _)).sb
  have k0 : w2.cell? ⟨w1.heap.size, 0, none⟩ = some vl := by rw [cell_of_row _ _ _ _ _ _ HA2.out]; rfl
  have HK0 := hide k0
  clear k0
  obtain ⟨al, cl, hvl⟩ := HBO.out.1.shape
  obtain ⟨aw, cw, hvw⟩ := HBO.out.2.shape
  rw [wds_len] at hvw
  subst hvl hvw
  have kz : ((w1.alloc (.cells #[.slice none 0 0, .slice none 0 0] 159)).setRow w1.heap.size #[.slice al l.length cl, .slice aw l.length cw]).cell? ⟨w1.heap.size, 0, none⟩ = some (.slice al l.length cl) := by rw [← HW2.out]; exact HK0.out
  go_wp2_with ((with_reducible refine wpList_storeB w1.heap.size (.slice al l.length cl) (.slice aw l.length cw) _ _ ?hx ?hy HA.out ?h1 ?h2 ?_); (case hx => rfl); (case hy => rfl); (case h1 => rfl); (case h2 => rfl))
  rw [← HW2.out]
  clear kz
  refine (count_any _ l _ HSL.out HL.out).mono ?_
  rintro e w3 ⟨rfl, hb3⟩
  have HA3 : Hid (w3.heap[w1.heap.size]? = some (.cells #[.slice al l.length cl, .slice aw l.length cw] 159 (0, 0))) := (hb3.block _ (by rw [HSZ2.out]; omega)).trans HA2.out
  have HB13 : Hid (Below w1.heap.size w1 w3) := HB12.out.trans (hb3.mono (by rw [HSZ2.out]; omega))
  have hw3 : w1.heap.size < w3.heap.size := by have := hb3.size; rw [HSZ2.out] at this; omega
  clear hb3
  have HZ : Hid ((w3.alloc (.cells #[.int .i64 0, .int .i64 0, .int .i64 0, .int .i64 0, .int .i64 0, .int .i64 0, .int .i64 0, .int .i64 0, .int .i64 0, .int .i64 0, .int .i64 0, .int .i64 0, .int .i64 0, .int .i64 0, .int .i64 0, .int .i64 0] 161)).heap[w3.heap.size]? = some (.cells (av fun _ => 0) 161 (0, 0))) := by rw [av_zero]; exact heap_alloc_new w3 _
  obtain ⟨w4, HW4⟩ : ∃ w4, Hid (w4 = (w3.alloc (.cells #[.int .i64 0, .int .i64 0, .int .i64 0, .int .i64 0, .int .i64 0, .int .i64 0, .int .i64 0, .int .i64 0, .int .i64 0, .int .i64 0, .int .i64 0, .int .i64 0, .int .i64 0, .int .i64 0, .int .i64 0, .int .i64 0] 161)).setRow w3.heap.size (av fun n => (cn l n : Int))) := ⟨_, rfl⟩
  have HC4 : Hid (w4.heap[w3.heap.size]? = some (.cells (av fun n => (cn l n : Int)) 161 (0, 0))) := by rw [HW4.out]; exact setRow_heap _ _ _ _ _ _ HZ.out
  have hb34 : Below w3.heap.size w3 w4 := by rw [HW4.out]; exact below_setRow ((Below.refl _ _).alloc (Nat.le_refl _) _) (Nat.le_refl _)
  have HSZ4 : Hid (w4.heap.size = w3.heap.size + 1) := by show _ = _; rw [HW4.out]; simp
  have HB34 := hide hb34
  clear hb34
  have HCR : Hid (((w3.alloc (.cells #[.int .i64 0, .int .i64 0, .int .i64 0, .int .i64 0, .int .i64 0, .int .i64 0, .int .i64 0, .int .i64 0, .int .i64 0, .int .i64 0, .int .i64 0, .int .i64 0, .int .i64 0, .int .i64 0, .int .i64 0, .int .i64 0] 161)).setRow w3.heap.size (av fun n => (cn l n : Int))).heap[w3.heap.size]? = some (.cells (av fun n => (cn l n : Int)) 161 (0, 0))) := by rw [← HW4.out]; exact HC4.out
  go_wp2_with (first | ((with_reducible refine wpList_storeP w3.heap.size (fun n => (cn l n : Int)) _ ?hx ?hy HZ.out ?_); (case hx => rfl); (case hy => rfl)) | ((with_reducible refine wpList_loadP w3.heap.size _ ?hx HCR.out ?_); (case hx => rfl)))
  rw [← HW4.out]
  clear HCR
  refine (shape_any l _ HL.out).mono ?_
  rintro e w5 ⟨rfl, hb5⟩
  have HB35 : Hid (Below w3.heap.size w3 w5) := HB34.out.trans (hb5.mono (by rw [HSZ4.out]; omega))
  have HC5 : Hid (w5.heap[w3.heap.size]? = some (.cells (av fun n => (cn l n : Int)) 161 (0, 0))) := (hb5.block _ (by rw [HSZ4.out]; omega)).trans HC4.out
  have hw5 : w3.heap.size < w5.heap.size := by have := hb5.size; rw [HSZ4.out] at this; omega
  clear hb5
  have HB15 : Hid (Below w1.heap.size w1 w5) := HB13.out.trans (HB35.out.mono (by omega))
  have HB5 : Hid (Below w.heap.size w w5) := HB1.out.trans (HB15.out.mono HB1.out.size)
  have HA5 : Hid (w5.heap[w1.heap.size]? = some (.cells #[.slice al l.length cl, .slice aw l.length cw] 159 (0, 0))) := (HB35.out.block _ hw3).trans HA3.out
  have HO5 : Hid (OI w5 w.heap.size (.slice al l.length cl) l ∧ OI w5 w.heap.size (.slice aw l.length cw) (wds l)) := ⟨HBO.out.1.below HB15.out (Nat.le_refl _), HBO.out.2.below HB15.out (Nat.le_refl _)⟩
  by_cases hs : shp l = 0
  · have HE : Hid (dcE l = 53) := by show _ = _; unfold dcE; rw [if_neg (by have := H0.out; simp [this]), if_pos hs]
    rw [hs]
    go_wp2
    go_ret2
    exact ⟨HB5.out, .inl ⟨by rw [HE.out]; decide, by rw [HE.out]; rfl⟩⟩
  have HE : Hid (dcE l = 0) := by show _ = _; unfold dcE; rw [if_neg (by have := H0.out; simp [this]), if_neg hs]
  obtain ⟨r, HR⟩ : ∃ r, Hid (r = shp l) := ⟨_, rfl⟩
  rw [← HR.out] at hs ⊢
  have hs' : (r == 0) = false := by simpa using hs
  go_wp2_with ((with_reducible refine wpList_loadB w1.heap.size _ _ ?hx HA5.out ?_); (case hx => rfl))
  rw [← dv_new]
  obtain ⟨V, HV⟩ : ∃ V, Hid (V = w5.alloc (.cells (dv (.slice al l.length cl) (.slice aw l.length cw) (.slice none 0 0) (fun _ => 0) (fun _ => 0)) 163)) := ⟨_, rfl⟩
  rw [← HV.out]
  obtain ⟨gD, hgD⟩ : ∃ gD, gD = w5.heap.size := ⟨_, rfl⟩
  rw [← hgD]
  have HDV : Hid (V.heap[gD]? = some (.cells (dv (.slice al l.length cl) (.slice aw l.length cw) (.slice none 0 0) (fun _ => 0) (fun _ => 0)) 163 (0, 0))) := by rw [HV.out, hgD]; exact heap_alloc_new w5 _
  have hbV : Below w5.heap.size w5 V := by rw [HV.out]; exact (Below.refl _ _).alloc (Nat.le_refl _) _
  have HSV : Hid (V.heap.size = gD + 1) := by show _ = _; rw [HV.out, hgD]; simp
  have HCV : Hid (V.heap[w3.heap.size]? = some (.cells (av fun n => (cn l n : Int)) 161 (0, 0))) := (hbV.block _ hw5).trans HC5.out
  have HOV : Hid (OI V w.heap.size (.slice al l.length cl) l ∧ OI V w.heap.size (.slice aw l.length cw) (wds l)) := ⟨HO5.out.1.below hbV (Nat.le_refl _), HO5.out.2.below hbV (Nat.le_refl _)⟩
  have HBV : Hid (Below w.heap.size w V) := HB5.out.trans (hbV.mono HB5.out.size)
  have hwg : w.heap.size ≤ gD := by rw [hgD]; exact HB5.out.size
  have hwc : w3.heap.size < gD := by rw [hgD]; exact hw5
  have N1 : Hid ((Value.slice al l.length cl).ownBlock ≠ some gD ∧ (Value.slice aw l.length cw).ownBlock ≠ some gD) := ⟨fun e => by have := (HO5.out.1.lt _ e).2; omega, fun e => by have := (HO5.out.2.lt _ e).2; omega⟩
  clear hbV hgD HBA HA HA2 HA3 HA5 HC4 HC5 HB12 HB13 HB34 HB35 HB15 HO5 HSL HK0 HBO HZ hw5 hw3
  obtain ⟨gC, HGC⟩ : ∃ gC, Hid (gC = w3.heap.size) := ⟨_, rfl⟩
  rw [← HGC.out] at hwc HCV ⊢
  obtain ⟨CC, HCC⟩ : ∃ CC : Nat → Int, Hid (CC = fun n => (cn l n : Int)) := ⟨_, rfl⟩
  obtain ⟨FF, HFF⟩ : ∃ FF : Nat → Int, Hid (FF = fun n => (fi l n : Int)) := ⟨_, rfl⟩
  rw [← HCC.out] at HCV ⊢
  have HROW : Hid (∀ W, Below V.heap.size V W → W.heap[gC]? = some (.cells (av CC) 161 (0, 0))) := fun W hW => (hW.block _ (by rw [HSV.out]; omega)).trans HCV.out
  have HF0 : Hid (Below V.heap.size V V.drew) := (Below.refl _ _).drew
  have HCE : Hid (∀ W, Below V.heap.size V W → W.cell? ⟨gC, 0, none⟩ = some (.int .i64 (CC 0)) ∧ W.cell? ⟨gC, 1, none⟩ = some (.int .i64 (CC 1)) ∧ W.cell? ⟨gC, 2, none⟩ = some (.int .i64 (CC 2)) ∧ W.cell? ⟨gC, 3, none⟩ = some (.int .i64 (CC 3)) ∧ W.cell? ⟨gC, 4, none⟩ = some (.int .i64 (CC 4)) ∧ W.cell? ⟨gC, 5, none⟩ = some (.int .i64 (CC 5)) ∧ W.cell? ⟨gC, 6, none⟩ = some (.int .i64 (CC 6)) ∧ W.cell? ⟨gC, 7, none⟩ = some (.int .i64 (CC 7)) ∧ W.cell? ⟨gC, 8, none⟩ = some (.int .i64 (CC 8)) ∧ W.cell? ⟨gC, 9, none⟩ = some (.int .i64 (CC 9)) ∧ W.cell? ⟨gC, 10, none⟩ = some (.int .i64 (CC 10)) ∧ W.cell? ⟨gC, 11, none⟩ = some (.int .i64 (CC 11)) ∧ W.cell? ⟨gC, 12, none⟩ = some (.int .i64 (CC 12)) ∧ W.cell? ⟨gC, 13, none⟩ = some (.int .i64 (CC 13)) ∧ W.cell? ⟨gC, 14, none⟩ = some (.int .i64 (CC 14)) ∧ W.cell? ⟨gC, 15, none⟩ = some (.int .i64 (CC 15))) := fun W hW => by
    have h := HROW.out W hW
    have hc : ∀ n, n < 16 → W.cell? ⟨gC, n, none⟩ = some (.int .i64 (CC n)) := fun n hn => by rw [cell_of_row _ _ _ _ _ _ h, av_get _ hn]
    exact ⟨hc 0 (by omega), hc 1 (by omega), hc 2 (by omega), hc 3 (by omega), hc 4 (by omega), hc 5 (by omega), hc 6 (by omega), hc 7 (by omega), hc 8 (by omega), hc 9 (by omega), hc 10 (by omega), hc 11 (by omega), hc 12 (by omega), hc 13 (by omega), hc 14 (by omega), hc 15 (by omega)⟩
  have HLIT : Hid ((#[.int .i64 (CC 0), .int .i64 (CC 1), .int .i64 (CC 2), .int .i64 (CC 3), .int .i64 (CC 4), .int .i64 (CC 5), .int .i64 (CC 6), .int .i64 (CC 7), .int .i64 (CC 8), .int .i64 (CC 9), .int .i64 (CC 10), .int .i64 (CC 11), .int .i64 (CC 12), .int .i64 (CC 13), .int .i64 (CC 14), .int .i64 (CC 15)] : Array Value) = av CC) := rfl
  have HFI : Hid (∀ W, Calls Tryz.prog 111 #[.agg #[.int .i64 (CC 0), .int .i64 (CC 1), .int .i64 (CC 2), .int .i64 (CC 3), .int .i64 (CC 4), .int .i64 (CC 5), .int .i64 (CC 6), .int .i64 (CC 7), .int .i64 (CC 8), .int .i64 (CC 9), .int .i64 (CC 10), .int .i64 (CC 11), .int .i64 (CC 12), .int .i64 (CC 13), .int .i64 (CC 14), .int .i64 (CC 15)]] W fun e w' => ∃ u, e = .returned u ∧ (u = .agg (av FF) ∧ Below W.heap.size W w')) := fun W => by
    rw [HLIT.out, HCC.out, HFF.out]
    exact (firsts_any l W HL.out).mono fun e w' h => ⟨_, h.1, rfl, h.2⟩
  have HAR : Hid (∀ W, Below V.heap.size V W → Calls Tryz.prog 110 #[.pointer (some ⟨gD, 0, none⟩), .agg #[.int .i64 (CC 0), .int .i64 (CC 1), .int .i64 (CC 2), .int .i64 (CC 3), .int .i64 (CC 4), .int .i64 (CC 5), .int .i64 (CC 6), .int .i64 (CC 7), .int .i64 (CC 8), .int .i64 (CC 9), .int .i64 (CC 10), .int .i64 (CC 11), .int .i64 (CC 12), .int .i64 (CC 13), .int .i64 (CC 14), .int .i64 (CC 15)], .agg (av FF)] W fun e w' => ∃ u, e = .returned u ∧ (u = .tuple #[] ∧ Arranged W gD (.slice al l.length cl) (.slice aw l.length cw) l w')) := fun W hW => by
    rw [HLIT.out, HCC.out, HFF.out]
    have hs := HSV.out
    refine (arrange_any gD _ _ l W ((hW.block _ (by omega)).trans HDV.out) (by have := hW.size; omega) HL.out ((HOV.out.1.base (Nat.zero_le _)).below hW (Nat.le_refl _)) ((HOV.out.2.base (Nat.zero_le _)).below hW (Nat.le_refl _)) N1.out.1 N1.out.2).mono fun e w' h => ⟨_, h.1, rfl, h.2⟩
  have HFIN : Hid (∀ W w7, Below V.heap.size V W → Arranged W gD (.slice al l.length cl) (.slice aw l.length cw) l w7 → Below w.heap.size w w7 ∧ ∃ K, Dp w7 K gD l ∧ ∀ k, K k ≠ 0 → w.heap.size ≤ k) := fun W w7 hW h => by
    obtain ⟨vs, sy, a1, a2, a3, a4⟩ := h
    have hs := HSV.out
    have hBW : Below w.heap.size w W := HBV.out.trans (hW.mono (by omega))
    have o1 := (HOV.out.1.below hW (Nat.le_refl _))
    have o2 := (HOV.out.2.below hW (Nat.le_refl _))
    have p1 : OI w7 w.heap.size (.slice al l.length cl) l := o1.move fun k hk => a4.block k (o1.lt k hk).2 (fun e => N1.out.1 (by rw [hk, e]))
    have p2 : OI w7 w.heap.size (.slice aw l.length cw) (wds l) := o2.move fun k hk => a4.block k (o2.lt k hk).2 (fun e => N1.out.2 (by rw [hk, e]))
    have p3 : OI w7 w.heap.size vs sy := a2.base hBW.size
    have hg7 : gD < w7.heap.size := by have := a4.size; have := hW.size; omega
    refine ⟨⟨a4.os.trans hBW.os, a4.tape.trans hBW.tape, a4.output.trans hBW.output, Nat.le_trans hBW.size a4.size, fun k hk => (a4.block k (by have := hBW.size; omega) (by simp; omega)).trans (hBW.block k hk)⟩, fun k => if k = gD ∨ (Value.slice al l.length cl).ownBlock = some k ∨ (Value.slice aw l.length cw).ownBlock = some k ∨ vs.ownBlock = some k then 1 else 0, ⟨⟨_, _, vs, sy, a1, p1.base (Nat.zero_le _), p2.base (Nat.zero_le _), p3.base (Nat.zero_le _), a3, fun k hk => by simp [hk], fun k hk => by simp [hk], fun k hk => by simp [hk]⟩, by simp, fun k hk => ?_, HE.out⟩, fun k hk => ?_⟩
    · by_cases c : k = gD ∨ (Value.slice al l.length cl).ownBlock = some k ∨ (Value.slice aw l.length cw).ownBlock = some k ∨ vs.ownBlock = some k
      · rcases c with rfl | c | c | c
        · exact hg7
        · exact (p1.lt k c).2
        · exact (p2.lt k c).2
        · exact (p3.lt k c).2
      · simp [c] at hk
    · by_cases c : k = gD ∨ (Value.slice al l.length cl).ownBlock = some k ∨ (Value.slice aw l.length cw).ownBlock = some k ∨ vs.ownBlock = some k
      · rcases c with rfl | c | c | c
        · exact hwg
        · exact (p1.lt k c).1
        · exact (p2.lt k c).1
        · exact (p3.lt k c).1
      · simp [c] at hk
  clear HDV HCV HOV HBV N1 HSV
  obtain ⟨z0, z1, z2, z3, z4, z5, z6, z7, z8, z9, z10, z11, z12, z13, z14, z15⟩ := HCE.out V (Below.refl _ _)
  go_region_law (first
    | (refine step_call1 (by rfl) (.tmp 27) 161 111 (by rfl) Tryz.call111 (.agg #[.int .i64 (CC 0), .int .i64 (CC 1), .int .i64 (CC 2), .int .i64 (CC 3), .int .i64 (CC 4), .int .i64 (CC 5), .int .i64 (CC 6), .int .i64 (CC 7), .int .i64 (CC 8), .int .i64 (CC 9), .int .i64 (CC 10), .int .i64 (CC 11), .int .i64 (CC 12), .int .i64 (CC 13), .int .i64 (CC 14), .int .i64 (CC 15)]) (by simp [Act.eval, Act.put]) (HFI.out _) ?_; rintro v6 w6 ⟨rfl, hb6⟩; have HF6 : Hid (Below V.heap.size V w6) := HF0.out.trans hb6; obtain ⟨y0, y1, y2, y3, y4, y5, y6, y7, y8, y9, y10, y11, y12, y13, y14, y15⟩ := HCE.out w6 HF6.out; clear hb6)
    | (refine step_call3 (by rfl) (.tmp 25) (.tmp 26) (.tmp 28) 53 161 161 110 (by rfl) Tryz.call110 (.pointer (some ⟨gD, 0, none⟩)) (.agg #[.int .i64 (CC 0), .int .i64 (CC 1), .int .i64 (CC 2), .int .i64 (CC 3), .int .i64 (CC 4), .int .i64 (CC 5), .int .i64 (CC 6), .int .i64 (CC 7), .int .i64 (CC 8), .int .i64 (CC 9), .int .i64 (CC 10), .int .i64 (CC 11), .int .i64 (CC 12), .int .i64 (CC 13), .int .i64 (CC 14), .int .i64 (CC 15)]) (.agg (av FF)) (by simp [Act.eval, Act.put]) (by simp [Act.eval, Act.put]) (by simp [Act.eval, Act.put]) (HAR.out _ HF6.out) ?_; rintro v7 w7 ⟨rfl, har⟩; have HX := hide (HFIN.out _ _ HF6.out har); clear har))
  all_goals
    clear HROW HF0 HFI HAR HFIN HF6 HCE
    clear z0 z1 z2 z3 z4 z5 z6 z7 z8 z9 z10 z11 z12 z13 z14 z15
    clear y0 y1 y2 y3 y4 y5 y6 y7 y8 y9 y10 y11 y12 y13 y14 y15
    go_wp2
    go_ret2
    obtain ⟨x1, K, x2, x3⟩ := HX.out
    exact ⟨x1, .inr ⟨HE.out, gD, K, rfl, x2, x3⟩⟩
end Go.Proofs.YtmjdpfigkojolaaGreatDoor

