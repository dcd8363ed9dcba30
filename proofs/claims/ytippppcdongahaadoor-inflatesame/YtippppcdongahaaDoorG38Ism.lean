import Derived.Test.YtippppcdongahaaDoorG31Smj
import Derived.Test.YtippppcdongahaaDoorG34Smn
import Derived.Test.YtippppcdongahaaDoorG36Ilt
import Derived.Test.YtippppcdongahaaDoorG37Inq
import Derived.Test.YtippppcdongahaaDoorG32Wkp
import Derived.BigQuiet
import Derived.Deep.DeepCutAuto
import Derived.Deep.RegionWith
namespace Go.Proofs.YtippppcdongahaaDoor
open Go.RowKit Go.Maps Go.Shelf
attribute [local go_sem] Oper.semAt_some
set_option maxRecDepth 20000
set_option linter.unusedVariables false
set_option linter.unusedSimpArgs false

theorem seq2_under : Tryd.prog.underlying 32 = some (.func #[54] #[] false) := by kernel_rfl

theorem one_end {W wx : World} {g d0 : Nat} (hr : wx.heap[g]? = some (.cells #[.bool false] 4 (0, 0))) (h0 : wx.heap[d0]? = some (.deferred (some []))) (hne : d0 ≠ g) (hb : Below W.heap.size W wx) (hg : W.heap.size ≤ g) (hd : W.heap.size ≤ d0) :
    (wx.setCell ⟨g, 0, none⟩ (.bool true)).heap[d0]? = some (.deferred (some [])) ∧ ((wx.setCell ⟨g, 0, none⟩ (.bool true)).putObj d0 (.deferred none)).cell? ⟨g, 0, none⟩ = some (.bool true) ∧ Below W.heap.size W ((wx.setCell ⟨g, 0, none⟩ (.bool true)).putObj d0 (.deferred none)) := by
  have hw := wrt_set hr (.bool true)
  refine ⟨(hw.ne _ hne).trans h0, ?_, ?_⟩
  · exact (one_cell ((putObj_at8 _ _ (fun e => hne e.symm)).trans hw.at)).1
  · have b1 := hb.setCell (p := ⟨g, 0, none⟩) hg (.bool true)
    exact ⟨b1.os, b1.tape, b1.output, by rw [putObj_size8]; exact b1.size, fun b q => (putObj_at8 _ _ (by omega)).trans (b1.block b q)⟩

set_option maxHeartbeats 8000000 in
theorem inflateSame_walk (v : Value) (l : List Int) (limit : Int) (W : World) (h : SB W v l) (hB : Byt l) (hr : l.length ≤ 140737488351232) (T : Tab W) (O : Odr W) :
    Calls Tryd.prog 3 #[v, .int .i64 limit] W fun e w' => e = .returned (.bool true) ∧ Below W.heap.size W w' := by
  have hyl : ∀ (fn : Fn) (a b : Array Value) (w : World), (binOp .eql 32 (.func fn a b) .nilFunc).run Tryd.prog w = .ok (.bool false) w := fun fn a b w => eqlB_func w _ seq2_under fn a b
  obtain ⟨wb, hwb⟩ : ∃ wb, W.alloc (.cells #[.bool false] 4) = wb := ⟨_, rfl⟩
  have HW : Hid (Below W.heap.size W wb) := by rw [← hwb]; exact (Below.refl _ _).alloc (Nat.le_refl _) _
  have HR0 : Hid (wb.heap[W.heap.size]? = some (.cells #[.bool false] 4 (0, 0)) ∧ wb.heap.size = W.heap.size + 1) := by rw [← hwb]; exact ⟨heap_alloc_new _ _, by simp⟩
  have HTO : Hid (∀ wx, Below wb.heap.size wb wx → Tab wx ∧ Odr wx) := fun wx hb => ⟨T.mono (HW.out.trans (hb.mono HW.out.size)), O.mono (HW.out.trans (hb.mono HW.out.size))⟩
  have HTW := hide (And.intro T O)
  have HSB : Hid (∀ wx, Below wb.heap.size wb wx → SB wx v l) := fun wx hb => h.below (HW.out.trans (hb.mono HW.out.size))
  have HBY := hide hB
  have HCP : Hid (∀ wx, Below wb.heap.size wb wx → Calls Tryd.prog 6 #[v] wx fun e w' => ∃ a c, e = .returned (.slice a l.length c) ∧ SB w' (.slice a l.length c) l ∧ Below wb.heap.size wb w' ∧ Below wx.heap.size wx w') := fun wx hb => by
    refine (hcopinf h HBY.out hr (HW.out.trans (hb.mono HW.out.size))).mono ?_
    rintro e w' ⟨a, c, rfl, ho, hb2⟩
    exact ⟨a, c, rfl, ho, hb.trans (hb2.mono hb.size), hb2⟩
  have HLT := hide (letter_any wb (HTO.out wb (Below.refl _ _)).1 (HTO.out wb (Below.refl _ _)).2)
  obtain ⟨a0, c0, rfl, -⟩ := h
  clear hB hr T O
  refine (callsIn_wide (n := 3)).1 ?_
  refine callsIn_of_wp_marks Tryd.func3 rfl trivial ?_ rfl
  refine wpIn_noPan ?_
  refine wpIn_wide.2 ?_
  simp only [Tryd.ntmps3, List.size_toArray, List.length_cons, List.length_nil, Nat.reduceAdd, Nat.reduceSub, Array.replicate_succ, Array.replicate_zero, List.push_toArray, List.append_toArray, List.nil_append, List.cons_append]
  go_wp2_with fail
  refine HLT.out.mono ?_
  rintro e w1 ⟨rfl, hb1⟩
  have HB1 := hide hb1
  clear hb1 HLT hwb
  go_wp2_with fail
  refine (HCP.out w1 HB1.out).mono ?_
  rintro e w2 ⟨a2, c2, rfl, ho2, hb2, -⟩
  have HIN := hide (hInf ho2 HBY.out limit (HTO.out w2 hb2).1 (HTO.out w2 hb2).2)
  have HB2 := hide hb2
  clear ho2 hb2
  go_wp2_with fail
  refine HIN.out.mono ?_
  rintro e w3 ⟨E, n, o, a3, c3, hI, rfl, ho3, hb3⟩
  have HB3 := hide (HB2.out.trans (hb3.mono HB2.out.size))
  have HI := hide hI
  have HO3 := hide ho3
  clear hb3 hI ho3 HIN
  go_wp2_with fail
  refine (HCP.out w3 HB3.out).mono ?_
  rintro e w4 ⟨a4, c4, rfl, ho4, hb4, hv4⟩
  have HV4 := hide hv4
  clear hv4
  have HWK := hide (hWalk ho4 HBY.out limit (HTO.out w4 hb4).1 (HTO.out w4 hb4).2)
  have HB4 := hide hb4
  clear ho4 hb4
  go_wp2_with fail
  refine HWK.out.mono ?_
  rintro e w5 ⟨E', R, a5, c5, hW5, rfl, ho5, hb5, hl5⟩
  obtain ⟨rfl, ps, oo, b, z, hF⟩ := same_facts HBY.out HI.out hW5
  have HF := hide hF
  have HB5 := hide (HB4.out.trans (hb5.mono HB4.out.size))
  have HV5 := hide hb5
  have HO5 := hide ho5
  have HL5 := hide hl5
  clear hb5 hW5 ho5 hl5 hF HWK
  go_wp2_with fail
  refine (HCP.out w5 HB5.out).mono ?_
  rintro e w6 ⟨a6, c6, rfl, ho6, hb6, hv6⟩
  have HV6 := hide hv6
  clear hv6
  have HBL := hide (hBlocks ho6 limit)
  have HB6 := hide hb6
  clear ho6 hb6
  go_wp2_with fail
  refine HBL.out.mono ?_
  rintro e w7 ⟨hb7, hcs⟩
  have HB7 := hide (HB6.out.trans (hb7.mono HB6.out.size))
  have HV57 : Hid (Below w5.heap.size w5 w7) := HV6.out.trans (hb7.mono HV6.out.size)
  have HV37 : Hid (Below w3.heap.size w3 w7) := (HV4.out.trans (HV5.out.mono HV4.out.size)).trans (HV57.out.mono (Nat.le_trans HV4.out.size HV5.out.size))
  obtain ⟨f7, cs7, u7, he7, HIT⟩ : ∃ f7 cs7 u, e = .returned (.func f7 #[] cs7) ∧ Hid ((Value.func f7 #[] cs7 = .func (.func 21) #[] #[] ∧ ps = []) ∨ (Value.func f7 #[] cs7 = .func (.func 23) #[] #[.pointer (some ⟨w6.heap.size, 0, none⟩), .pointer (some ⟨w6.heap.size + 1, 0, none⟩)] ∧ (l.length ≤ 33554432 ∧ 0 ≤ limit ∧ limit ≤ 16777216) ∧ (∃ E q0, Txt (unpack l) limit.toNat 0 [] ps E q0 oo) ∧ w7.heap[w6.heap.size]? = some (.cells #[u] 22 (0, 0)) ∧ w7.heap[w6.heap.size + 1]? = some (.cells #[.int .i64 limit] 3 (0, 0)) ∧ OB w7 (w6.heap.size + 2) u l)) := by
    rcases hcs with ⟨hd, rfl⟩ | ⟨hd, u, rfl, q1, q2, q3⟩
    · refine ⟨_, _, .nilFunc, rfl, .inl ⟨rfl, ?_⟩⟩
      rcases HF.out.kind with ⟨_, q⟩ | ⟨q, _⟩
      · exact q
      · exact absurd q hd
    · refine ⟨_, _, u, rfl, .inr ⟨rfl, hd, ?_, q1, q2, q3⟩⟩
      rcases HF.out.kind with ⟨q, _⟩ | ⟨_, q⟩
      · exact absurd hd q
      · exact q
  subst he7
  clear hb7 hcs HBL
  have HN : Hid (∀ w, Calls Tryd.prog 9 #[.int .i64 E'] w fun x w' => x = .returned (.int .i64 E') ∧ w' = w) := fun w => num8_any E' w
  obtain ⟨wL, hwL⟩ : ∃ wL, (w7.alloc (.cells #[.slice none 0 0] 28)).alloc (.cells #[.slice none 0 0] 22) = wL := ⟨_, rfl⟩
  have hA : wL.heap[w7.heap.size]? = some (.cells #[.slice none 0 0] 28 (0, 0)) := by rw [← hwL]; exact (Below.heap_alloc _ _ _ (by simp)).trans (heap_alloc_new w7 _)
  have hT : wL.heap[w7.heap.size + 1]? = some (.cells #[.slice none 0 0] 22 (0, 0)) := by rw [← hwL]; exact heap_alloc2_new w7 _ _
  have hzL : wL.heap.size = w7.heap.size + 2 := by rw [← hwL]; simp
  have HBL : Hid (Below w7.heap.size w7 wL) := by
    rw [← hwL]
    have b1 := (Below.refl w7.heap.size w7).alloc (Nat.le_refl _) (.cells #[.slice none 0 0] 28)
    exact b1.alloc b1.size _
  have HA := hide hA
  have HT := hide hT
  have HZL := hide hzL
  clear hA hT hzL
  go_wp2_with (go_at_call 9; refine (HN.out _).mono ?_; rintro e w8 ⟨rfl, hw8⟩; rw [hw8]; clear hw8)
  have hzL := HZL.out
  have hW7 : wb.heap.size ≤ w7.heap.size := HB7.out.size
  have hz67 : ∀ b, b < w7.heap.size → ∀ S k o W, SmJ ps oo wL wL.heap.size w7.heap.size (w7.heap.size + 1) k S o W → W.heap[b]? = w7.heap[b]? := fun b hb S k o W hj => (hj.blk b (by omega) (by omega) (by omega)).trans (HBL.out.block b hb)
  have hWW : ∀ S k o W, SmJ ps oo wL wL.heap.size w7.heap.size (w7.heap.size + 1) k S o W → Below wb.heap.size wb W := fun S k o W hj => ⟨hj.os.trans (HBL.out.os.trans HB7.out.os), hj.tape.trans (HBL.out.tape.trans HB7.out.tape), hj.output.trans (HBL.out.output.trans HB7.out.output), by have := hj.size; omega, fun b hb => (hz67 b (by omega) S k o W hj).trans (HB7.out.block b hb)⟩
  have HZ67 := hide hz67
  have HWW := hide hWW
  refine wp_blocks_any w6.heap.size (w6.heap.size + 1) (data := l) (limit := limit) (ps := ps) (o0 := oo) (v := u7) (SmJ ps oo wL wL.heap.size w7.heap.size (w7.heap.size + 1)) (fun _ _ _ => False) ?hit rfl HBY.out (SmJ.recs (by omega) (by omega)) (fun k S o W h e => by have := h.sge _ e; omega) (fun c => ⟨fun o V h => h.elim, fun o o' V h => h.elim⟩)
    (SmJ.bears (by omega) (by omega)) (fun o k S W B hj h1 h2 => ?tab) (fun k S o W hj => hj.size) (SmJ.start HA.out HT.out) ?act ?assign ?body ?done ?stop
  case hit =>
    rcases HIT.out with ⟨q1, q2⟩ | ⟨q1, q2, q3, q4, q5, q6⟩
    · exact .inl ⟨q1, q2⟩
    · refine .inr ⟨q1, q2, q3, fun o W hj => ?_⟩
      have l5 := (Array.getElem?_eq_some_iff.1 q5).1
      have l4 := (Array.getElem?_eq_some_iff.1 q4).1
      exact ⟨(q6.move fun b hb => hz67 b (q6.lt b hb).2 _ _ _ _ hj).sb, (one_cell ((hz67 _ l4 _ _ _ _ hj).trans q4)).1, (one_cell ((hz67 _ l5 _ _ _ _ hj).trans q5)).1⟩
  case tab =>
    have := below_wtake (hWW _ _ _ _ hj) (by omega) h2
    exact HTO.out _ this
  case assign =>
    intro x u V c K hc hK
    simp only [pcq] at hK ⊢
    gi_wp2
    exact hK
  case stop => exact fun c o V h => h.elim
  case done =>
    intro S ob V hj
    obtain ⟨va, vt, e1, e2, e3, e4, -, -, -⟩ := hj.var
    rw [List.take_of_length_le (Nat.le_refl _)] at e3 e4
    rw [HF.out.all] at e4
    have hVB := hWW _ _ _ _ hj
    have HVK : Hid (∀ q, q < w7.heap.size → V.heap[q]? = w7.heap[q]?) := fun q hq => hz67 q hq _ _ _ _ hj
    have HVS : Hid (w7.heap.size ≤ V.heap.size) := by show _ ≤ _; have := hj.size; omega
    have HVB := hide hVB
    have HRB : Hid (V.heap[W.heap.size]? = some (.cells #[.bool false] 4 (0, 0))) := (hVB.block _ (by have := HR0.out.2; omega)).trans HR0.out.1
    have HDF : Hid (V.heap[w7.heap.size + 2]? = some (.deferred (some []))) := by rw [← hzL]; exact hj.dfr
    have hpl : ps.length ≤ 268435456 := by have := HF.out.chn.count; have := HF.out.lb; omega
    obtain ⟨aa, ca, rfl, -, -⟩ := e3.shape
    rw [List.length_map] at e1 e3
    obtain ⟨at', ct, rfl⟩ := e4.shape
    have HJN : Hid (∀ (wx : World) (bits bytes : Int), Below V.heap.size V wx → (E' = 0 → bits = (b : Int) ∧ bytes = (z : Int)) → Calls Tryd.prog 10 #[.slice aa ps.length ca, .int .i64 bits, .int .i64 bytes, .bool (E' == 0)] wx fun e w' => e = .returned (.bool true) ∧ Below wx.heap.size wx w') := fun wx bits bytes hb he =>
      joined_any aa ca ps b z (E' == 0) wx _ (e3.below hb (Nat.le_refl _)) hpl HF.out.chn HF.out.lb HF.out.lz bits bytes (fun h => he (by simpa using h))
    have HE3 := hide e3
    have HE4 := hide e4
    have HC1 : Hid (∀ wx, Below V.heap.size V wx → wx.cell? ⟨w7.heap.size, 0, none⟩ = some (.slice aa ps.length ca) ∧ wx.cell? ⟨w7.heap.size + 1, 0, none⟩ = some (.slice at' oo.length ct) ∧ wx.frozen? ⟨W.heap.size, 0, none⟩ = false ∧ ∃ z, wx.cell? ⟨W.heap.size, 0, none⟩ = some z) := fun wx hb =>
      ⟨(one_cell ((hb.block _ (Array.getElem?_eq_some_iff.1 e1).1).trans e1)).1, (one_cell ((hb.block _ (Array.getElem?_eq_some_iff.1 e2).1).trans e2)).1, (one_cell ((hb.block _ (Array.getElem?_eq_some_iff.1 HRB.out).1).trans HRB.out)).2, _, (one_cell ((hb.block _ (Array.getElem?_eq_some_iff.1 HRB.out).1).trans HRB.out)).1⟩
    have HEN : Hid (∀ wx, Below V.heap.size V wx → (wx.setCell ⟨W.heap.size, 0, none⟩ (.bool true)).heap[w7.heap.size + 2]? = some (.deferred (some [])) ∧ ((wx.setCell ⟨W.heap.size, 0, none⟩ (.bool true)).putObj (w7.heap.size + 2) (.deferred none)).cell? ⟨W.heap.size, 0, none⟩ = some (.bool true) ∧ Below W.heap.size W ((wx.setCell ⟨W.heap.size, 0, none⟩ (.bool true)).putObj (w7.heap.size + 2) (.deferred none))) := fun wx hb =>
      one_end ((hb.block _ (Array.getElem?_eq_some_iff.1 HRB.out).1).trans HRB.out) ((hb.block _ (Array.getElem?_eq_some_iff.1 HDF.out).1).trans HDF.out) (by have := HR0.out.2; omega) ((HW.out.trans (hVB.mono HW.out.size)).trans (hb.mono (by have := HW.out.size; have := hVB.size; omega))) (Nat.le_refl _) (by have := HR0.out.2; omega)
    clear e1 e2 e3 e4 hVB hj
    by_cases hE : E' = 0
    case neg =>
      obtain ⟨r1, r2, r3⟩ := HF.out.bad hE
      subst r1; subst r2; subst r3
      have hne : (E' != 0) = true := by simpa using hE
      have heq : (E' == 0) = false := by simpa using hE
      rw [heq] at HJN
      obtain ⟨k1, k2, k3, z1, k4⟩ := HC1.out V (Below.refl _ _)
      have HJ0 := hide (HJN.out V 0 0 (Below.refl _ _) (fun e => absurd e hE))
      clear HJN
      go_wp2_with (go_at_call 9; refine (HN.out _).mono ?_; rintro e w9 ⟨rfl, hw9⟩; rw [hw9]; clear hw9)
      refine HJ0.out.mono ?_
      rintro e w9 ⟨rfl, hb9⟩
      have HX := hide (HEN.out w9 hb9)
      obtain ⟨k5, k6, k7, z2, k8⟩ := HC1.out w9 hb9
      clear k1 k2 k3 k4 hb9 HJ0
      go_wp2
      refine ⟨by simp, .inl ⟨_, _, rfl, run_takeDeferred HX.out.1, ?_⟩⟩
      have hcx := HX.out.2.1
      refine ⟨.bool true, ?_, rfl, HX.out.2.2⟩
      simp [results, Tryd.f3, go_sem, hcx]
    case pos =>
      subst hE
      obtain ⟨r1, r2, r3, r4, r5, r6, r7, r8⟩ := HF.out.good rfl
      subst r1
      subst r2
      have HN8 : Hid ((n : Int) ≤ 8 * (l.length : Int)) := by show _ ≤ _; omega
      have HLL : Hid ((o.length : Int) ≤ limit) := r6
      have HBZ : Hid ((n : Int) = (b : Int) ∧ ((o.length : Nat) : Int) = (z : Int)) := ⟨by rw [r3], by rw [r4]⟩
      have HIX : Hid (Ifl l (o.length : Int) 0 n o) := (HI.out.limit (by omega) (by have := HF.out.lz; omega)).2 (by omega)
      have HRN := hide r5
      have HR8 := hide r8
      clear r3 r4 r5 r6 r7 r8
      simp only [show ((0 : Int) == 0) = true from rfl] at HJN
      obtain ⟨k1, k2, k3, z1, k4⟩ := HC1.out V (Below.refl _ _)
      go_wp2_with (go_at_call 9; refine (HN.out _).mono ?_; rintro e w9 ⟨rfl, hw9⟩; rw [hw9]; clear hw9)
      refine (HCP.out V HVB.out).mono ?_
      rintro e w9 ⟨a9, c9, rfl, ho9, hb9, hv9⟩
      have HEX := hide (hExact ho9 HBY.out (o.length : Int) (HTO.out w9 hb9).1 (HTO.out w9 hb9).2)
      have HB9 := hide hb9
      have HV9 := hide hv9
      clear ho9 hb9 hv9 k1 k2 k3 k4
      go_wp2_with fail
      refine HEX.out.mono ?_
      rintro e w10 ⟨E2, x, a10, c10, hx, rfl, ho10, hb10⟩
      have HV10 : Hid (Below V.heap.size V w10) := HV9.out.trans (hb10.mono HV9.out.size)
      have HO10 := hide ho10
      clear ho10 hb10 HEX
      obtain ⟨k1, k2, k3, z1, k4⟩ := HC1.out w10 HV10.out
      have HSL : Hid (∀ wx, Below V.heap.size V wx → SB wx (.slice a3 o.length c3) o) := fun wx hb => (HO3.out.move (w' := wx) fun q hq => by
        have l3 := HO3.out.lt q hq
        have l7 := HV37.out.size
        have lV := HVS.out
        exact (hb.block q (by omega)).trans ((HVK.out q (by omega)).trans (HV37.out.block q l3.2))).sb
      have HSR : Hid (∀ wx, Below V.heap.size V wx → ORp 36 6 wx 0 (.slice a5 R.length c5) (R.map pcq)) := fun wx hb => (HO5.out.move (w' := wx) fun q hq => by
        have l5 := HO5.out.lt q hq
        have l7 := HV57.out.size
        have lV := HVS.out
        exact (hb.block q (by omega)).trans ((HVK.out q (by omega)).trans (HV57.out.block q l5.2))).base (Nat.zero_le _)
      have hcase : ((n + 7) / 8 = l.length ∧ E2 = 0 ∧ x = o) ∨ ((n + 7) / 8 ≠ l.length ∧ E2 = 86 ∧ x = []) := by
        obtain ⟨E0, n0, o0, hI0, hx⟩ := hx
        obtain ⟨rfl, rfl, rfl⟩ := hI0.det HIX.out
        rcases hx with ⟨a, _, _⟩ | ⟨_, b, _, _⟩ | ⟨_, _, c, h1, h2⟩ | ⟨_, _, c, h1, h2⟩
        · exact absurd rfl a
        · omega
        · exact .inr ⟨c, h1, h2⟩
        · exact .inl ⟨c, h1, h2⟩
      clear hx
      rcases hcase with ⟨hc1, rfl, rfl⟩ | ⟨hc1, rfl, rfl⟩
      · obtain ⟨Qd, HQD⟩ : ∃ Qd : Nat, Hid (Qd = (n + 7) / 8) := ⟨_, rfl⟩
        have hq0 : IntKind.i64.wrap ((n : Int) + 7) = (n : Int) + 7 := by rw [IntKind.wrap_i64]; have := HRN.out; have := HR8.out; omega
        have hqt : ((n : Int) + 7).tdiv 8 = (Qd : Int) := by rw [Int.tdiv_eq_ediv_of_nonneg (by omega), HQD.out]; omega
        have hq1 : ¬ ((Qd : Int) < (l.length : Int)) := by rw [HQD.out]; omega
        have hq2 : Qd ≤ 33554432 := by rw [HQD.out]; have := HRN.out; have := HR8.out; omega
        clear hc1
        have HN0 : Hid (∀ w, Calls Tryd.prog 9 #[.int .i64 0] w fun x w' => x = .returned (.int .i64 0) ∧ w' = w) := fun w => num8_any 0 w
        go_wp2_with (go_at_call 9; refine (HN0.out _).mono ?_; rintro e w11 ⟨rfl, hw11⟩; rw [hw11]; clear hw11)
        have HS1 := hide (same_yes HO10.out.sb (HSL.out _ HV10.out))
        refine HS1.out.mono ?_
        rintro e w11 ⟨rfl, m11, hw11⟩
        have HVZ : Hid (Below V.heap.size V w11) := by rw [hw11]; exact below_drewN HV10.out m11
        clear hw11 HS1 k1 k2 k3 k4
        obtain ⟨k1, k2, k3, z2, k4⟩ := HC1.out w11 HVZ.out
        have HSP := hide (samePieces_any _ _ R w11 _ _ (HE3.out.below HVZ.out (Nat.le_refl _)) (HSR.out _ HVZ.out) hpl)
        go_wp2_with fail
        refine HSP.out.mono ?_
        rintro e w12 ⟨rfl, m12, hw12⟩
        have HV12 : Hid (Below V.heap.size V w12) := by rw [hw12]; exact below_drewN HVZ.out m12
        obtain ⟨j1, j2, j3, z3, j4⟩ := HC1.out w12 HV12.out
        have HSM := hide (same_yes ((HE4.out.below HV12.out (Nat.le_refl _)).sb) (HSL.out _ HV12.out))
        clear hw12 HSP
        go_wp2_with fail
        refine HSM.out.mono ?_
        rintro e w13 ⟨rfl, m13, hw13⟩
        have HV13 : Hid (Below V.heap.size V w13) := by rw [hw13]; exact below_drewN HV12.out m13
        obtain ⟨i1, i2, i3, z4, i4⟩ := HC1.out w13 HV13.out
        have HJ0 := hide (HJN.out w13 (n : Int) (x.length : Int) HV13.out (fun _ => HBZ.out))
        have hn8 := HN8.out
        have hw8 : IntKind.i64.wrap (8 * (l.length : Int)) = 8 * (l.length : Int) := by rw [IntKind.wrap_i64]; have := HR8.out; omega
        have hn9 : ¬ (8 * (l.length : Int) < (n : Int)) := by omega
        have hll := HLL.out
        clear hw13 HSM j1 j2 j3 j4
        go_wp2_with fail
        refine HJ0.out.mono ?_
        rintro e w14 ⟨rfl, hb14⟩
        have HV14 : Hid (Below V.heap.size V w14) := HV13.out.trans (hb14.mono HV13.out.size)
        have HX := hide (HEN.out w14 HV14.out)
        obtain ⟨h1, h2, h3, z5, h4⟩ := HC1.out w14 HV14.out
        clear hb14 HJ0 i1 i2 i3 i4
        go_wp2
        refine ⟨by simp, .inl ⟨_, _, rfl, run_takeDeferred HX.out.1, ?_⟩⟩
        have hcx := HX.out.2.1
        refine ⟨.bool true, ?_, rfl, HX.out.2.2⟩
        simp [results, Tryd.f3, go_sem, hcx]
      · obtain ⟨Qd, HQD⟩ : ∃ Qd : Nat, Hid (Qd = (n + 7) / 8) := ⟨_, rfl⟩
        have hq0 : IntKind.i64.wrap ((n : Int) + 7) = (n : Int) + 7 := by rw [IntKind.wrap_i64]; have := HRN.out; have := HR8.out; omega
        have hqt : ((n : Int) + 7).tdiv 8 = (Qd : Int) := by rw [Int.tdiv_eq_ediv_of_nonneg (by omega), HQD.out]; omega
        have hq1 : (Qd : Int) < (l.length : Int) := by rw [HQD.out]; have := HRN.out; omega
        have hq2 : Qd ≤ 33554432 := by rw [HQD.out]; have := HRN.out; have := HR8.out; omega
        clear hc1
        have HVZ := HV10
        have HN0 : Hid (∀ w, Calls Tryd.prog 9 #[.int .i64 86] w fun x w' => x = .returned (.int .i64 86) ∧ w' = w) := fun w => num8_any 86 w
        go_wp2_with (go_at_call 9; refine (HN0.out _).mono ?_; rintro e w11 ⟨rfl, hw11⟩; rw [hw11]; clear hw11)
        have HSP := hide (samePieces_any _ _ R w10 _ _ (HE3.out.below HVZ.out (Nat.le_refl _)) (HSR.out _ HVZ.out) hpl)
        refine HSP.out.mono ?_
        rintro e w12 ⟨rfl, m12, hw12⟩
        have HV12 : Hid (Below V.heap.size V w12) := by rw [hw12]; exact below_drewN HVZ.out m12
        obtain ⟨j1, j2, j3, z3, j4⟩ := HC1.out w12 HV12.out
        have HSM := hide (same_yes ((HE4.out.below HV12.out (Nat.le_refl _)).sb) (HSL.out _ HV12.out))
        clear hw12 HSP
        go_wp2_with fail
        refine HSM.out.mono ?_
        rintro e w13 ⟨rfl, m13, hw13⟩
        have HV13 : Hid (Below V.heap.size V w13) := by rw [hw13]; exact below_drewN HV12.out m13
        obtain ⟨i1, i2, i3, z4, i4⟩ := HC1.out w13 HV13.out
        have HJ0 := hide (HJN.out w13 (n : Int) (o.length : Int) HV13.out (fun _ => HBZ.out))
        have hn8 := HN8.out
        have hw8 : IntKind.i64.wrap (8 * (l.length : Int)) = 8 * (l.length : Int) := by rw [IntKind.wrap_i64]; have := HR8.out; omega
        have hn9 : ¬ (8 * (l.length : Int) < (n : Int)) := by omega
        have hll := HLL.out
        clear hw13 HSM j1 j2 j3 j4
        go_wp2_with fail
        refine HJ0.out.mono ?_
        rintro e w14 ⟨rfl, hb14⟩
        have HV14 : Hid (Below V.heap.size V w14) := HV13.out.trans (hb14.mono HV13.out.size)
        have HX := hide (HEN.out w14 HV14.out)
        obtain ⟨h1, h2, h3, z5, h4⟩ := HC1.out w14 HV14.out
        clear hb14 HJ0 i1 i2 i3 i4
        go_wp2
        refine ⟨by simp, .inl ⟨_, _, rfl, run_takeDeferred HX.out.1, ?_⟩⟩
        have hcx := HX.out.2.1
        refine ⟨.bool true, ?_, rfl, HX.out.2.2⟩
        simp [results, Tryd.f3, go_sem, hcx]

  case body =>
    intro k x S ob V c u hk hj hS hc hcl hcS ho hu
    have hmem := List.mem_of_getElem? hk
    obtain ⟨g1, g2, g3⟩ := HF.out.seg x hmem
    obtain ⟨va, vt, e1, e2, e3, e4, e5, e6, e7⟩ := hj.var
    have HPL := hide (HF.out.part k)
    have hcnt := HF.out.chn.count
    have hlb := HF.out.lb
    have hsz := hj.size
    have HJ := hide hj
    have HK := hide hk
    have HS := hide hS
    obtain ⟨kk, ff, A0, A1, N0, N1⟩ := x
    have hcv : V.heap[c]? = some (pcO kk ff A0 A1 N0 N1) := hc
    obtain ⟨c0, c1, c2, c3, c4, c5, -⟩ := pc_cells hcv
    obtain ⟨sgm, HSG⟩ : ∃ sgm, Hid (sgm = sg oo ⟨kk, ff, A0, A1, N0, N1⟩) := ⟨_, rfl⟩
    rw [← HSG.out] at ho g1
    have HOU := hide ho
    have HUO := hide hu
    obtain ⟨ua, uc, rfl⟩ := ho.shape
    obtain ⟨D, HD⟩ : ∃ D : Nat, Hid (D = sgm.length) := ⟨_, rfl⟩
    have hlen : (N1 : Int) - (N0 : Int) = (D : Int) := by simp only at g1 g2; rw [HD.out]; omega
    have hDD : D ≤ 16777216 := by simp only at g1 g2 g3; rw [HD.out]; omega
    have hwr : IntKind.i64.wrap ((N1 : Int) - (N0 : Int)) = (D : Int) := by rw [hlen, IntKind.wrap_i64]; omega
    obtain ⟨P, HP⟩ : ∃ P, Hid (P = (ps.take k).map pcq) := ⟨_, rfl⟩
    obtain ⟨Q, HQ⟩ : ∃ Q, Hid (Q = (ps.take k).flatMap (sg oo)) := ⟨_, rfl⟩
    rw [← HP.out] at e3
    rw [← HQ.out] at e4 HPL
    have HPN : Hid (P.length ≤ 268435456) := by show _ ≤ _; rw [HP.out, List.length_map, List.length_take]; omega
    have HE3 := hide e3
    have HE4 := hide e4
    obtain ⟨aa, ca, rfl, hca1, hca2⟩ := e3.shape
    obtain ⟨at', ct, rfl⟩ := e4.shape
    have k1 := (one_cell e1).1
    have k2 := (one_cell e1).2
    have k3 := (one_cell e2).1
    have k4 := (one_cell e2).2
    have HE1 := hide e1
    have HE2 := hide e2
    have HE5 := hide (And.intro e5 (And.intro e6 e7))
    rw [← HD.out]
    clear e1 e2 e3 e4 e5 e6 e7 hj hS ho hu hc hcv g1 g2 g3 hk hmem
    gi_wp2_with (gi_at_builtin; refine wpPcIn rfl _ _ rfl (wL.heap.size + 2) (.slice aa P.length ca) P _ V.heap.size 1 rfl (HE3.out.alloc _) rfl (heap_alloc_new V _) rfl (by simp [Value.oneCell']) HPN.out (by simp; omega) ?_)
    intro v5 w5 ho5 hg5 hat5
    have ho5 : ORp 36 6 w5 (wL.heap.size + 2) v5 (P ++ [pcq ⟨kk, ff, A0, A1, N0, N1⟩]) := by rw [hzL]; exact ho5
    obtain ⟨P5, HP5⟩ : ∃ P5, Hid (P5 = P ++ [pcq ⟨kk, ff, A0, A1, N0, N1⟩]) := ⟨_, rfl⟩
    rw [← HP5.out] at ho5
    have HO5' := hide ho5
    obtain ⟨a9, c9, rfl, -, -⟩ := ho5.shape
    obtain ⟨M5, HM5⟩ : ∃ M5, Hid (M5 = P5.length) := ⟨_, rfl⟩
    rw [← HM5.out]
    have hm1 : Mvb (fun b => (Value.slice aa P.length ca).ownBlock = some b) V w5 := by
      have b1 := (Below.refl V.heap.size V).alloc (Nat.le_refl _) (.cells #[.int .i64 kk, .bool ff, .int .i64 A0, .int .i64 A1, .int .i64 N0, .int .i64 N1] 36)
      have g1 := hg5.size
      exact ⟨hg5.os.trans b1.os, hg5.tape.trans b1.tape, hg5.output.trans b1.output, Nat.le_trans b1.size g1, fun b hb hn => (hg5.block b (by have := b1.size; omega) (fun e => hn e.symm)).trans (b1.block b hb)⟩
    have hq1 : ∀ b, b < wL.heap.size + 2 → w5.heap[b]? = V.heap[b]? := fun b hb => hm1.blk b (by omega) (fun e => by have := (HE3.out.lt b e).1; omega)
    have HA5 : Hid (w5.heap[w7.heap.size]? = some (.cells #[.slice aa P.length ca] 28 (0, 0))) := (hq1 _ (by omega)).trans HE1.out
    have k5 := (one_cell HA5.out).1
    have k6 := (one_cell HA5.out).2
    obtain ⟨w6', hw6'⟩ : ∃ w6', w5.setCell ⟨w7.heap.size, 0, none⟩ (.slice a9 M5 c9) = w6' := ⟨_, rfl⟩
    have HWR : Hid (Wrt w7.heap.size (.cells #[.slice a9 M5 c9] 28 (0, 0)) w5 w6') := by rw [← hw6']; exact wrt_set HA5.out _
    have HM1 : Hid (Mvb (fun b => b = w7.heap.size ∨ (Value.slice aa P.length ca).ownBlock = some b) V w6') := (hm1.mono fun b _ e => .inr e).trans (HWR.out.mvb (.inl rfl))
    have HT6 : Hid (w6'.heap[w7.heap.size + 1]? = some (.cells #[.slice at' Q.length ct] 22 (0, 0))) := (HWR.out.ne _ (by omega)).trans ((hq1 _ (by omega)).trans HE2.out)
    have k7 := (one_cell HT6.out).1
    have k8 := (one_cell HT6.out).2
    have hun : ∀ b, b < V.heap.size → b ≠ w7.heap.size → (Value.slice aa P.length ca).ownBlock ≠ some b → w6'.heap[b]? = V.heap[b]? := fun b q1 q2 q3 => HM1.out.blk b q1 (fun e => by rcases e with e | e; exact q2 e; exact q3 e)
    have HQ6 : Hid (OB w6' (wL.heap.size + 2) (.slice at' Q.length ct) Q) := HE4.out.move fun b hb => hun b (HE4.out.lt b hb).2 (by have := (HE4.out.lt b hb).1; omega) (fun e => HE5.out.2.2 b e hb)
    have HU6 : Hid (SB w6' (.slice ua D uc) sgm) := by
      have := (HOU.out.move (w' := w6') fun b hb => hun b (HOU.out.lt b hb).2 (fun e => by have := HJ.out.sge b (HUO.out b hb); omega) (fun e => HE5.out.1 b e (HUO.out b hb))).sb
      rw [← HD.out] at this
      exact this
    have hu6 := HU6.out.src
    rw [← HD.out] at hu6
    have HUS := hide hu6
    have HLB : Hid (Q.length + sgm.length ≤ 140737488355328) := by show _ ≤ _; have := HPL.out; rw [← HD.out]; omega
    have HZ6 : Hid (wL.heap.size + 2 ≤ w6'.heap.size) := by show _ ≤ _; have := HM1.out.size; omega
    have HAT5 := hide hat5
    have HM1S := hide hm1
    clear hg5 ho5 hat5 hm1 hq1 hun hu6 k1 k2 k3 k4 c0 c1 c2 c3 c4 c5
    gi_wp2_with (gi_at_builtin; refine wpBytIn rfl _ _ rfl (wL.heap.size + 2) (.slice at' Q.length ct) (.slice ua D uc) Q sgm rfl HQ6.out rfl (by have := HUS.out; rw [HD.out] at this ⊢; exact this) HLB.out HZ6.out ?_)
    intro v9 w9 ho9 hg9
    obtain ⟨Q9, HQ9⟩ : ∃ Q9, Hid (Q9 = Q ++ sgm) := ⟨_, rfl⟩
    rw [← HQ9.out] at ho9
    have HO9 := hide ho9
    obtain ⟨a10, c10, rfl⟩ := ho9.shape
    obtain ⟨M9, HM9⟩ : ∃ M9, Hid (M9 = Q9.length) := ⟨_, rfl⟩
    rw [← HM9.out]
    have hm2 : Mvb (fun b => (Value.slice at' Q.length ct).ownBlock = some b) w6' w9 ∧ ∀ b, (Value.slice a10 Q9.length c10).ownBlock = some b → (Value.slice at' Q.length ct).ownBlock = some b ∨ w6'.heap.size ≤ b := by
      rcases hg9 with ⟨e, rfl⟩ | ⟨e, hb⟩ | ⟨e, hs, hg⟩
      · exact ⟨⟨rfl, rfl, rfl, Nat.le_refl _, fun _ _ _ => rfl⟩, fun b hb => .inl (by rw [← e]; exact hb)⟩
      · exact ⟨Mvb.of hb, fun b hb2 => .inr (by rw [e] at hb2; cases hb2; exact Nat.le_refl _)⟩
      · exact ⟨⟨hg.os, hg.tape, hg.output, by omega, fun b hb hn => hg.block b hb (fun q => hn q.symm)⟩, fun b hb => .inl (by rw [← e]; exact hb)⟩
    have HT9 : Hid (w9.heap[w7.heap.size + 1]? = some (.cells #[.slice at' Q.length ct] 22 (0, 0))) := (hm2.1.blk _ (by have := HZ6.out; omega) (fun e => by have := (HQ6.out.lt _ e).1; omega)).trans HT6.out
    have k9 := (one_cell HT9.out).1
    have k10 := (one_cell HT9.out).2
    have HW9 := hide (wrt_set HT9.out (.slice a10 M9 c10))
    have HM2 : Hid (Mvb (fun b => b = w7.heap.size + 1 ∨ (Value.slice at' Q.length ct).ownBlock = some b) w6' (w9.setCell ⟨w7.heap.size + 1, 0, none⟩ (.slice a10 M9 c10))) := (hm2.1.mono fun b _ e => .inr e).trans (HW9.out.mvb (.inl rfl))
    have HM2O := hide hm2.2
    have HNX : Hid (SmJ ps oo wL wL.heap.size w7.heap.size (w7.heap.size + 1) (k + 1) (fun b => S b ∧ (Value.slice ua D uc).ownBlock ≠ some b) ob (w9.setCell ⟨w7.heap.size + 1, 0, none⟩ (.slice a10 M9 c10)) ∧ (∀ b, S b → (Value.slice ua D uc).ownBlock ≠ some b → (w9.setCell ⟨w7.heap.size + 1, 0, none⟩ (.slice a10 M9 c10)).heap[b]? = V.heap[b]?) ∧ V.heap.size ≤ (w9.setCell ⟨w7.heap.size + 1, 0, none⟩ (.slice a10 M9 c10)).heap.size) := by
      refine HJ.out.next (x := ⟨kk, ff, A0, A1, N0, N1⟩) (va := .slice aa P.length ca) (vt := .slice at' Q.length ct) (va' := .slice a9 M5 c9) (vt' := .slice a10 M9 c10) (w6 := w6') (by omega) (by omega) (by omega) HS.out HK.out (by rw [← HP.out]; exact HE3.out) (by rw [← HQ.out]; exact HE4.out) HE5.out.1 HE5.out.2.1 HE5.out.2.2 HM1.out HWR.out.at ?_ ?_ HM2.out HW9.out.at ?_ ?_
      · rw [← HP.out, show P ++ [pcq ⟨kk, ff, A0, A1, N0, N1⟩] = P5 from HP5.out.symm, HM5.out]
        exact HO5'.out.move fun b hb => HWR.out.ne b (by have := (HO5'.out.lt b hb).1; omega)
      · intro b hb
        rw [HM5.out] at hb
        rcases HAT5.out with e | e
        · exact .inl (e ▸ hb)
        · right
          have : some b = some (V.heap.size + 1) := hb.symm.trans (by simpa using e)
          injection this with this
          omega
      · rw [← HQ.out, ← HSG.out, show Q ++ sgm = Q9 from HQ9.out.symm, hzL]
        have e9 := HO9.out.move (w' := w9.setCell ⟨w7.heap.size + 1, 0, none⟩ (.slice a10 M9 c10)) fun b hb => HW9.out.ne b (by have := (HO9.out.lt b hb).1; omega)
        rw [← HM9.out] at e9
        exact e9
      · intro b hb
        rw [HM9.out] at hb
        exact HM2O.out b hb
    clear hg9 ho9 hm2 k5 k6 k7 k8
    gi_wp2
    exact HNX.out
end Go.Proofs.YtippppcdongahaaDoor

