import Derived.Test.YtjmjjjpanioifaaGDrn
import Derived.Test.YtjmjjjpanioifaaGVce
import Derived.Test.YtjmjjjpanioifaaGVen
import Derived.Deep.WholeRow
namespace Go.Proofs.Ytjmjjjpanioifaa
open Go.RowKit Go.Maps
set_option maxRecDepth 20000
set_option linter.unusedVariables false
set_option linter.unusedSimpArgs false

set_option maxHeartbeats 8000000 in
theorem zdirectory_any (vl : Value) (cs : List Cen) (at' : Int) (cm : ByteArray) (w : World) (h : SR 16 w vl (cs.map Cen.cs)) (ok : ∀ c ∈ cs, c.Ok) (hn : cs.length ≤ 1048576) (h64 : Ok64 at') (hcm : cm.size ≤ 140737488351232) :
    Calls Try.prog 28 #[vl, .int .i64 at', .string cm] w fun e w' => ∃ a c, e = .returned (.tuple #[.slice a (drL cs at' cm).length c, .int .i64 (drE cs at' cm)]) ∧ SB w' (.slice a (drL cs at' cm).length c) (drL cs at' cm) ∧ Below w.heap.size w w' := by
  have HL := hide h
  have HOk := hide ok
  have H64 := hide h64
  have HCm := hide hcm
  obtain ⟨ca, ccap, rfl, c1, c2⟩ := h.open
  rw [List.length_map] at c1
  have elc : (cs.map Cen.cs).length = cs.length := List.length_map ..
  rw [elc] at HL ⊢
  obtain ⟨u0, u1⟩ := h64
  clear h ok elc hcm
  by_cases h0 : at' < 0
  · have HD := hide (dr_neg (cs := cs) (cm := cm) h0)
    rw [HD.out.1, HD.out.2]
    go_enter Try.func28, Try.ntmps28
    go_wp2
    go_ret2
    exact ⟨none, 0, rfl, sb_nil13 _, Below.refl _ _⟩
  have H0 : Hid (0 ≤ at') := Int.not_lt.1 h0
  have HN0 := hide (ob_nil13 w w.heap.size)
  go_enter Try.func28, Try.ntmps28
  go_wp2
  go_loopw [8, 9, 10, 11] (fun t i _ _ wr => ∃ (j : Nat) (ta : Option Addr) (tc L : Nat), t = .slice ta L tc ∧ i = .int .i64 (j : Int) ∧ j ≤ cs.length ∧ L ≤ 300000000000 ∧ Hid (L = (rowsC (cs.take j)).length ∧ OB wr w.heap.size (.slice ta L tc) (rowsC (cs.take j))) ∧ Hid (∀ c ∈ cs.take j, fitI (ceI c)) ∧ Hid (Below w.heap.size w wr)) (fun _ i _ _ _ => cs.length - (intOf i).toNat)
  case atStart => exact ⟨0, none, 0, 0, rfl, rfl, Nat.zero_le _, by omega, ⟨by simp [rowsC], by simpa [rowsC] using HN0.out⟩, fun l hl => by simp at hl, Below.refl _ _⟩
  case round =>
    obtain ⟨j, ta, tc, L, rfl, rfl, hj, hL, HR, HFt, HBr⟩ := hrel
    by_cases hlt : j < cs.length
    · have hlt' : (j : Int) < (cs.length : Int) := by omega
      obtain ⟨l, hl⟩ : ∃ l, l = cs.getD j z0C := ⟨_, rfl⟩
      have HLE := hide hl
      have HOK : Hid l.Ok := by rw [hl]; exact HOk.out _ (memC hlt)
      have HME : Hid (l ∈ cs) := by rw [hl]; exact memC hlt
      obtain ⟨A, hA⟩ : ∃ A, A = l.cs := ⟨_, rfl⟩
      have HAV : Hid (l.v = .agg A) := by show _ = _; rw [hA]; rfl
      have HSA : Hid (A.size = 16) := by rw [hA]; exact rsC _
      have HOA : Hid (A.all (·.oneCell') = true) := by rw [hA]; exact roC _
      obtain ⟨b0, o0, hla, hrg⟩ := SR.row (HL.out.low HBr.out) (i := j) (by rw [List.length_map]; exact hlt)
      rw [csC_get hlt, ← hl, ← hA] at hrg
      have HRG := hide hrg
      subst hla
      have HBs : Hid (Below wr.heap.size wr wr) := Below.refl _ _
      clear hl hA hrg
      go_wp2_with ((with_reducible refine wpList_lmC b0 (o0 + j * 16) A HSA.out ?hx HRG.out ?_); (case hx => rfl))
      rw [← HAV.out]
      refine (vputCentral_any l HOK.out wr).mono ?_
      rintro e wp ⟨xa, ya, rfl, hoa, hb⟩
      have HBp := hide (HBs.out.trans (hb.mono HBs.out.size))
      obtain ⟨R, hR⟩ : ∃ R, R = puL (ceI l) := ⟨_, rfl⟩
      obtain ⟨E, hE⟩ : ∃ E, E = puE (ceI l) := ⟨_, rfl⟩
      rw [← hR] at hoa
      rw [← hR, ← hE]
      have HOP := hide hoa
      have HPE : Hid (R = puL (ceI l) ∧ E = puE (ceI l)) := ⟨hR, hE⟩
      clear hoa hb hR hE HBs HRG
      by_cases hf : fitI (ceI l)
      case neg =>
        have e2 : E = 124 := HPE.out.2.trans (if_neg hf)
        subst e2
        have HD := hide (dr_no (Int.not_lt.2 H0.out) (cs := cs) (cm := cm) (fun hk => hf (hk.1 l HME.out)))
        have HBz := hide (HBr.out.trans (HBp.out.mono HBr.out.size))
        clear hf
        go_wp2
        go_ret2
        rw [HD.out.1, HD.out.2]
        exact ⟨none, 0, rfl, sb_nil13 _, HBz.out⟩
      have e1 : R = rowI (ceI l) := HPE.out.1.trans (if_pos hf)
      have e2 : E = 0 := HPE.out.2.trans (if_pos hf)
      subst e2
      have HF := hide hf
      have hll := ceI_len l hf
      rw [← e1] at hll
      have HE1 := hide e1
      obtain ⟨J, hJ⟩ : ∃ J, J = rowsC (cs.take j) := ⟨_, rfl⟩
      have HRJ : Hid (L = J.length ∧ OB wr w.heap.size (.slice ta L tc) J) := by rw [hJ]; exact HR.out
      have HOJ : Hid (OB wp w.heap.size (.slice ta L tc) J) := HRJ.out.2.below HBp.out (Nat.le_refl _)
      have HLn : Hid (J.length + R.length ≤ 140737488355328) := by show _ ≤ _; have := HRJ.out.1; omega
      have HBb : Hid (w.heap.size ≤ wp.heap.size) := Nat.le_trans HBr.out.size HBp.out.size
      have HLt : Hid (J ++ R = rowsC (cs.take (j + 1))) := by
        show _ = _
        rw [hJ, rowsC_take hlt, ← HLE.out, HE1.out]
      have HFn : Hid (∀ l' ∈ cs.take (j + 1), fitI (ceI l')) := by
        intro l' hl'
        rw [List.take_succ_eq_append_getElem hlt] at hl'
        rcases List.mem_append.1 hl' with h' | h'
        · exact HFt.out l' h'
        · have : l' = l := by
            rw [HLE.out]
            simp [List.getD, hlt] at h' ⊢
            exact h'
          rw [this]
          exact HF.out
      have HBq := hide (HBr.out.trans (HBp.out.mono HBr.out.size))
      have HSR := hide HOP.out.sb.src
      clear hf e1 hJ hll
      go_wp2_with (at_builtin; refine wpList_app rfl _ _ 42 rfl w.heap.size _ _ J R rfl HOJ.out rfl HSR.out HLn.out HBb.out ?_)
      intro v' w2 ho hgr
      have ho' : OB w2 w.heap.size v' (rowsC (cs.take (j + 1))) := by rw [← HLt.out]; exact ho
      have hb2 := grew_to HBq.out (Nat.le_refl _) HOJ.out hgr
      obtain ⟨av, cv, rfl⟩ := ho'.shape
      have HLL : Hid ((rowsC (cs.take (j + 1))).length ≤ 300000000000) := by
        show _ ≤ _
        have f1 := rowsC_len _ HFn.out
        have f2 : (cs.take (j + 1)).length ≤ 1048576 := by rw [List.length_take]; omega
        omega
      obtain ⟨M, hM⟩ : ∃ M, M = (rowsC (cs.take (j + 1))).length := ⟨_, rfl⟩
      rw [← hM] at ho' HLL
      have HM := hide hM
      have HO2 := hide ho'
      have HB2 := hide hb2
      rw [← hM]
      clear ho ho' hb2 hgr hM
      go_wp2
      go_roundw
      case rel => exact ⟨j + 1, av, cv, M, rfl, by go_num, by omega, HLL.out, ⟨HM.out, HO2.out⟩, HFn.out, HB2.out⟩
      case measure => simp [intOf]; omega
    · have hje : j = cs.length := by omega
      subst hje
      have HFC : Hid (∀ l ∈ cs, fitI (ceI l)) := by
        have := HFt.out
        rwa [List.take_length] at this
      obtain ⟨J, hJ⟩ : ∃ J, J = rowsC cs := ⟨_, rfl⟩
      have HRC : Hid (L = J.length ∧ OB wr w.heap.size (.slice ta L tc) J) := by
        have := HR.out
        rwa [List.take_length, ← hJ] at this
      have HJ := hide hJ
      have HOX : Hid ((enx cs.length L at' cm).Ok) := enx_ok hn hL H64.out HCm.out
      have HXV : Hid ((enx cs.length L at' cm).v = .agg #[.int .i64 0, .int .i64 0, .int .i64 (cs.length : Int), .int .i64 (cs.length : Int), .int .i64 (L : Int), .int .i64 at', .string cm]) := rfl
      have HXE : Hid (enx cs.length L at' cm = enx cs.length (rowsC cs).length at' cm) := by show _ = _; rw [HRC.out.1, hJ]
      clear hlt hj HR HFt hJ
      obtain ⟨XA, hXA⟩ : ∃ A : Array Value, A = #[.int .i64 0, .int .i64 0, .int .i64 (cs.length : Int), .int .i64 (cs.length : Int), .int .i64 (L : Int), .int .i64 at', .string cm] := ⟨_, rfl⟩
      have HXA : Hid ((enx cs.length L at' cm).v = .agg XA) := by show _ = _; rw [hXA]; rfl
      obtain ⟨ws, hws⟩ : ∃ y, wr.alloc (.cells #[.int .i64 0, .int .i64 0, .int .i64 (cs.length : Int), .int .i64 (cs.length : Int), .int .i64 (L : Int), .int .i64 at', .string cm] 68) = y := ⟨_, rfl⟩
      have HBs : Hid (Below wr.heap.size wr ws) := by rw [← hws]; exact (Below.refl _ _).alloc (Nat.le_refl _) _
      have n1 : ws.heap[wr.heap.size]? = some (.cells #[.int .i64 0, .int .i64 0, .int .i64 (cs.length : Int), .int .i64 (cs.length : Int), .int .i64 (L : Int), .int .i64 at', .string cm] 68 (0, 0)) := by rw [← hws]; exact heap_alloc_new _ _
      obtain ⟨d0, d1, d2, d3, d4, d5, d6⟩ := box7 n1
      clear n1
      go_wp2_with fail
      clear d0 d1 d2 d3 d4 d5 d6 hws
      rw [← HXV.out]
      refine (vputEnd_any _ HOX.out ws).mono ?_
      rintro e wp ⟨xa, ya, rfl, hoa, hb⟩
      have HBp := hide (HBs.out.trans (hb.mono HBs.out.size))
      obtain ⟨R, hR⟩ : ∃ R, R = puL (enI (enx cs.length L at' cm)) := ⟨_, rfl⟩
      obtain ⟨E, hE⟩ : ∃ E, E = puE (enI (enx cs.length L at' cm)) := ⟨_, rfl⟩
      rw [← hR] at hoa
      rw [← hR, ← hE]
      have HOP := hide hoa
      have HPE : Hid (R = puL (enI (enx cs.length L at' cm)) ∧ E = puE (enI (enx cs.length L at' cm))) := ⟨hR, hE⟩
      have HBq := hide (HBr.out.trans (HBp.out.mono HBr.out.size))
      clear hoa hb hR hE
      by_cases hf : fitI (enI (enx cs.length L at' cm))
      case neg =>
        have e2 : E = 124 := HPE.out.2.trans (if_neg hf)
        subst e2
        have HD := hide (dr_no (Int.not_lt.2 H0.out) (cs := cs) (cm := cm) (fun hk => hf (by rw [HXE.out]; exact hk.2)))
        clear hf
        go_wp2
        go_ret2
        rw [HD.out.1, HD.out.2]
        exact ⟨none, 0, rfl, sb_nil13 _, HBq.out⟩
      have e1 : R = rowI (enI (enx cs.length L at' cm)) := HPE.out.1.trans (if_pos hf)
      have e2 : E = 0 := HPE.out.2.trans (if_pos hf)
      subst e2
      have hll := enI_len _ hf
      rw [← e1] at hll
      have HD := hide (dr_yes (Int.not_lt.2 H0.out) (cs := cs) (cm := cm) ⟨HFC.out, by rw [← HXE.out]; exact hf⟩)
      have HLt : Hid (J ++ R = drL cs at' cm) := by show _ = _; rw [HD.out.2, HJ.out, e1, HXE.out]
      have HOJ : Hid (OB wp w.heap.size (.slice ta L tc) J) := HRC.out.2.below HBp.out (Nat.le_refl _)
      have HLn : Hid (J.length + R.length ≤ 140737488355328) := by show _ ≤ _; have := HRC.out.1; omega
      have HBb : Hid (w.heap.size ≤ wp.heap.size) := HBq.out.size
      have HSR := hide HOP.out.sb.src
      obtain ⟨DL, hDL⟩ : ∃ D, D = drL cs at' cm := ⟨_, rfl⟩
      rw [← hDL] at HLt
      have HDL := hide hDL
      clear hf e1 hll hDL
      go_wp2_with (at_builtin; refine wpList_app rfl _ _ 42 rfl w.heap.size _ _ J R rfl HOJ.out rfl HSR.out HLn.out HBb.out ?_)
      intro v' w2 ho hgr
      rw [HLt.out] at ho
      have hb2 := grew_to HBq.out (Nat.le_refl _) HOJ.out hgr
      obtain ⟨av, cv, rfl⟩ := ho.shape
      have HO2 := hide ho
      have HB2 := hide hb2
      clear ho hb2 hgr
      go_wp2
      go_ret2
      rw [HD.out.1, ← HDL.out]
      exact ⟨av, cv, rfl, HO2.out.sb, HB2.out⟩
end Go.Proofs.Ytjmjjjpanioifaa

