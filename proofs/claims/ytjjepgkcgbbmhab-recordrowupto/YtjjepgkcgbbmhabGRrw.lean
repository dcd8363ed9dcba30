import Derived.Test.YtjjepgkcgbbmhabGRof
import Derived.Test.YtjjepgkcgbbmhabGFtc
import Derived.Test.YtjjepgkcgbbmhabGJnd
namespace Go.Proofs.Ytjjepgkcgbbmhab
open Go.RowKit Go.Maps
set_option maxRecDepth 20000
set_option linter.unusedVariables false
set_option linter.unusedSimpArgs false

theorem cell_box {w : World} {g : Nat} {A : Array Value} {t : TypeId} (h : w.heap[g]? = some (.cells A t (0, 0))) {i : Nat} {u : Value} (hu : A[i]? = some u) : w.cell? ⟨g, i, none⟩ = some u := by
  simp only [World.cell?, h]
  simpa using hu

set_option maxHeartbeats 16000000 in
theorem row_walk (v0 v1 v2 v4 : Value) (Aa Bb : List Int) (ls : List Loc) (cs : List Cen) (x : Enr) (w : World) (h0 : SB w v0 Aa) (h4 : SB w v4 Bb) (y0 : Byt Aa) (y4 : Byt Bb) (n0 : Aa.length ≤ 1048576) (n4 : Bb.length ≤ 1048576)
    (h1 : SR 10 w v1 (ls.map Loc.cs)) (h2 : SR 16 w v2 (cs.map Cen.cs)) (n1 : ls.length ≤ 1048576) (n2 : cs.length ≤ 1048576) (o1 : ∀ l ∈ ls, l.Ok) (o2 : ∀ c ∈ cs, c.Ok) (ox : x.Ok) :
    Calls Try.prog 6 #[v0, v1, v2, x.v, v4] w fun e w' => e = .returned (.bool true) ∧ Below w.heap.size w w' := by
  have HS0 := hide h0
  have HS4 := hide h4
  have HY0 := hide y0
  have HY4 := hide y4
  have HL := hide h1
  have HC := hide h2
  have HO1 := hide o1
  have HO2 := hide o2
  have HOX := hide ox
  obtain ⟨a0, p0, rfl, a01, a02, a03⟩ := h0.open11
  obtain ⟨a4, p4, rfl, a41, a42, a43⟩ := h4.open11
  obtain ⟨la, lcap, rfl, l1, l2⟩ := h1.open
  obtain ⟨ca, ccap, rfl, c1, c2⟩ := h2.open
  rw [List.length_map] at l1 c1
  have ell : (ls.map Loc.cs).length = ls.length := List.length_map ..
  have elc : (cs.map Cen.cs).length = cs.length := List.length_map ..
  rw [ell] at HL ⊢
  rw [elc] at HC ⊢
  obtain ⟨XA, hXA⟩ : ∃ A, A = x.cs := ⟨_, rfl⟩
  have HXV : Hid (x.v = .agg XA) := by show _ = _; rw [hXA]; rfl
  have HXS : Hid (XA.size = 7) := by rw [hXA]; exact rsE x
  have HXE : Hid (XA = x.cs) := hXA
  rw [HXV.out]
  obtain ⟨w1, hw1⟩ : ∃ y, w.alloc (.cells XA 24) = y := ⟨_, rfl⟩
  have HB1 : Hid (Below w.heap.size w w1) := by rw [← hw1]; exact (Below.refl _ _).alloc (Nat.le_refl _) _
  have HNX : Hid (w1.heap[w.heap.size]? = some (.cells XA 24 (0, 0))) := by rw [← hw1]; exact heap_alloc_new w _
  have HL1 := hide (HL.out.low HB1.out)
  have HC1 := hide (HC.out.low HB1.out)
  clear h0 h4 y0 y4 h1 h2 o1 o2 ox a03 a43 hXA ell elc
  go_enter Try.func6, Try.ntmps6
  go_wp2_with fail
  clear hw1
  refine (copied_any _ Aa w1 (SB.below HS0.out HB1.out) (by omega)).mono ?_
  rintro e w2 ⟨ra, rc, rfl, ho, hb⟩
  have HO2' := hide ho
  have HB2 := hide hb
  clear ho hb
  go_wp2
  go_loopw [11, 12, 13, 14, 15] (fun r i _ _ _ wr => ∃ (j : Nat) (ra : Option Addr) (rc L : Nat), r = .slice ra L rc ∧ i = .int .i64 (j : Int) ∧ j ≤ ls.length ∧ L ≤ 1000000000000 ∧ Hid (L = (Aa ++ rowsL (ls.take j)).length ∧ OB wr w1.heap.size (.slice ra L rc) (Aa ++ rowsL (ls.take j))) ∧ Hid (∀ l ∈ ls.take j, fitI (loI l)) ∧ Hid (Below w1.heap.size w1 wr)) (fun _ i _ _ _ _ => ls.length - (intOf i).toNat)
  case atStart => exact ⟨0, ra, rc, Aa.length, rfl, rfl, Nat.zero_le _, by omega, ⟨by simp [rowsL], by simpa [rowsL] using HO2'.out⟩, fun l hl => by simp at hl, HB2.out⟩
  case round =>
    obtain ⟨j, ra, rc, L, rfl, rfl, hj, hL, HR, HFt, HBr⟩ := hrel
    by_cases hlt : j < ls.length
    · have hlt' : (j : Int) < (ls.length : Int) := by omega
      obtain ⟨l, hl⟩ : ∃ l, l = ls.getD j z0L := ⟨_, rfl⟩
      have HLE := hide hl
      have HOK : Hid l.Ok := by rw [hl]; exact HO1.out _ (memL hlt)
      obtain ⟨A, hA⟩ : ∃ A, A = l.cs := ⟨_, rfl⟩
      have HAV : Hid (l.v = .agg A) := by show _ = _; rw [hA]; rfl
      have HSA : Hid (A.size = 10) := by rw [hA]; exact rsL _
      have HOA : Hid (A.all (·.oneCell') = true) := by rw [hA]; exact roL _
      have HAE := hide hA
      obtain ⟨b0, o0, hla, hrg⟩ := SR.row (HL1.out.low HBr.out) (i := j) (by rw [List.length_map]; exact hlt)
      rw [csL_get hlt, ← hl, ← hA] at hrg
      have HRG := hide hrg
      subst hla
      have HZ : Hid ((wr.alloc (.cells #[.int .i64 0, .int .i64 0, .int .i64 0, .int .i64 0, .int .i64 0, .int .u32 0, .int .i64 0, .int .i64 0, .string ⟨#[]⟩, .string ⟨#[]⟩] 30)).heap[wr.heap.size]? = some (.cells #[.int .i64 0, .int .i64 0, .int .i64 0, .int .i64 0, .int .i64 0, .int .u32 0, .int .i64 0, .int .i64 0, .string ⟨#[]⟩, .string ⟨#[]⟩] 30 (0, 0))) := heap_alloc_new _ _
      obtain ⟨ws, hws⟩ : ∃ y, wr.alloc (.cells A 30) = y := ⟨_, rfl⟩
      have HBs : Hid (Below wr.heap.size wr ws) := by rw [← hws]; exact (Below.refl _ _).alloc (Nat.le_refl _) _
      have HNs : Hid (ws.heap[wr.heap.size]? = some (.cells A 30 (0, 0))) := by rw [← hws]; exact heap_alloc_new _ _
      have HW3 : Hid ((wr.alloc (.cells #[.int .i64 0, .int .i64 0, .int .i64 0, .int .i64 0, .int .i64 0, .int .u32 0, .int .i64 0, .int .i64 0, .string ⟨#[]⟩, .string ⟨#[]⟩] 30)).setRow wr.heap.size A = ws) := by show _ = _; rw [World.setRow_alloc_new]; exact hws
      clear hl hA hrg hws
      go_wp2_with (first
        | ((with_reducible refine wpList_lmL b0 (o0 + j * 10) A HSA.out ?hx HRG.out ?_); (case hx => rfl))
        | ((with_reducible refine wpList_stL wr.heap.size A #[.int .i64 0, .int .i64 0, .int .i64 0, .int .i64 0, .int .i64 0, .int .u32 0, .int .i64 0, .int .i64 0, .string ⟨#[]⟩, .string ⟨#[]⟩] HSA.out rfl HOA.out ?hx ?hy HZ.out ?_); (case hx => rfl); (case hy => rfl); rw [HW3.out])
        | ((with_reducible refine wpList_ldL wr.heap.size A HSA.out ?hx HNs.out ?_); (case hx => rfl)))
      rw [← HAV.out]
      refine (putLocal_any l HOK.out ws).mono ?_
      rintro e wp ⟨xa, ya, rfl, hoa, hb⟩
      have HBp := hide (HBs.out.trans (hb.mono HBs.out.size))
      have HNp := hide ((hb.block _ (Array.getElem?_eq_some_iff.1 HNs.out).1).trans HNs.out)
      obtain ⟨R, hR⟩ : ∃ R, R = puL (loI l) := ⟨_, rfl⟩
      obtain ⟨E, hE⟩ : ∃ E, E = puE (loI l) := ⟨_, rfl⟩
      rw [← hR] at hoa
      rw [← hR, ← hE]
      have HOP := hide hoa
      have HPE : Hid (R = puL (loI l) ∧ E = puE (loI l)) := ⟨hR, hE⟩
      have HWS := hide HBs.out.size
      clear hoa hb hR hE HZ HW3 HBs HNs HRG
      go_wp2_with ((with_reducible refine wpList_ldL wr.heap.size A HSA.out ?hx HNp.out ?_); (case hx => rfl))
      rw [← HAV.out]
      refine (localFits_any l HOK.out wp).mono ?_
      rintro e wq ⟨rfl, hb⟩
      have HBq := hide (HBp.out.trans (hb.mono HBp.out.size))
      have HNq := hide ((hb.block _ (Array.getElem?_eq_some_iff.1 HNp.out).1).trans HNp.out)
      have HOQ := hide (HOP.out.below hb (Nat.le_refl _))
      clear hb HNp HOP HBp
      by_cases hf : fitI (loI l)
      case neg =>
        rw [show decide (fitI (loI l)) = false from decide_eq_false hf]
        have e1 : R = [] := HPE.out.1.trans (if_neg hf)
        have e2 : E = 124 := HPE.out.2.trans (if_neg hf)
        subst e1 e2
        have HBz := hide (HB1.out.trans ((HBr.out.trans (HBq.out.mono HBr.out.size)).mono HB1.out.size))
        clear hf
        go_wp2
        go_ret
        exact ⟨by first | rfl | simp, HBz.out⟩
      rw [show decide (fitI (loI l)) = true from decide_eq_true hf]
      have e1 : R = rowI (loI l) := HPE.out.1.trans (if_pos hf)
      have e2 : E = 0 := HPE.out.2.trans (if_pos hf)
      subst e2
      have HF := hide hf
      have hrl := loI_row l
      have hll := loI_len l hf
      rw [← e1] at hrl hll
      have HE1 := hide e1
      obtain ⟨n0, hn0⟩ : ∃ n : Nat, n = l.name.size := ⟨_, rfl⟩
      have c8 := cell_box HNq.out (i := 8) (u := .string l.name) (by rw [HAE.out]; rfl)
      have m0 : (l.name.size : Int) = (n0 : Int) := by omega
      obtain ⟨n1, hn1⟩ : ∃ n : Nat, n = l.extra.size := ⟨_, rfl⟩
      have c9 := cell_box HNq.out (i := 9) (u := .string l.extra) (by rw [HAE.out]; rfl)
      have m1 : (l.extra.size : Int) = (n1 : Int) := by omega
      have hne : (R.length : Int) = 30 + (n0 : Int) + (n1 : Int) := by omega
      have HJ := hide (fun W (hW : Below wq.heap.size wq W) => joined_any (.slice ra L rc) (.slice xa R.length ya) (Aa ++ rowsL (ls.take j)) R W (by
        have := ((HR.out.2.sb.below HBq.out).below hW)
        exact this) (HOQ.out.sb.below hW) (by have := HR.out.1; omega))
      have hR2 : R.length ≤ 196651 := by omega
      clear hf e1 hrl hll
      go_wp2_with fail
      clear hne
      refine (HJ.out _ (Below.refl _ _)).mono ?_
      rintro e wt ⟨ta, tc, rfl, hot, hb⟩
      obtain ⟨TT, hTT⟩ : ∃ T, T = Aa ++ rowsL (ls.take j) ++ R := ⟨_, rfl⟩
      rw [← hTT] at hot ⊢
      have HBt := hide (HBr.out.trans ((HBq.out.trans (hb.mono HBq.out.size)).mono HBr.out.size))
      have HLt : Hid (TT = Aa ++ rowsL (ls.take (j + 1))) := by
        show _ = _
        rw [hTT, rowsL_take hlt, ← HLE.out, HE1.out, List.append_assoc]
      have HFn : Hid (∀ l' ∈ ls.take (j + 1), fitI (loI l')) := by
        intro l' hl'
        rw [List.take_succ_eq_append_getElem hlt] at hl'
        rcases List.mem_append.1 hl' with h' | h'
        · exact HFt.out l' h'
        · have : l' = l := by
            rw [HLE.out]
            simp [List.getD, hlt] at h' ⊢
            exact h'
          rw [this]
          exact HF.out
      have HOT : Hid (OB wt w1.heap.size (.slice ta TT.length tc) (Aa ++ rowsL (ls.take (j + 1)))) := by
        have h' := hot.base (show w1.heap.size ≤ wq.heap.size from Nat.le_trans HBr.out.size HBq.out.size)
        rw [← HLt.out]
        exact h'
      have HLn : Hid (TT.length ≤ 1000000000000) := by
        show _ ≤ _
        have f1 := rowsL_len _ HFn.out
        have f2 : (ls.take (j + 1)).length ≤ 1048576 := by rw [List.length_take]; omega
        have f3 : (Aa).length ≤ 1048576 := by omega
        rw [HLt.out, List.length_append]
        omega
      clear hot hb hTT
      go_wp2
      go_roundw
      case rel =>
        refine ⟨j + 1, ta, tc, TT.length, ?_⟩
        exact ⟨rfl, by go_num, by omega, HLn.out, ⟨by rw [HLt.out], HOT.out⟩, HFn.out, HBt.out⟩
      case measure => simp [intOf]; omega
    · have hje : j = ls.length := by omega
      subst hje
      have HFL : Hid (∀ l ∈ ls, fitI (loI l)) := by
        have := HFt.out
        rwa [List.take_length] at this
      have HRL : Hid (L = (Aa ++ rowsL ls).length ∧ OB wr w1.heap.size (.slice ra L rc) (Aa ++ rowsL ls)) := by
        have := HR.out
        rwa [List.take_length] at this
      have HBr5 := HBr
      clear hlt hj HR HFt HBr
      go_wp2
      go_loopw [11, 16, 17, 18, 19] (fun r i _ _ _ wr => ∃ (j : Nat) (ra : Option Addr) (rc L : Nat), r = .slice ra L rc ∧ i = .int .i64 (j : Int) ∧ j ≤ cs.length ∧ L ≤ 1000000000000 ∧ Hid (L = ((Aa ++ rowsL ls) ++ rowsC (cs.take j)).length ∧ OB wr w1.heap.size (.slice ra L rc) ((Aa ++ rowsL ls) ++ rowsC (cs.take j))) ∧ Hid (∀ l ∈ cs.take j, fitI (ceI l)) ∧ Hid (Below w1.heap.size w1 wr)) (fun _ i _ _ _ _ => cs.length - (intOf i).toNat)
      case atStart => exact ⟨0, ra, rc, L, rfl, rfl, Nat.zero_le _, hL, ⟨by simp [rowsC]; simpa using HRL.out.1, by simpa [rowsC] using HRL.out.2⟩, fun l hl => by simp at hl, HBr5.out⟩
      case round =>
        obtain ⟨j, ra, rc, L, rfl, rfl, hj, hL, HR, HFt, HBr⟩ := hrel
        by_cases hlt : j < cs.length
        · have hlt' : (j : Int) < (cs.length : Int) := by omega
          obtain ⟨l, hl⟩ : ∃ l, l = cs.getD j z0C := ⟨_, rfl⟩
          have HLE := hide hl
          have HOK : Hid l.Ok := by rw [hl]; exact HO2.out _ (memC hlt)
          obtain ⟨A, hA⟩ : ∃ A, A = l.cs := ⟨_, rfl⟩
          have HAV : Hid (l.v = .agg A) := by show _ = _; rw [hA]; rfl
          have HSA : Hid (A.size = 16) := by rw [hA]; exact rsC _
          have HOA : Hid (A.all (·.oneCell') = true) := by rw [hA]; exact roC _
          have HAE := hide hA
          obtain ⟨b0, o0, hla, hrg⟩ := SR.row (HC1.out.low HBr.out) (i := j) (by rw [List.length_map]; exact hlt)
          rw [csC_get hlt, ← hl, ← hA] at hrg
          have HRG := hide hrg
          subst hla
          have HZ : Hid ((wr.alloc (.cells #[.int .i64 0, .int .i64 0, .int .i64 0, .int .i64 0, .int .i64 0, .int .u32 0, .int .i64 0, .int .i64 0, .string ⟨#[]⟩, .string ⟨#[]⟩, .int .i64 0, .int .i64 0, .int .i64 0, .int .i64 0, .int .i64 0, .string ⟨#[]⟩] 40)).heap[wr.heap.size]? = some (.cells #[.int .i64 0, .int .i64 0, .int .i64 0, .int .i64 0, .int .i64 0, .int .u32 0, .int .i64 0, .int .i64 0, .string ⟨#[]⟩, .string ⟨#[]⟩, .int .i64 0, .int .i64 0, .int .i64 0, .int .i64 0, .int .i64 0, .string ⟨#[]⟩] 40 (0, 0))) := heap_alloc_new _ _
          obtain ⟨ws, hws⟩ : ∃ y, wr.alloc (.cells A 40) = y := ⟨_, rfl⟩
          have HBs : Hid (Below wr.heap.size wr ws) := by rw [← hws]; exact (Below.refl _ _).alloc (Nat.le_refl _) _
          have HNs : Hid (ws.heap[wr.heap.size]? = some (.cells A 40 (0, 0))) := by rw [← hws]; exact heap_alloc_new _ _
          have HW3 : Hid ((wr.alloc (.cells #[.int .i64 0, .int .i64 0, .int .i64 0, .int .i64 0, .int .i64 0, .int .u32 0, .int .i64 0, .int .i64 0, .string ⟨#[]⟩, .string ⟨#[]⟩, .int .i64 0, .int .i64 0, .int .i64 0, .int .i64 0, .int .i64 0, .string ⟨#[]⟩] 40)).setRow wr.heap.size A = ws) := by show _ = _; rw [World.setRow_alloc_new]; exact hws
          clear hl hA hrg hws
          go_wp2_with (first
            | ((with_reducible refine wpList_lmC b0 (o0 + j * 16) A HSA.out ?hx HRG.out ?_); (case hx => rfl))
            | ((with_reducible refine wpList_stC wr.heap.size A #[.int .i64 0, .int .i64 0, .int .i64 0, .int .i64 0, .int .i64 0, .int .u32 0, .int .i64 0, .int .i64 0, .string ⟨#[]⟩, .string ⟨#[]⟩, .int .i64 0, .int .i64 0, .int .i64 0, .int .i64 0, .int .i64 0, .string ⟨#[]⟩] HSA.out rfl HOA.out ?hx ?hy HZ.out ?_); (case hx => rfl); (case hy => rfl); rw [HW3.out])
            | ((with_reducible refine wpList_ldC wr.heap.size A HSA.out ?hx HNs.out ?_); (case hx => rfl)))
          rw [← HAV.out]
          refine (putCentral_any l HOK.out ws).mono ?_
          rintro e wp ⟨xa, ya, rfl, hoa, hb⟩
          have HBp := hide (HBs.out.trans (hb.mono HBs.out.size))
          have HNp := hide ((hb.block _ (Array.getElem?_eq_some_iff.1 HNs.out).1).trans HNs.out)
          obtain ⟨R, hR⟩ : ∃ R, R = puL (ceI l) := ⟨_, rfl⟩
          obtain ⟨E, hE⟩ : ∃ E, E = puE (ceI l) := ⟨_, rfl⟩
          rw [← hR] at hoa
          rw [← hR, ← hE]
          have HOP := hide hoa
          have HPE : Hid (R = puL (ceI l) ∧ E = puE (ceI l)) := ⟨hR, hE⟩
          have HWS := hide HBs.out.size
          clear hoa hb hR hE HZ HW3 HBs HNs HRG
          go_wp2_with ((with_reducible refine wpList_ldC wr.heap.size A HSA.out ?hx HNp.out ?_); (case hx => rfl))
          rw [← HAV.out]
          refine (centralFits_any l HOK.out wp).mono ?_
          rintro e wq ⟨rfl, hb⟩
          have HBq := hide (HBp.out.trans (hb.mono HBp.out.size))
          have HNq := hide ((hb.block _ (Array.getElem?_eq_some_iff.1 HNp.out).1).trans HNp.out)
          have HOQ := hide (HOP.out.below hb (Nat.le_refl _))
          clear hb HNp HOP HBp
          by_cases hf : fitI (ceI l)
          case neg =>
            rw [show decide (fitI (ceI l)) = false from decide_eq_false hf]
            have e1 : R = [] := HPE.out.1.trans (if_neg hf)
            have e2 : E = 124 := HPE.out.2.trans (if_neg hf)
            subst e1 e2
            have HBz := hide (HB1.out.trans ((HBr.out.trans (HBq.out.mono HBr.out.size)).mono HB1.out.size))
            clear hf
            go_wp2
            go_ret
            exact ⟨by first | rfl | simp, HBz.out⟩
          rw [show decide (fitI (ceI l)) = true from decide_eq_true hf]
          have e1 : R = rowI (ceI l) := HPE.out.1.trans (if_pos hf)
          have e2 : E = 0 := HPE.out.2.trans (if_pos hf)
          subst e2
          have HF := hide hf
          have hrl := ceI_row l
          have hll := ceI_len l hf
          rw [← e1] at hrl hll
          have HE1 := hide e1
          obtain ⟨n0, hn0⟩ : ∃ n : Nat, n = l.loc.name.size := ⟨_, rfl⟩
          have c8 := cell_box HNq.out (i := 8) (u := .string l.loc.name) (by rw [HAE.out]; rfl)
          have m0 : (l.loc.name.size : Int) = (n0 : Int) := by omega
          obtain ⟨n1, hn1⟩ : ∃ n : Nat, n = l.loc.extra.size := ⟨_, rfl⟩
          have c9 := cell_box HNq.out (i := 9) (u := .string l.loc.extra) (by rw [HAE.out]; rfl)
          have m1 : (l.loc.extra.size : Int) = (n1 : Int) := by omega
          obtain ⟨n2, hn2⟩ : ∃ n : Nat, n = l.comment.size := ⟨_, rfl⟩
          have c15 := cell_box HNq.out (i := 15) (u := .string l.comment) (by rw [HAE.out]; rfl)
          have m2 : (l.comment.size : Int) = (n2 : Int) := by omega
          have hne : (R.length : Int) = 46 + (n0 : Int) + (n1 : Int) + (n2 : Int) := by omega
          have HJ := hide (fun W (hW : Below wq.heap.size wq W) => joined_any (.slice ra L rc) (.slice xa R.length ya) ((Aa ++ rowsL ls) ++ rowsC (cs.take j)) R W (by
            have := ((HR.out.2.sb.below HBq.out).below hW)
            exact this) (HOQ.out.sb.below hW) (by have := HR.out.1; omega))
          have hR2 : R.length ≤ 196651 := by omega
          clear hf e1 hrl hll
          go_wp2_with fail
          clear hne
          refine (HJ.out _ (Below.refl _ _)).mono ?_
          rintro e wt ⟨ta, tc, rfl, hot, hb⟩
          obtain ⟨TT, hTT⟩ : ∃ T, T = (Aa ++ rowsL ls) ++ rowsC (cs.take j) ++ R := ⟨_, rfl⟩
          rw [← hTT] at hot ⊢
          have HBt := hide (HBr.out.trans ((HBq.out.trans (hb.mono HBq.out.size)).mono HBr.out.size))
          have HLt : Hid (TT = (Aa ++ rowsL ls) ++ rowsC (cs.take (j + 1))) := by
            show _ = _
            rw [hTT, rowsC_take hlt, ← HLE.out, HE1.out, List.append_assoc]
          have HFn : Hid (∀ l' ∈ cs.take (j + 1), fitI (ceI l')) := by
            intro l' hl'
            rw [List.take_succ_eq_append_getElem hlt] at hl'
            rcases List.mem_append.1 hl' with h' | h'
            · exact HFt.out l' h'
            · have : l' = l := by
                rw [HLE.out]
                simp [List.getD, hlt] at h' ⊢
                exact h'
              rw [this]
              exact HF.out
          have HOT : Hid (OB wt w1.heap.size (.slice ta TT.length tc) ((Aa ++ rowsL ls) ++ rowsC (cs.take (j + 1)))) := by
            have h' := hot.base (show w1.heap.size ≤ wq.heap.size from Nat.le_trans HBr.out.size HBq.out.size)
            rw [← HLt.out]
            exact h'
          have HLn : Hid (TT.length ≤ 1000000000000) := by
            show _ ≤ _
            have f1 := rowsC_len _ HFn.out
            have f2 : (cs.take (j + 1)).length ≤ 1048576 := by rw [List.length_take]; omega
            have f3 : ((Aa ++ rowsL ls)).length ≤ 206207549440 := by 
              have f4 := rowsL_len ls HFL.out
              rw [List.length_append]
              omega
            rw [HLt.out, List.length_append]
            omega
          clear hot hb hTT
          go_wp2
          go_roundw
          case rel =>
            refine ⟨j + 1, ta, tc, TT.length, ?_⟩
            exact ⟨rfl, by go_num, by omega, HLn.out, ⟨by rw [HLt.out], HOT.out⟩, HFn.out, HBt.out⟩
          case measure => simp [intOf]; omega
        · have hje : j = cs.length := by omega
          subst hje
          have HFC : Hid (∀ l ∈ cs, fitI (ceI l)) := by
            have := HFt.out
            rwa [List.take_length] at this
          have HRC : Hid (L = (Aa ++ rowsL ls ++ rowsC cs).length ∧ OB wr w1.heap.size (.slice ra L rc) (Aa ++ rowsL ls ++ rowsC cs)) := by
            have := HR.out
            rwa [List.take_length] at this
          have HNr := hide ((HBr.out.block _ (Array.getElem?_eq_some_iff.1 HNX.out).1).trans HNX.out)
          clear hlt hj HR HFt
          go_wp2_with ((with_reducible refine wpList_ldE w.heap.size XA HXS.out ?hx HNr.out ?_); (case hx => rfl))
          rw [← HXV.out]
          refine (putEnd_any x HOX.out wr).mono ?_
          rintro e wp ⟨xa, ya, rfl, hoa, hb⟩
          obtain ⟨R, hR⟩ : ∃ R, R = puL (enI x) := ⟨_, rfl⟩
          obtain ⟨E, hE⟩ : ∃ E, E = puE (enI x) := ⟨_, rfl⟩
          rw [← hR] at hoa
          rw [← hR, ← hE]
          have HOP := hide hoa
          have HPE : Hid (R = puL (enI x) ∧ E = puE (enI x)) := ⟨hR, hE⟩
          have HBp := hide hb
          have HNp := hide ((hb.block _ (Array.getElem?_eq_some_iff.1 HNr.out).1).trans HNr.out)
          clear hoa hb hR hE HNr
          go_wp2_with ((with_reducible refine wpList_ldE w.heap.size XA HXS.out ?hx HNp.out ?_); (case hx => rfl))
          rw [← HXV.out]
          refine (endFits_any x HOX.out wp).mono ?_
          rintro e wq ⟨rfl, hb⟩
          have HBq := hide (HBp.out.trans (hb.mono HBp.out.size))
          have HNq := hide ((hb.block _ (Array.getElem?_eq_some_iff.1 HNp.out).1).trans HNp.out)
          have HOQ := hide (HOP.out.below hb (Nat.le_refl _))
          clear hb HNp HOP HBp
          by_cases hf : fitI (enI x)
          case neg =>
            rw [show decide (fitI (enI x)) = false from decide_eq_false hf]
            have e1 : R = [] := HPE.out.1.trans (if_neg hf)
            have e2 : E = 124 := HPE.out.2.trans (if_neg hf)
            subst e1 e2
            have HBz := hide (HB1.out.trans ((HBr.out.trans (HBq.out.mono HBr.out.size)).mono HB1.out.size))
            clear hf
            go_wp2
            go_ret
            exact ⟨by first | rfl | simp, HBz.out⟩
          rw [show decide (fitI (enI x)) = true from decide_eq_true hf]
          have e1 : R = rowI (enI x) := HPE.out.1.trans (if_pos hf)
          have e2 : E = 0 := HPE.out.2.trans (if_pos hf)
          subst e2
          have HF := hide hf
          have hrl := enI_row x
          have hll := enI_len x hf
          rw [← e1] at hrl hll
          have HE1 := hide e1
          obtain ⟨nc, hnc⟩ : ∃ n : Nat, n = x.comment.size := ⟨_, rfl⟩
          have c6 := cell_box HNq.out (i := 6) (u := .string x.comment) (by rw [HXE.out]; rfl)
          have mc : (x.comment.size : Int) = (nc : Int) := by omega
          have hne : (R.length : Int) = 22 + (nc : Int) := by omega
          have hLl : L ≤ 1000000000000 := hL
          have HJ := hide (joined_any (.slice ra L rc) (.slice xa R.length ya) (Aa ++ rowsL ls ++ rowsC cs) R wq (HRC.out.2.sb.below HBq.out) HOQ.out.sb (by have := HRC.out.1; omega))
          have hR2 : R.length ≤ 196651 := by omega
          clear hf e1 hrl hll
          go_wp2_with fail
          clear hne c6 mc
          refine HJ.out.mono ?_
          rintro e wt ⟨ta, tc, rfl, hot, hb⟩
          have HBt := hide (HBr.out.trans ((HBq.out.trans (hb.mono HBq.out.size)).mono HBr.out.size))
          have HNt := hide ((hb.block _ (Array.getElem?_eq_some_iff.1 HNq.out).1).trans HNq.out)
          obtain ⟨M, hM⟩ : ∃ M, M = Aa ++ rowsL ls ++ rowsC cs ++ R := ⟨_, rfl⟩
          rw [← hM] at hot ⊢
          have HM := hide hM
          have HOT := hide hot
          have hMl : M.length ≤ 2000000000000 := by rw [hM, List.length_append]; have := HRC.out.1; omega
          have HBw := hide (HB1.out.trans (HBt.out.mono HB1.out.size))
          obtain ⟨NB, hNB⟩ : ∃ N, N = M ++ Bb := ⟨_, rfl⟩
          have HJ2 := hide (fun W (hW : Below wt.heap.size wt W) => joined_any (.slice ta M.length tc) (.slice a4 Bb.length p4) M Bb W (HOT.out.sb.below hW) (SB.below (SB.below HS4.out HBw.out) hW) (by omega))
          rw [← hNB] at HJ2
          have HTT : Hid (NB = Aa ++ (rowsL ls ++ (rowsC cs ++ (rowI (enI x) ++ Bb)))) := by
            show _ = _
            rw [hNB, HM.out, HE1.out]
            simp [List.append_assoc]
          have HDR : Hid (NB.drop Aa.length = rowsL ls ++ (rowsC cs ++ (rowI (enI x) ++ Bb))) := by show _ = _; rw [HTT.out, List.drop_left' rfl]
          have HEn : Hid (M.length = Aa.length + (rowsL ls).length + (rowsC cs).length + (rowI (enI x)).length) := by show _ = _; rw [HM.out, HE1.out]; simp only [List.length_append]
          have HBM : Hid (Byt NB) := by
            rw [HTT.out]
            exact byt_append HY0.out (byt_append (byt_rowsL _) (byt_append (byt_rowsC _) (byt_append (byt_rowI _) HY4.out)))
          have HLE : Hid (NB.length ≤ 140737488351232 ∧ Aa.length ≤ NB.length) := by
            have h9 := HEn.out
            refine ⟨?_, ?_⟩ <;> (rw [hNB, List.length_append]; omega)
          clear hb hot hM HJ HOQ HBq HRC hNB
          go_wp2_with fail
          refine wp_region_held_drew (S := fun W => W.rangeAt w.heap.size 0 XA.toList) (by kernel_rfl) (range_box HNt.out) (fun hHeld => ?_)
          refine wpAnyH_take (i := 0) (v := .slice ta M.length tc) rfl (by kernel_rfl) (by kernel_rfl) (by kernel_rfl) (fun _ _ _ h => h) (Or.inl ⟨by kernel_rfl, ?_⟩) hHeld ?_
          · intro W hSw
            go_simp
          show wpAnyH _ _ _ _ _ _ _ (Act.put _ (some 145) _) _
          simp only [Act.put, List.setIfInBounds_toArray, List.set_cons_zero, List.set_cons_succ]
          refine wpAnyH_take (i := 1) (v := .slice a4 Bb.length p4) rfl (by kernel_rfl) (by kernel_rfl) (by kernel_rfl) (fun _ _ _ h => h) (Or.inl ⟨by kernel_rfl, ?_⟩) hHeld ?_
          · intro W hSw
            go_simp
          show wpAnyH _ _ _ _ _ _ _ (Act.put _ (some 146) _) _
          simp only [Act.put, List.setIfInBounds_toArray, List.set_cons_zero, List.set_cons_succ]
          refine wpAnyH_take (i := 3) (v := .slice a0 Aa.length p0) rfl (by kernel_rfl) (by kernel_rfl) (by kernel_rfl) (fun _ _ _ h => h) (Or.inl ⟨by kernel_rfl, ?_⟩) hHeld ?_
          · intro W hSw
            go_simp
          show wpAnyH _ _ _ _ _ _ _ (Act.put _ (some 148) _) _
          simp only [Act.put, List.setIfInBounds_toArray, List.set_cons_zero, List.set_cons_succ]
          refine wpAnyH_take (i := 4) (v := .int .i64 (Aa.length : Int)) rfl (by kernel_rfl) (by kernel_rfl) (by kernel_rfl) (fun _ _ _ h => h) (Or.inl ⟨by kernel_rfl, ?_⟩) hHeld ?_
          · intro W hSw
            go_simp
          show wpAnyH _ _ _ _ _ _ _ (Act.put _ (some 149) _) _
          simp only [Act.put, List.setIfInBounds_toArray, List.set_cons_zero, List.set_cons_succ]
          refine wpAnyH_take (i := 5) (v := .slice ta M.length tc) rfl (by kernel_rfl) (by kernel_rfl) (by kernel_rfl) (fun _ _ _ h => h) (Or.inl ⟨by kernel_rfl, ?_⟩) hHeld ?_
          · intro W hSw
            go_simp
          show wpAnyH _ _ _ _ _ _ _ (Act.put _ (some 150) _) _
          simp only [Act.put, List.setIfInBounds_toArray, List.set_cons_zero, List.set_cons_succ]
          refine wpAnyH_take (i := 6) (v := .int .i64 (M.length : Int)) rfl (by kernel_rfl) (by kernel_rfl) (by kernel_rfl) (fun _ _ _ h => h) (Or.inl ⟨by kernel_rfl, ?_⟩) hHeld ?_
          · intro W hSw
            go_simp
          show wpAnyH _ _ _ _ _ _ _ (Act.put _ (some 151) _) _
          simp only [Act.put, List.setIfInBounds_toArray, List.set_cons_zero, List.set_cons_succ]
          refine wpAnyH_take (i := 7) (v := .slice la ls.length lcap) rfl (by kernel_rfl) (by kernel_rfl) (by kernel_rfl) (fun _ _ _ h => h) (Or.inl ⟨by kernel_rfl, ?_⟩) hHeld ?_
          · intro W hSw
            go_simp
          show wpAnyH _ _ _ _ _ _ _ (Act.put _ (some 152) _) _
          simp only [Act.put, List.setIfInBounds_toArray, List.set_cons_zero, List.set_cons_succ]
          refine wpAnyH_take (i := 8) (v := .slice ca cs.length ccap) rfl (by kernel_rfl) (by kernel_rfl) (by kernel_rfl) (fun _ _ _ h => h) (Or.inl ⟨by kernel_rfl, ?_⟩) hHeld ?_
          · intro W hSw
            go_simp
          show wpAnyH _ _ _ _ _ _ _ (Act.put _ (some 153) _) _
          simp only [Act.put, List.setIfInBounds_toArray, List.set_cons_zero, List.set_cons_succ]
          refine wpAnyH_take (i := 9) (v := .agg XA.toList.toArray) rfl (by kernel_rfl) (by kernel_rfl) (by kernel_rfl) (fun _ _ _ h => h) (yieldsIf_load_mid (by kernel_rfl) 24 _ rfl w.heap.size 0 rfl XA.toList _ (fun W hW => hW) Try.underlying24 rfl (by rw [Array.length_toList, HXS.out]; exact rzE)) hHeld ?_
          show wpAnyH _ _ _ _ _ _ _ (Act.put _ (some 154) _) _
          simp only [Act.put, List.setIfInBounds_toArray, List.set_cons_zero, List.set_cons_succ]
          refine wpAnyH_ready (rs := [2]) (by kernel_rfl) (by simp) ?_
          refine AllReadyH.cons rfl (fun K hK => ?_) AllReadyH.nil
          go_simp
          go_at_call 27
          with_reducible refine (HJ2.out _ (Below.refl _ _).drew).mono ?_
          rintro e wu ⟨ua, uc, rfl, hou, hbu⟩
          have HBu : Hid (Below wt.heap.size wt wu) := (Below.refl _ _).drew.trans hbu
          have HOU := hide hou
          clear hou hbu
          refine hK.out _ _ (range_box ((HBu.out.block _ (Array.getElem?_eq_some_iff.1 HNt.out).1).trans HNt.out)) (fun hHeld2 => ?_)
          clear hK K hHeld
          have hHeld := hHeld2
          clear hHeld2
          try simp only [Act.put, List.setIfInBounds_toArray, List.set_cons_zero, List.set_cons_succ]
          have HBwu := hide (HBw.out.trans (HBu.out.mono HBw.out.size))
          have HRO := hide (readOff_any (.slice ua NB.length uc) NB Bb Aa.length ls cs x (.slice la ls.length lcap) (.slice ca cs.length ccap) wu HOU.out.sb HBM.out HLE.out.1 HLE.out.2 HDR.out (HL.out.low HBwu.out) (HC.out.low HBwu.out) HFL.out HFC.out HF.out M.length HEn.out)
          rw [HXV.out] at HRO
          refine wpAnyH_ready (rs := [10]) (by kernel_rfl) (by simp) ?_
          refine AllReadyH.cons rfl (fun K hK => ?_) AllReadyH.nil
          go_simp
          go_at_call 28
          with_reducible refine HRO.out.mono ?_
          rintro e wv ⟨rfl, hbv⟩
          have HBv : Hid (Below wt.heap.size wt wv) := HBu.out.trans (hbv.mono HBu.out.size)
          clear hbv
          refine hK.out _ _ (range_box ((HBv.out.block _ (Array.getElem?_eq_some_iff.1 HNt.out).1).trans HNt.out)) (fun hHeld2 => ?_)
          clear hK K hHeld
          have hHeld := hHeld2
          clear hHeld2
          try simp only [Act.put, List.setIfInBounds_toArray, List.set_cons_zero, List.set_cons_succ]
          refine wpAnyH_take (i := 11) (v := .bool true) rfl (by kernel_rfl) (by kernel_rfl) (by kernel_rfl) (fun _ _ _ h => h) (Or.inl ⟨by kernel_rfl, ?_⟩) hHeld ?_
          · intro W hSw
            go_simp
          show wpAnyH _ _ _ _ _ _ _ (Act.put _ (some 10) _) _
          simp only [Act.put, List.setIfInBounds_toArray, List.set_cons_zero, List.set_cons_succ]
          refine wpAnyH_done (by kernel_rfl) ?_ _
          go_wp2
          go_ret
          exact ⟨by first | rfl | simp, HBw.out.trans (HBv.out.mono HBw.out.size)⟩
end Go.Proofs.Ytjjepgkcgbbmhab

