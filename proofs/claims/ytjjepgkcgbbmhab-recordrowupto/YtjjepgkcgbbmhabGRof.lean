import Derived.Test.YtjjepgkcgbbmhabGSrw
import Derived.Test.YtjjepgkcgbbmhabGBkn
import Derived.Test.YtjjepgkcgbbmhabGCleq
import Derived.Deep.RegionHeld3
namespace Go.Proofs.Ytjjepgkcgbbmhab
open Go.RowKit Go.Maps
set_option maxRecDepth 20000
set_option linter.unusedVariables false
set_option linter.unusedSimpArgs false

set_option maxHeartbeats 4000000 in
theorem loc_eq (e0 e1 e2 e3 e4 e5 e6 e7 : Int) (e8 e9 : ByteArray) (W : World) :
    (Op.equalIn 10000 30 (.agg #[.int .i64 e0, .int .i64 e1, .int .i64 e2, .int .i64 e3, .int .i64 e4, .int .u32 e5, .int .i64 e6, .int .i64 e7, .string e8, .string e9]) (.agg #[.int .i64 e0, .int .i64 e1, .int .i64 e2, .int .i64 e3, .int .i64 e4, .int .u32 e5, .int .i64 e6, .int .i64 e7, .string e8, .string e9])).run Try.prog W = .ok true W := by
  go_simp

set_option maxHeartbeats 4000000 in
theorem enr_eq (e0 e1 e2 e3 e4 e5 : Int) (e6 : ByteArray) (W : World) :
    (Op.equalIn 10000 24 (.agg #[.int .i64 e0, .int .i64 e1, .int .i64 e2, .int .i64 e3, .int .i64 e4, .int .i64 e5, .string e6]) (.agg #[.int .i64 e0, .int .i64 e1, .int .i64 e2, .int .i64 e3, .int .i64 e4, .int .i64 e5, .string e6])).run Try.prog W = .ok true W := by
  go_simp

theorem eqL (l : Loc) (W : World) : (Op.equalIn 10000 30 (.agg l.cs) (.agg l.cs)).run Try.prog W = .ok true W := loc_eq _ _ _ _ _ _ _ _ _ _ W
theorem eqC (l : Cen) (W : World) : (Op.equalIn 10000 40 (.agg l.cs) (.agg l.cs)).run Try.prog W = .ok true W := cen_eq _ _ _ _ _ _ _ _ _ _ _ _ _ _ _ _ W
theorem eqE (l : Enr) (W : World) : (Op.equalIn 10000 24 (.agg l.cs) (.agg l.cs)).run Try.prog W = .ok true W := enr_eq _ _ _ _ _ _ _ W

theorem range_box {w : World} {g : Nat} {A : Array Value} {t : TypeId} (h : w.heap[g]? = some (.cells A t (0, 0))) : w.rangeAt g 0 A.toList := by
  intro j u hu
  rw [Nat.zero_add]
  simp only [World.cell?, h]
  simpa using hu

set_option maxHeartbeats 8000000 in
theorem readOff_any (v : Value) (D b : List Int) (k : Nat) (ls : List Loc) (cs : List Cen) (x : Enr) (vl vc : Value) (w : World) (h : SB w v D) (hB : Byt D) (hd : D.length ≤ 140737488351232) (hk : k ≤ D.length)
    (hD : D.drop k = rowsL ls ++ (rowsC cs ++ (rowI (enI x) ++ b))) (hl : SR 10 w vl (ls.map Loc.cs)) (hc : SR 16 w vc (cs.map Cen.cs)) (fl : ∀ l ∈ ls, fitI (loI l)) (fc : ∀ c ∈ cs, fitI (ceI c)) (fx : fitI (enI x)) (e : Nat) (he : e = k + (rowsL ls).length + (rowsC cs).length + (rowI (enI x)).length) :
    Calls Try.prog 28 #[v, .int .i64 (k : Int), .int .i64 (e : Int), vl, vc, x.v] w fun r w' => r = .returned (.bool true) ∧ Below w.heap.size w w' := by
  have HS := hide h
  have HBy := hide hB
  have HDl := hide hd
  have HDl2 : Hid (D.length ≤ 140737488355328) := Nat.le_trans hd (by omega)
  have HL := hide hl
  have HC := hide hc
  have HFL := hide fl
  have HFC := hide fc
  have HFX := hide fx
  obtain ⟨ao, cap, rfl, q1, q2, q3⟩ := h.open11
  obtain ⟨la, lcap, rfl, l1, l2⟩ := hl.open
  obtain ⟨ca, ccap, rfl, c1, c2⟩ := hc.open
  rw [List.length_map] at l1 c1
  have ell : (ls.map Loc.cs).length = ls.length := List.length_map ..
  have elc : (cs.map Cen.cs).length = cs.length := List.length_map ..
  rw [ell] at HL ⊢
  rw [elc] at HC ⊢
  obtain ⟨XA, hXA⟩ : ∃ A, A = x.cs := ⟨_, rfl⟩
  have HXV : Hid (x.v = .agg XA) := by show _ = _; rw [hXA]; rfl
  have HXS : Hid (XA.size = 7) := by rw [hXA]; exact rsE x
  have HXE : Hid (XA = x.cs) := hXA
  rw [HXV.out]
  obtain ⟨w1, hw1⟩ : ∃ y, w.alloc (.cells XA 24) = y := ⟨_, rfl⟩
  have HB1 : Hid (Below w.heap.size w w1) := by rw [← hw1]; exact (Below.refl _ _).alloc (Nat.le_refl _) _
  have HNX : Hid (w1.heap[w.heap.size]? = some (.cells XA 24 (0, 0))) := by rw [← hw1]; exact heap_alloc_new w _
  have HBw1 := HB1
  have HRL1 : Hid (SR 10 w1 (.slice la ls.length lcap) (ls.map Loc.cs)) := HL.out.low HB1.out
  have HD := hide hD
  have HK := hide hk
  have HEE := hide he
  clear h hB hd hl hc fl fc fx q3 hXA hD hk he ell elc
  go_enter Try.func28, Try.ntmps28
  go_wp2_with fail
  clear hw1
  go_loopw [1, 13, 14, 15, 16] (fun a i _ _ _ wr => ∃ (j q : Nat), a = .int .i64 (q : Int) ∧ i = .int .i64 (j : Int) ∧ j ≤ ls.length ∧ q ≤ D.length ∧ Hid (q = k + (rowsL (ls.take j)).length ∧ D.drop q = rowsL (ls.drop j) ++ (rowsC cs ++ (rowI (enI x) ++ b))) ∧ Hid (Below w1.heap.size w1 wr)) (fun _ i _ _ _ _ => ls.length - (intOf i).toNat)
  case atStart => exact ⟨0, k, rfl, rfl, Nat.zero_le _, HK.out, ⟨by simp [rowsL], by simpa using HD.out⟩, Below.refl _ _⟩
  case round =>
    obtain ⟨j, q, rfl, rfl, hj, hq, HR, HBr⟩ := hrel
    by_cases hlt : j < ls.length
    · have hlt' : (j : Int) < (ls.length : Int) := by omega
      have hr := rowsL_drop hlt
      have hD2 : D.drop q = rowI (loI (ls.getD j z0L)) ++ (rowsL (ls.drop (j + 1)) ++ (rowsC cs ++ (rowI (enI x) ++ b))) := by rw [HR.out.2, hr, List.append_assoc]
      obtain ⟨b1, b2, b3⟩ := lo_back hq hD2 (HFL.out _ (memL hlt))
      have hlen : q + (rowI (loI (ls.getD j z0L))).length ≤ D.length := by
        have := congrArg List.length hD2
        rw [List.length_drop, List.length_append] at this
        omega
      obtain ⟨q2, hq2⟩ : ∃ q2, q2 = q + (rowI (loI (ls.getD j z0L))).length := ⟨_, rfl⟩
      have HP : Hid (loP D q = (q2 : Int)) := by show _ = _; rw [b3]; omega
      have HE := hide b1
      obtain ⟨A, hA⟩ : ∃ A, A = (ls.getD j z0L).cs := ⟨_, rfl⟩
      have HAV : Hid ((loA D q).v = .agg A) := by show _ = _; rw [b2, hA]; rfl
      have HSA : Hid (A.size = 10) := by rw [hA]; exact rsL _
      have HOA : Hid (A.all (·.oneCell') = true) := by rw [hA]; exact roL _
      have HEQ : Hid (∀ W, (Op.equalIn 10000 30 (.agg A) (.agg A)).run Try.prog W = .ok true W) := by rw [hA]; exact eqL _
      have HQ2 : Hid (q2 ≤ D.length ∧ q2 = k + (rowsL (ls.take (j + 1))).length ∧ D.drop q2 = rowsL (ls.drop (j + 1)) ++ (rowsC cs ++ (rowI (enI x) ++ b))) := by
        refine ⟨by omega, ?_, ?_⟩
        · rw [rowsL_take hlt, List.length_append, hq2]
          have := HR.out.1
          omega
        · rw [hq2, ← List.drop_drop, hD2, List.drop_left' rfl]
      obtain ⟨b0, o0, hla, hrg⟩ := SR.row (HRL1.out.low HBr.out) (i := j) (by rw [List.length_map]; exact hlt)
      rw [csL_get hlt, ← hA] at hrg
      have HLA := hide hla
      have HRG := hide hrg
      clear hr hD2 b1 b2 b3 hlen hA hq2 hrg
      go_wp2_with fail
      refine (getLocal_any _ D (q : Int) wr (SB.below (SB.below HS.out HBw1.out) HBr.out) HBy.out (by unfold Ok64; have := HDl.out; omega) HDl2.out).mono ?_
      rintro e wg ⟨rfl, hb⟩
      rw [HAV.out, HP.out, HE.out]
      have HBg := hide (HBr.out.trans (hb.mono HBr.out.size))
      have HZ : Hid ((wg.alloc (.cells #[.int .i64 0, .int .i64 0, .int .i64 0, .int .i64 0, .int .i64 0, .int .u32 0, .int .i64 0, .int .i64 0, .string ⟨#[]⟩, .string ⟨#[]⟩] 30)).heap[wg.heap.size]? = some (.cells #[.int .i64 0, .int .i64 0, .int .i64 0, .int .i64 0, .int .i64 0, .int .u32 0, .int .i64 0, .int .i64 0, .string ⟨#[]⟩, .string ⟨#[]⟩] 30 (0, 0))) := heap_alloc_new _ _
      obtain ⟨ws, hws⟩ : ∃ y, wg.alloc (.cells A 30) = y := ⟨_, rfl⟩
      have HBs : Hid (Below w1.heap.size w1 ws) := by rw [← hws]; exact HBg.out.alloc HBg.out.size _
      have HSS : Hid (ws.rangeAt wg.heap.size 0 A.toList ∧ ws.rangeAt b0 (o0 + j * 10) A.toList) := by
        refine ⟨by rw [← hws]; exact range_box (heap_alloc_new _ _), ?_⟩
        rw [← hws]
        refine World.rangeAt_alloc ?_ _
        intro i u hu
        have hc0 := HRG.out i u hu
        rw [hb.cell (World.block_lt_of_cell? _ _ hc0)]
        exact hc0
      have HW3 : Hid ((wg.alloc (.cells #[.int .i64 0, .int .i64 0, .int .i64 0, .int .i64 0, .int .i64 0, .int .u32 0, .int .i64 0, .int .i64 0, .string ⟨#[]⟩, .string ⟨#[]⟩] 30)).setRow wg.heap.size A = ws) := by show _ = _; rw [World.setRow_alloc_new]; exact hws
      clear hb hws
      go_wp2_with ((with_reducible refine wpList_stL wg.heap.size A #[.int .i64 0, .int .i64 0, .int .i64 0, .int .i64 0, .int .i64 0, .int .u32 0, .int .i64 0, .int .i64 0, .string ⟨#[]⟩, .string ⟨#[]⟩] HSA.out rfl HOA.out ?hx ?hy HZ.out ?_); (case hx => rfl); (case hy => rfl); rw [HW3.out])
      have heq := HEQ.out
      have hla2 := HLA.out
      subst hla2
      refine wp_region_held_drew (S := fun W => W.rangeAt wg.heap.size 0 A.toList ∧ W.rangeAt b0 (o0 + j * 10) A.toList) (by kernel_rfl) ⟨HSS.out.1, HSS.out.2⟩ (fun hHeld => ?_)
      refine wpAnyH_take (i := 0) (v := .int .i64 0) rfl (by kernel_rfl) (by kernel_rfl) (by kernel_rfl) (fun _ _ _ h => h) (Or.inl ⟨by kernel_rfl, ?_⟩) hHeld ?_
      · intro W hSw
        go_simp
      show wpAnyH _ _ _ _ _ _ _ (Act.put _ (some 37) _) _
      simp only [Act.put, List.setIfInBounds_toArray, List.set_cons_zero, List.set_cons_succ]
      refine wpAnyH_take (i := 1) (v := .bool false) rfl (by kernel_rfl) (by kernel_rfl) (by kernel_rfl) (fun _ _ _ h => h) (Or.inl ⟨by kernel_rfl, ?_⟩) hHeld ?_
      · intro W hSw
        go_simp
      show wpAnyH _ _ _ _ _ _ _ (Act.put _ (some 38) _) _
      simp only [Act.put, List.setIfInBounds_toArray, List.set_cons_zero, List.set_cons_succ]
      refine wpAnyH_take (i := 2) (v := .bool false) rfl (by kernel_rfl) (by kernel_rfl) (by kernel_rfl) (fun _ _ _ h => h) (Or.inl ⟨by kernel_rfl, ?_⟩) hHeld ?_
      · intro W hSw
        go_simp
      show wpAnyH _ _ _ _ _ _ _ (Act.put _ (some 39) _) _
      simp only [Act.put, List.setIfInBounds_toArray, List.set_cons_zero, List.set_cons_succ]
      refine wpAnyH_take (i := 3) (v := .agg A.toList.toArray) rfl (by kernel_rfl) (by kernel_rfl) (by kernel_rfl) (fun _ _ _ h => h) (yieldsIf_load_mid (by kernel_rfl) 30 _ rfl wg.heap.size 0 rfl A.toList _ (fun W hW => hW.1) Try.underlying30 rfl (by rw [Array.length_toList, HSA.out]; exact rzL)) hHeld ?_
      show wpAnyH _ _ _ _ _ _ _ (Act.put _ (some 40) _) _
      simp only [Act.put, List.setIfInBounds_toArray, List.set_cons_zero, List.set_cons_succ]
      refine wpAnyH_take (i := 4) (v := .slice (some ⟨b0, o0, none⟩) ls.length lcap) rfl (by kernel_rfl) (by kernel_rfl) (by kernel_rfl) (fun _ _ _ h => h) (Or.inl ⟨by kernel_rfl, ?_⟩) hHeld ?_
      · intro W hSw
        go_simp
      show wpAnyH _ _ _ _ _ _ _ (Act.put _ (some 41) _) _
      simp only [Act.put, List.setIfInBounds_toArray, List.set_cons_zero, List.set_cons_succ]
      refine wpAnyH_take (i := 5) (v := .int .i64 (j : Int)) rfl (by kernel_rfl) (by kernel_rfl) (by kernel_rfl) (fun _ _ _ h => h) (Or.inl ⟨by kernel_rfl, ?_⟩) hHeld ?_
      · intro W hSw
        go_simp
      show wpAnyH _ _ _ _ _ _ _ (Act.put _ (some 42) _) _
      simp only [Act.put, List.setIfInBounds_toArray, List.set_cons_zero, List.set_cons_succ]
      refine wpAnyH_take (i := 6) (v := .pointer (some ⟨b0, o0 + j * 10, none⟩)) rfl (by kernel_rfl) (by kernel_rfl) (by kernel_rfl) (fun _ _ _ h => h) (Or.inl ⟨by kernel_rfl, ?_⟩) hHeld ?_
      · intro W hSw
        go_simp
      show wpAnyH _ _ _ _ _ _ _ (Act.put _ (some 43) _) _
      simp only [Act.put, List.setIfInBounds_toArray, List.set_cons_zero, List.set_cons_succ]
      refine wpAnyH_take (i := 7) (v := .agg A.toList.toArray) rfl (by kernel_rfl) (by kernel_rfl) (by kernel_rfl) (fun _ _ _ h => h) (yieldsIf_load_mid (by kernel_rfl) 30 _ rfl b0 (o0 + j * 10) rfl A.toList _ (fun W hW => hW.2) Try.underlying30 rfl (by rw [Array.length_toList, HSA.out]; exact rzL)) hHeld ?_
      show wpAnyH _ _ _ _ _ _ _ (Act.put _ (some 44) _) _
      simp only [Act.put, List.setIfInBounds_toArray, List.set_cons_zero, List.set_cons_succ]
      refine wpAnyH_take (i := 8) (v := .bool false) rfl (by kernel_rfl) (by kernel_rfl) (by kernel_rfl) (fun _ _ _ h => h) (Or.inl ⟨by kernel_rfl, ?_⟩) hHeld ?_
      · intro W hSw
        go_simp
      show wpAnyH _ _ _ _ _ _ _ (Act.put _ (some 45) _) _
      simp only [Act.put, List.setIfInBounds_toArray, List.set_cons_zero, List.set_cons_succ]
      refine wpAnyH_take (i := 9) (v := .bool false) rfl (by kernel_rfl) (by kernel_rfl) (by kernel_rfl) (fun _ _ _ h => h) (Or.inl ⟨by kernel_rfl, ?_⟩) hHeld ?_
      · intro W hSw
        go_simp
      show wpAnyH _ _ _ _ _ _ _ (Act.put _ (some 46) _) _
      simp only [Act.put, List.setIfInBounds_toArray, List.set_cons_zero, List.set_cons_succ]
      refine wpAnyH_done (by kernel_rfl) ?_ _
      clear heq
      go_wp2
      go_roundw
      case rel => exact ⟨j + 1, q2, rfl, by go_num, by omega, HQ2.out.1, ⟨HQ2.out.2.1, HQ2.out.2.2⟩, HBs.out.drew⟩
      case measure => simp [intOf]; omega
    · have hje : j = ls.length := by omega
      subst hje
      have HBw : Hid (Below w.heap.size w wr) := HB1.out.trans (HBr.out.mono HB1.out.size)
      have HQQ : Hid (q = k + (rowsL ls).length ∧ D.drop q = rowsC cs ++ (rowI (enI x) ++ b)) := by
        have h1 := HR.out.1
        have h2 := HR.out.2
        rw [List.take_length] at h1
        rw [List.drop_length] at h2
        exact ⟨h1, by simpa [rowsL] using h2⟩
      have HNXr := hide ((HBr.out.block _ (Array.getElem?_eq_some_iff.1 HNX.out).1).trans HNX.out)
      have HRC5 : Hid (SR 16 wr (.slice ca cs.length ccap) (cs.map Cen.cs)) := HC.out.low HBw.out
      clear hlt HR hj HNX HB1
      obtain ⟨w5, hw5⟩ : ∃ y, y = wr := ⟨_, rfl⟩
      subst hw5
      have HBw5 := HBw
      go_wp2
      obtain ⟨q0, hq0⟩ : ∃ y, y = q := ⟨_, rfl⟩
      subst hq0
      go_loopw [1, 17, 18, 19, 20] (fun a i _ _ _ wr => ∃ (j q : Nat), a = .int .i64 (q : Int) ∧ i = .int .i64 (j : Int) ∧ j ≤ cs.length ∧ q ≤ D.length ∧ Hid (q = q0 + (rowsC (cs.take j)).length ∧ D.drop q = rowsC (cs.drop j) ++ (rowI (enI x) ++ b)) ∧ Hid (Below w5.heap.size w5 wr)) (fun _ i _ _ _ _ => cs.length - (intOf i).toNat)
      case atStart => exact ⟨0, q0, rfl, rfl, Nat.zero_le _, hq, ⟨by simp [rowsC], by simpa using HQQ.out.2⟩, Below.refl _ _⟩
      case round =>
        obtain ⟨j, q, rfl, rfl, hj, hq, HR, HBr⟩ := hrel
        by_cases hlt : j < cs.length
        · have hlt' : (j : Int) < (cs.length : Int) := by omega
          have hr := rowsC_drop hlt
          have hD2 : D.drop q = rowI (ceI (cs.getD j z0C)) ++ (rowsC (cs.drop (j + 1)) ++ (rowI (enI x) ++ b)) := by rw [HR.out.2, hr, List.append_assoc]
          obtain ⟨b1, b2, b3⟩ := ce_back hq hD2 (HFC.out _ (memC hlt))
          have hlen : q + (rowI (ceI (cs.getD j z0C))).length ≤ D.length := by
            have := congrArg List.length hD2
            rw [List.length_drop, List.length_append] at this
            omega
          obtain ⟨q2, hq2⟩ : ∃ q2, q2 = q + (rowI (ceI (cs.getD j z0C))).length := ⟨_, rfl⟩
          have HP : Hid (ceP D q = (q2 : Int)) := by show _ = _; rw [b3]; omega
          have HE := hide b1
          obtain ⟨A, hA⟩ : ∃ A, A = (cs.getD j z0C).cs := ⟨_, rfl⟩
          have HAV : Hid ((ceA D q).v = .agg A) := by show _ = _; rw [b2, hA]; rfl
          have HSA : Hid (A.size = 16) := by rw [hA]; exact rsC _
          have HOA : Hid (A.all (·.oneCell') = true) := by rw [hA]; exact roC _
          have HEQ : Hid (∀ W, (Op.equalIn 10000 40 (.agg A) (.agg A)).run Try.prog W = .ok true W) := by rw [hA]; exact eqC _
          have HQ2 : Hid (q2 ≤ D.length ∧ q2 = q0 + (rowsC (cs.take (j + 1))).length ∧ D.drop q2 = rowsC (cs.drop (j + 1)) ++ (rowI (enI x) ++ b)) := by
            refine ⟨by omega, ?_, ?_⟩
            · rw [rowsC_take hlt, List.length_append, hq2]
              have := HR.out.1
              omega
            · rw [hq2, ← List.drop_drop, hD2, List.drop_left' rfl]
          obtain ⟨b0, o0, hla, hrg⟩ := SR.row (HRC5.out.low HBr.out) (i := j) (by rw [List.length_map]; exact hlt)
          rw [csC_get hlt, ← hA] at hrg
          have HLA := hide hla
          have HRG := hide hrg
          clear hr hD2 b1 b2 b3 hlen hA hq2 hrg
          go_wp2_with fail
          refine (getCentral_any _ D (q : Int) wr (SB.below (SB.below HS.out HBw5.out) HBr.out) HBy.out (by unfold Ok64; have := HDl.out; omega) HDl2.out).mono ?_
          rintro e wg ⟨rfl, hb⟩
          rw [HAV.out, HP.out, HE.out]
          have HBg := hide (HBr.out.trans (hb.mono HBr.out.size))
          have HZ : Hid ((wg.alloc (.cells #[.int .i64 0, .int .i64 0, .int .i64 0, .int .i64 0, .int .i64 0, .int .u32 0, .int .i64 0, .int .i64 0, .string ⟨#[]⟩, .string ⟨#[]⟩, .int .i64 0, .int .i64 0, .int .i64 0, .int .i64 0, .int .i64 0, .string ⟨#[]⟩] 40)).heap[wg.heap.size]? = some (.cells #[.int .i64 0, .int .i64 0, .int .i64 0, .int .i64 0, .int .i64 0, .int .u32 0, .int .i64 0, .int .i64 0, .string ⟨#[]⟩, .string ⟨#[]⟩, .int .i64 0, .int .i64 0, .int .i64 0, .int .i64 0, .int .i64 0, .string ⟨#[]⟩] 40 (0, 0))) := heap_alloc_new _ _
          obtain ⟨ws, hws⟩ : ∃ y, wg.alloc (.cells A 40) = y := ⟨_, rfl⟩
          have HBs : Hid (Below w5.heap.size w5 ws) := by rw [← hws]; exact HBg.out.alloc HBg.out.size _
          have HSS : Hid (ws.rangeAt wg.heap.size 0 A.toList ∧ ws.rangeAt b0 (o0 + j * 16) A.toList) := by
            refine ⟨by rw [← hws]; exact range_box (heap_alloc_new _ _), ?_⟩
            rw [← hws]
            refine World.rangeAt_alloc ?_ _
            intro i u hu
            have hc0 := HRG.out i u hu
            rw [hb.cell (World.block_lt_of_cell? _ _ hc0)]
            exact hc0
          have HW3 : Hid ((wg.alloc (.cells #[.int .i64 0, .int .i64 0, .int .i64 0, .int .i64 0, .int .i64 0, .int .u32 0, .int .i64 0, .int .i64 0, .string ⟨#[]⟩, .string ⟨#[]⟩, .int .i64 0, .int .i64 0, .int .i64 0, .int .i64 0, .int .i64 0, .string ⟨#[]⟩] 40)).setRow wg.heap.size A = ws) := by show _ = _; rw [World.setRow_alloc_new]; exact hws
          clear hb hws
          go_wp2_with ((with_reducible refine wpList_stC wg.heap.size A #[.int .i64 0, .int .i64 0, .int .i64 0, .int .i64 0, .int .i64 0, .int .u32 0, .int .i64 0, .int .i64 0, .string ⟨#[]⟩, .string ⟨#[]⟩, .int .i64 0, .int .i64 0, .int .i64 0, .int .i64 0, .int .i64 0, .string ⟨#[]⟩] HSA.out rfl HOA.out ?hx ?hy HZ.out ?_); (case hx => rfl); (case hy => rfl); rw [HW3.out])
          have heq := HEQ.out
          have hla2 := HLA.out
          subst hla2
          refine wp_region_held_drew (S := fun W => W.rangeAt wg.heap.size 0 A.toList ∧ W.rangeAt b0 (o0 + j * 16) A.toList) (by kernel_rfl) ⟨HSS.out.1, HSS.out.2⟩ (fun hHeld => ?_)
          refine wpAnyH_take (i := 0) (v := .int .i64 0) rfl (by kernel_rfl) (by kernel_rfl) (by kernel_rfl) (fun _ _ _ h => h) (Or.inl ⟨by kernel_rfl, ?_⟩) hHeld ?_
          · intro W hSw
            go_simp
          show wpAnyH _ _ _ _ _ _ _ (Act.put _ (some 61) _) _
          simp only [Act.put, List.setIfInBounds_toArray, List.set_cons_zero, List.set_cons_succ]
          refine wpAnyH_take (i := 1) (v := .bool false) rfl (by kernel_rfl) (by kernel_rfl) (by kernel_rfl) (fun _ _ _ h => h) (Or.inl ⟨by kernel_rfl, ?_⟩) hHeld ?_
          · intro W hSw
            go_simp
          show wpAnyH _ _ _ _ _ _ _ (Act.put _ (some 62) _) _
          simp only [Act.put, List.setIfInBounds_toArray, List.set_cons_zero, List.set_cons_succ]
          refine wpAnyH_take (i := 2) (v := .bool false) rfl (by kernel_rfl) (by kernel_rfl) (by kernel_rfl) (fun _ _ _ h => h) (Or.inl ⟨by kernel_rfl, ?_⟩) hHeld ?_
          · intro W hSw
            go_simp
          show wpAnyH _ _ _ _ _ _ _ (Act.put _ (some 63) _) _
          simp only [Act.put, List.setIfInBounds_toArray, List.set_cons_zero, List.set_cons_succ]
          refine wpAnyH_take (i := 3) (v := .agg A.toList.toArray) rfl (by kernel_rfl) (by kernel_rfl) (by kernel_rfl) (fun _ _ _ h => h) (yieldsIf_load_mid (by kernel_rfl) 40 _ rfl wg.heap.size 0 rfl A.toList _ (fun W hW => hW.1) Try.underlying40 rfl (by rw [Array.length_toList, HSA.out]; exact rzC)) hHeld ?_
          show wpAnyH _ _ _ _ _ _ _ (Act.put _ (some 64) _) _
          simp only [Act.put, List.setIfInBounds_toArray, List.set_cons_zero, List.set_cons_succ]
          refine wpAnyH_take (i := 4) (v := .slice (some ⟨b0, o0, none⟩) cs.length ccap) rfl (by kernel_rfl) (by kernel_rfl) (by kernel_rfl) (fun _ _ _ h => h) (Or.inl ⟨by kernel_rfl, ?_⟩) hHeld ?_
          · intro W hSw
            go_simp
          show wpAnyH _ _ _ _ _ _ _ (Act.put _ (some 65) _) _
          simp only [Act.put, List.setIfInBounds_toArray, List.set_cons_zero, List.set_cons_succ]
          refine wpAnyH_take (i := 5) (v := .int .i64 (j : Int)) rfl (by kernel_rfl) (by kernel_rfl) (by kernel_rfl) (fun _ _ _ h => h) (Or.inl ⟨by kernel_rfl, ?_⟩) hHeld ?_
          · intro W hSw
            go_simp
          show wpAnyH _ _ _ _ _ _ _ (Act.put _ (some 66) _) _
          simp only [Act.put, List.setIfInBounds_toArray, List.set_cons_zero, List.set_cons_succ]
          refine wpAnyH_take (i := 6) (v := .pointer (some ⟨b0, o0 + j * 16, none⟩)) rfl (by kernel_rfl) (by kernel_rfl) (by kernel_rfl) (fun _ _ _ h => h) (Or.inl ⟨by kernel_rfl, ?_⟩) hHeld ?_
          · intro W hSw
            go_simp
          show wpAnyH _ _ _ _ _ _ _ (Act.put _ (some 67) _) _
          simp only [Act.put, List.setIfInBounds_toArray, List.set_cons_zero, List.set_cons_succ]
          refine wpAnyH_take (i := 7) (v := .agg A.toList.toArray) rfl (by kernel_rfl) (by kernel_rfl) (by kernel_rfl) (fun _ _ _ h => h) (yieldsIf_load_mid (by kernel_rfl) 40 _ rfl b0 (o0 + j * 16) rfl A.toList _ (fun W hW => hW.2) Try.underlying40 rfl (by rw [Array.length_toList, HSA.out]; exact rzC)) hHeld ?_
          show wpAnyH _ _ _ _ _ _ _ (Act.put _ (some 68) _) _
          simp only [Act.put, List.setIfInBounds_toArray, List.set_cons_zero, List.set_cons_succ]
          refine wpAnyH_take (i := 8) (v := .bool false) rfl (by kernel_rfl) (by kernel_rfl) (by kernel_rfl) (fun _ _ _ h => h) (Or.inl ⟨by kernel_rfl, ?_⟩) hHeld ?_
          · intro W hSw
            go_simp
          show wpAnyH _ _ _ _ _ _ _ (Act.put _ (some 69) _) _
          simp only [Act.put, List.setIfInBounds_toArray, List.set_cons_zero, List.set_cons_succ]
          refine wpAnyH_take (i := 9) (v := .bool false) rfl (by kernel_rfl) (by kernel_rfl) (by kernel_rfl) (fun _ _ _ h => h) (Or.inl ⟨by kernel_rfl, ?_⟩) hHeld ?_
          · intro W hSw
            go_simp
          show wpAnyH _ _ _ _ _ _ _ (Act.put _ (some 70) _) _
          simp only [Act.put, List.setIfInBounds_toArray, List.set_cons_zero, List.set_cons_succ]
          refine wpAnyH_done (by kernel_rfl) ?_ _
          clear heq
          go_wp2
          go_roundw
          case rel => exact ⟨j + 1, q2, rfl, by go_num, by omega, HQ2.out.1, ⟨HQ2.out.2.1, HQ2.out.2.2⟩, HBs.out.drew⟩
          case measure => simp [intOf]; omega
        · have hje : j = cs.length := by omega
          subst hje
          have hq5 : q ≤ D.length := hq
          have hq9 : q = q0 + (rowsC cs).length ∧ D.drop q = rowI (enI x) ++ b := by
            have h1 := HR.out.1
            have h2 := HR.out.2
            rw [List.take_length] at h1
            rw [List.drop_length] at h2
            exact ⟨h1, by simpa [rowsC] using h2⟩
          obtain ⟨b1, b2, b3⟩ := en_back hq5 hq9.2 HFX.out
          have HP : Hid (enP D q = (e : Int)) := by
            show _ = _
            rw [b3, HEE.out, hq9.1, HQQ.out.1]
            omega
          have HE := hide b1
          have HAV : Hid ((enA D q).v = .agg XA) := by show _ = _; rw [b2]; exact HXV.out
          have HOX : Hid (XA.all (·.oneCell') = true) := by rw [HXE.out]; exact roE x
          have HNX6 := hide ((HBr.out.block _ (Array.getElem?_eq_some_iff.1 HNXr.out).1).trans HNXr.out)
          have HB6 := hide (HBw.out.trans (HBr.out.mono HBw.out.size))
          clear b1 b2 b3 hq9 HR hlt hj
          go_wp2_with fail
          refine (getEnd_any _ D (q : Int) wr (SB.below HS.out HB6.out) HBy.out (by unfold Ok64; have := HDl.out; omega) HDl2.out).mono ?_
          rintro r wg ⟨rfl, hb⟩
          rw [HAV.out, HP.out, HE.out]
          have HBg := hide (HB6.out.trans (hb.mono HB6.out.size))
          have HZ : Hid ((wg.alloc (.cells #[.int .i64 0, .int .i64 0, .int .i64 0, .int .i64 0, .int .i64 0, .int .i64 0, .string ⟨#[]⟩] 24)).heap[wg.heap.size]? = some (.cells #[.int .i64 0, .int .i64 0, .int .i64 0, .int .i64 0, .int .i64 0, .int .i64 0, .string ⟨#[]⟩] 24 (0, 0))) := heap_alloc_new _ _
          obtain ⟨ws, hws⟩ : ∃ y, wg.alloc (.cells XA 24) = y := ⟨_, rfl⟩
          have HBs : Hid (Below w.heap.size w ws) := by rw [← hws]; exact HBg.out.alloc HBg.out.size _
          have n1 : ws.heap[wg.heap.size]? = some (.cells XA 24 (0, 0)) := by rw [← hws]; exact heap_alloc_new _ _
          have n0 := (hb.block _ (Array.getElem?_eq_some_iff.1 HNX6.out).1).trans HNX6.out
          have n2 : ws.heap[w.heap.size]? = some (.cells XA 24 (0, 0)) := by rw [← hws]; exact (Below.heap_alloc _ _ _ (Array.getElem?_eq_some_iff.1 n0).1).trans n0
          have HW3 : Hid ((wg.alloc (.cells #[.int .i64 0, .int .i64 0, .int .i64 0, .int .i64 0, .int .i64 0, .int .i64 0, .string ⟨#[]⟩] 24)).setRow wg.heap.size XA = ws) := by show _ = _; rw [World.setRow_alloc_new]; exact hws
          rw [show XA = #[.int .i64 x.disk, .int .i64 x.dirDisk, .int .i64 x.here, .int .i64 x.total, .int .i64 x.dirSize, .int .i64 x.dirAt, .string x.comment] from HXE.out] at n1 n2
          obtain ⟨d0, d1, d2, d3, d4, d5, d6⟩ := box7 n1
          obtain ⟨f0, f1, f2, f3, f4, f5, f6⟩ := box7 n2
          clear hb hws n0 n1 n2
          go_wp2_with ((with_reducible refine wpList_stE wg.heap.size XA #[.int .i64 0, .int .i64 0, .int .i64 0, .int .i64 0, .int .i64 0, .int .i64 0, .string ⟨#[]⟩] HXS.out rfl HOX.out ?hx ?hy HZ.out ?_); (case hx => rfl); (case hy => rfl); rw [HW3.out])
          go_ret
          exact ⟨by first | rfl | simp, HBs.out⟩
end Go.Proofs.Ytjjepgkcgbbmhab

