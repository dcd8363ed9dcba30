import Derived.Test.YtiabhmdefaabgabDoorGXlv
namespace Go.Proofs.YtiabhmdefaabgabDoor
open Go.RowKit Go.Maps
set_option maxRecDepth 20000
set_option linter.unusedVariables false
set_option linter.unusedSimpArgs false

theorem leafs_get (f : Nat → Nat) (T : List Nat) {i : Nat} (h : i < T.length) : (leafs f T).getD i nod0 = (f (T.getD i 0), [T.getD i 0]) := by
  simp [leafs, h]

set_option maxHeartbeats 4000000 in
theorem leaves_any (v : Value) (l : List Int) (w : World) (h : SI w v l) (hr : l.length ≤ 288) (hnn : ∀ i, 0 ≤ l.getD i 0) :
    Calls Tryd.prog 79 #[v] w fun e w' => ∃ v', e = .returned v' ∧ ∃ M, ON w' w.heap.size v' M ∧ mro M = leafs (fq l) (srl l) ∧ Below w.heap.size w w' := by
  have HS := hide h
  obtain ⟨ao, cap, rfl, hlc, hcm⟩ := h.open
  clear h
  have HNN := hide hnn
  clear hnn
  have hul := us_le6 (l := l)
  go_enter Tryd.func79, Tryd.ntmps79
  go_wp2_with fail
  refine (xused_any6 _ l _ HS.out hr).mono ?_
  rintro e w1 ⟨a1, c1, rfl, ho1, hb1⟩
  have HO1 := hide ho1
  have HB1 := hide hb1
  clear ho1 hb1
  have hB1 := HB1.out.size
  go_wp2
  go_loopw [4, 5] (fun u vi wr => ∃ (k : Nat) (M : List Mnd) (T : List Nat), k ≤ (us6 l).length ∧ vi = .int .i64 (k : Int) ∧ Hid (ON wr w.heap.size u M) ∧ Hid (mro M = leafs (fq l) T) ∧ Hid (Srt l ((us6 l).take k) T) ∧ Hid (Below w1.heap.size w1 wr)) (fun _ vi _ => (us6 l).length - (intOf vi).toNat)
  case atStart => exact ⟨0, [], [], Nat.zero_le _, rfl, ⟨World.ownsRow_nil _ _ _ _, fun p hp => by simp at hp⟩, rfl, ⟨by rw [List.take_zero], List.Pairwise.nil⟩, Below.refl _ _⟩
  case round =>
    obtain ⟨k, M, T, hk, rfl, HN, HM, HSR, HBW⟩ := hrel
    obtain ⟨au, pu, hu, _⟩ := HN.out.shape
    subst hu
    rename World => wo
    by_cases hlt : k < (us6 l).length
    · have hlt' : (k : Int) < ((us6 l).length : Int) := by omega
      have hTl : T.length = k := by
        have := HSR.out.perm.length_eq
        rw [List.length_take] at this
        omega
      have hMl : M.length = T.length := by rw [← mro_len, HM.out, leafs_len]
      have HTM : Hid (∀ i, i < M.length → (M.getD i mn0).1.1 = fq l (T.getD i 0)) := fun i hi => by
        rw [← mro_get, HM.out, leafs_get _ _ (by omega)]
      obtain ⟨g3, d3, hv3, hc3⟩ := HO1.out.form (by rw [ci_len]; omega)
      have hc30 := (HO1.out.below HBW.out (Nat.le_refl _)).get (b := g3) (by rw [hv3]; rfl) (i := k) (by rw [ci_len]; omega)
      rw [ci_get] at hc30
      have hsm := mem_us.1 (getD_mem6 hlt)
      have HPUT : Hid (∀ a, a ≤ T.length → (∀ t ∈ T.drop a, l.getD ((us6 l).getD k 0) 0 < l.getD t 0) → (a = 0 ∨ l.getD (T.getD (a - 1) 0) 0 ≤ l.getD ((us6 l).getD k 0) 0) → Srt l ((us6 l).take (k + 1)) (T.take a ++ (us6 l).getD k 0 :: T.drop a)) := fun a ha q1 q2 => srt_put hlt HSR.out ha q1 q2
      obtain ⟨s, HSE⟩ : ∃ s, Hid (s = (us6 l).getD k 0) := ⟨_, hide rfl⟩
      rw [← HSE.out] at hc30 hsm HPUT
      have HBo : Hid (Below w.heap.size w wo) := HB1.out.trans (HBW.out.mono hB1)
      obtain ⟨b, o, rfl, hcs⟩ := HS.out.get HBo.out (k := s) hsm.1
      have hcb : b < wo.heap.size := by
        have := hcs
        unfold World.cell? at this
        cases hx : wo.heap[b]? with
        | none => simp [hx] at this
        | some _ => exact (Array.getElem?_eq_some_iff.1 hx).1
      obtain ⟨f, HFE⟩ : ∃ f, Hid (f = fq l s) := ⟨_, hide rfl⟩
      have HFI : Hid (l.getD s 0 = (f : Int)) := by show _ = _; rw [HFE.out]; unfold fq; have := HNN.out s; omega
      rw [HFI.out] at hcs
      have hsl : (s : Int) < (l.length : Int) := by have := hsm.1; omega
      simp only [Value.slice.injEq] at hv3
      obtain ⟨rfl, -, rfl⟩ := hv3
      obtain ⟨m, hm⟩ : ∃ m, m = M.length := ⟨_, rfl⟩
      have hm' : M.length = m := hm.symm
      have HTLM : Hid (T.length = m) := by show _ = _; omega
      have hmk : m ≤ 288 := by omega
      rw [hm'] at HN HTM ⊢
      have HDR : Hid (∀ a, (∀ i, a ≤ i → i < m → f < (M.getD i mn0).1.1) → ∀ t ∈ T.drop a, l.getD s 0 < l.getD t 0) := fun a hg t ht => by
        obtain ⟨i, hi, rfl⟩ := List.getElem_of_mem ht
        rw [List.length_drop] at hi
        have hi2 : a + i < m := by have := HTLM.out; omega
        have e1 := hg (a + i) (by omega) hi2
        rw [HTM.out _ hi2] at e1
        have e2 : T.getD (a + i) 0 = (T.drop a)[i]'(by rw [List.length_drop]; omega) := by
          rw [List.getElem_drop, List.getD_eq_getElem?_getD, List.getElem?_eq_getElem (by omega)]
          rfl
        rw [e2] at e1
        rw [HFI.out]
        unfold fq at e1
        omega
      clear hm hMl hTl hsm hc3 HSR
      go_wp2
      go_loopw [7] (fun va wr => ∃ a : Nat, a ≤ m ∧ va = .int .i64 (a : Int) ∧ Hid (∃ q, wr = wo.drewN q) ∧ Hid (∀ i, a ≤ i → i < m → f < (M.getD i mn0).1.1)) (fun va _ => (intOf va).toNat)
      case atStart => exact ⟨m, Nat.le_refl _, rfl, ⟨0, rfl⟩, fun i h1 h2 => by omega⟩
      case round =>
        obtain ⟨a, ham, rfl, HQ, HGT⟩ := hrel
        by_cases ha0 : a = 0
        · subst ha0
          have HST : Hid (Srt l ((us6 l).take (k + 1)) (T.take 0 ++ s :: T.drop 0)) := HPUT.out 0 (Nat.zero_le _) (HDR.out 0 HGT.out) (.inl rfl)
          have HBQ : Hid (∀ n, Below wo.heap.size wo (wr.drewN n)) := fun n => by
            obtain ⟨q, hq⟩ := HQ.out
            rw [hq, World.drewN_drewN]
            exact below_drewN (Below.refl _ _) _
          go_wp2
          go_quiet (fail)
          go_wp2
          clear HQ HGT
          go_loopw [8, 9] (fun u vj wr => ∃ j : Nat, j ≤ 0 ∧ vj = .int .i64 (j : Int) ∧ Hid (ON wr wo.heap.size u (M.take j)) ∧ Hid (Below wo.heap.size wo wr)) (fun _ vj _ => 0 - (intOf vj).toNat)
          case atStart => exact ⟨0, Nat.zero_le _, rfl, ⟨by rw [List.take_zero]; exact World.ownsRow_nil _ _ _ _, fun p hp => by simp at hp⟩, HBQ.out _⟩
          case round =>
            clear HBQ
            obtain ⟨j, hja, rfl, HU, HB2⟩ := hrel
            have HONx := hide (HN.out.below HB2.out (Nat.le_refl _))
            by_cases hjt : j < 0
            · exact absurd hjt (Nat.not_lt_zero _)
            · have hje : j = 0 := by omega
              have hjt' : ¬ (j : Int) < (0 : Int) := by omega
              rw [hje] at HU
              obtain ⟨a8, p8, hu8, _⟩ := HU.out.shape
              subst hu8
              have hBz := HB2.out.size
              have hcs2 : wr.cell? ⟨b, o + s, none⟩ = some (.int .i64 (f : Int)) := by rw [HB2.out.cell hcb]; exact hcs
              have hTa : (M.take 0).length ≤ 1000 := by rw [List.length_take]; omega
              obtain ⟨D, HDD⟩ : ∃ D, Hid (D = M.take 0) := ⟨_, hide rfl⟩
              rw [← HDD.out] at HU hTa ⊢
              have HUa : Hid (ON (wr.alloc (.cells #[.int .i64 (s : Int)] 3)) wo.heap.size (.slice a8 D.length p8) D) := HU.out.alloc _
              have HHO := hide (one_oi wr (s : Int))
              go_wp2_with (at_builtin; refine wpNode rfl _ _ rfl wo.heap.size (.slice a8 D.length p8) D ((f, [s]), .slice (some ⟨wr.heap.size, 0, none⟩) 1 1) _ rfl HHO.out rfl HUa.out 1 (by simp [Act.eval]) (by omega) (by simp; omega) ?_)
              intro v9 w9 ho9 hg9
              obtain ⟨P, hP1, HP2⟩ : ∃ P : Mnd, P.1 = (f, [s]) ∧ Hid (ON w9 wo.heap.size v9 (D ++ [P])) := ⟨_, rfl, hide ho9⟩
              have HPP := hide hP1
              have HB9 := hide (grow_node (HB2.out.alloc (Nat.le_trans (Nat.le_refl _) hBz) _) (Nat.le_refl _) HUa.out hg9)
              clear ho9 hg9 hP1 HHO HUa HU HONx
              go_wp2
              go_loopw [8, 10] (fun u vj wr => ∃ j : Nat, j ≤ m ∧ 0 ≤ j ∧ vj = .int .i64 (j : Int) ∧ Hid (ON wr wo.heap.size u (D ++ [P] ++ (M.take j).drop 0)) ∧ Hid (Below wo.heap.size wo wr)) (fun _ vj _ => m - (intOf vj).toNat)
              case atStart => exact ⟨0, by omega, Nat.le_refl _, rfl, by rw [List.drop_of_length_le (by rw [List.length_take]; omega), List.append_nil]; exact HP2, HB9⟩
              case round =>
                clear HP2 HB9 HB2
                obtain ⟨j, hjm0, hja2, rfl, HU, HB2⟩ := hrel
                have HONx := hide (HN.out.below HB2.out (Nat.le_refl _))
                by_cases hjt : j < m
                · have hjt' : (j : Int) < (m : Int) := by omega
                  obtain ⟨gx, cx, hvx, x1, x2⟩ := HONx.out.get (i := j) (by rw [hm']; omega)
                  simp only [Value.slice.injEq] at hvx
                  obtain ⟨hvx1, -, hvx2⟩ := hvx
                  subst hvx2
                  first | subst hvx1 | (simp only [Option.some.injEq, Addr.mk.injEq, and_true] at hvx1; have hvx1' := hvx1.symm; clear hvx1; subst hvx1')
                  have hhx := HONx.out.holds _ (md_mem (show j < M.length by rw [hm']; omega))
                  obtain ⟨N, HPx⟩ : ∃ p, Hid (p = M.getD j mn0) := ⟨_, hide rfl⟩
                  rw [← HPx.out] at x1 x2 hhx
                  obtain ⟨⟨nw, nh⟩, nv⟩ := N
                  obtain ⟨an, cn, hqn⟩ := hhx.shape
                  have hqn' : nv = .slice an (ci nh).length cn := hqn
                  subst hqn'
                  obtain ⟨ln, hln⟩ : ∃ m, m = (ci nh).length := ⟨_, rfl⟩
                  rw [← hln] at x2 hhx HPx
                  have x1' : wr.cell? ⟨gx, j * 2, none⟩ = some (.int .i64 (nw : Int)) := x1
                  have x2' : wr.cell? ⟨gx, j * 2 + 1, none⟩ = some (.slice an ln cn) := x2
                  have HHn : Hid (OI wr 0 (.slice an ln cn) (ci nh)) := hhx
                  clear hhx hqn hln x1 x2
                  have HNX : Hid (D ++ [P] ++ (M.take (j + 1)).drop 0 = (D ++ [P] ++ (M.take j).drop 0) ++ [((nw, nh), .slice an ln cn)]) := by
                    show _ = _
                    rw [List.take_succ_eq_append_getElem (by omega), List.drop_append_of_le_length (by rw [List.length_take]; omega), HPx.out]
                    simp only [List.append_assoc]
                    congr 4
                    simp [show j < M.length by omega]
                  have hDl0 : (D ++ [P] ++ (M.take j).drop 0).length ≤ 10000 := by simp; omega
                  obtain ⟨E, HEE⟩ : ∃ E, Hid (E = D ++ [P] ++ (M.take j).drop 0) := ⟨_, hide rfl⟩
                  rw [← HEE.out] at HU HNX hDl0
                  have hDl : E.length ≤ 10000 := hDl0
                  obtain ⟨a8, p8, hu8, _⟩ := HU.out.shape
                  subst hu8
                  have hBz := HB2.out.size
                  go_wp2_with (at_builtin; refine wpNode rfl _ _ rfl wo.heap.size (.slice a8 E.length p8) E ((nw, nh), .slice an ln cn) _ rfl HHn.out rfl HU.out _ rfl (by omega) (by omega) ?_)
                  intro v9 w9 ho9 hg9
                  have HU9 : Hid (ON w9 wo.heap.size v9 (D ++ [P] ++ (M.take (j + 1)).drop 0)) := by rw [HNX.out]; exact ho9
                  have HB9 := hide (grow_node HB2.out (Nat.le_refl _) HU.out hg9)
                  clear ho9 hg9
                  go_wp2
                  go_roundw
                  case rel => exact ⟨j + 1, by omega, by omega, by go_num, HU9, HB9⟩
                  case measure => simp [intOf]; omega
                · have hje2 : j = m := by omega
                  have hjt' : ¬ (j : Int) < (m : Int) := by omega
                  have HFM : Hid (∃ M' T', ON wr w.heap.size u8 M' ∧ mro M' = leafs (fq l) T' ∧ Srt l ((us6 l).take (k + 1)) T') := by
                    refine ⟨D ++ [P] ++ M.drop 0, T.take 0 ++ s :: T.drop 0, ?_, ?_, HST.out⟩
                    · have := HU.out
                      rw [hje2, List.take_of_length_le (by omega)] at this
                      exact this.base HBo.out.size
                    · have e1 : mro (D ++ [P] ++ M.drop 0) = (mro M).take 0 ++ [P.1] ++ (mro M).drop 0 := by
                        rw [HDD.out]
                        simp [mro]
                      rw [e1, HM.out, HPP.out, HFE.out]
                      simp [leafs]
                  have HBZ : Hid (Below w1.heap.size w1 wr) := HBW.out.trans (HB2.out.mono HBW.out.size)
                  obtain ⟨a7, n7, p7, hu7⟩ : ∃ a n p, u8 = .slice a n p := by
                    obtain ⟨a, c, e, _⟩ := HU.out.shape
                    exact ⟨_, _, _, e⟩
                  subst hu7
                  clear HU HONx
                  go_wp2
                  go_roundw
                  case rel =>
                    obtain ⟨M', T', q1, q2, q3⟩ := HFM.out
                    exact ⟨k + 1, M', T', by omega, by go_num, q1, q2, q3, HBZ⟩
                  case measure => simp [intOf]; omega
        · obtain ⟨c, rfl⟩ : ∃ c, a = c + 1 := ⟨a - 1, by omega⟩
          have hc1 : (0 : Int) < (c : Int) + 1 := by omega
          have hwc : IntKind.i64.wrap ((c : Int) + 1 - 1) = (c : Int) := by rw [IntKind.wrap_i64]; omega
          have hcm1 : (c : Int) < (m : Int) := by omega
          have HONr : Hid (ON wr w.heap.size (.slice au m pu) M) := by
            obtain ⟨q, hq⟩ := HQ.out
            rw [hq]
            exact HN.out.drewN q
          have hcsr : wr.cell? ⟨b, o + s, none⟩ = some (.int .i64 (f : Int)) := by
            obtain ⟨q, hq⟩ := HQ.out
            rw [hq]
            exact hcs
          obtain ⟨gc, cc, hvc, y1, _⟩ := HONr.out.get (i := c) (by rw [hm']; omega)
          simp only [Value.slice.injEq] at hvc
          obtain ⟨rfl, -, rfl⟩ := hvc
          obtain ⟨y, HY⟩ : ∃ y, Hid (y = (M.getD c mn0).1.1) := ⟨_, hide rfl⟩
          rw [← HY.out] at y1
          by_cases hyf : f < y
          · have hyf' : (f : Int) < (y : Int) := by omega
            have HG2 : Hid (∀ i, c ≤ i → i < m → f < (M.getD i mn0).1.1) := fun i h1 h2 => by
              by_cases e : i = c
              · rw [e, ← HY.out]; exact hyf
              · exact HGT.out i (by omega) h2
            have HQN : Hid (∀ n, ∃ q, wr.drewN n = wo.drewN q) := fun n => by obtain ⟨q, hq⟩ := HQ.out; exact ⟨q + n, by rw [hq, World.drewN_drewN]⟩
            clear HGT HQ
            go_wp2
            go_quiet (fail)
            go_wp2
            go_roundw
            case rel => exact ⟨c, by omega, by go_num, HQN.out _, HG2⟩
            case measure => (simp [intOf]) <;> omega
          · have hyf' : ¬ (f : Int) < (y : Int) := by omega
            have HST : Hid (Srt l ((us6 l).take (k + 1)) (T.take (c + 1) ++ s :: T.drop (c + 1))) := HPUT.out (c + 1) (by rw [HTLM.out]; omega) (HDR.out (c + 1) HGT.out) (.inr (by
              have e := HTM.out c (by omega)
              rw [← HY.out] at e
              have h0 := HNN.out (T.getD c 0)
              rw [HFI.out, Nat.add_sub_cancel]
              unfold fq at e
              omega))
            have hcw : (((c + 1 : Nat) : Int)) = (c : Int) + 1 := by omega
            have HBQ : Hid (∀ n, Below wo.heap.size wo (wr.drewN n)) := fun n => by
              obtain ⟨q, hq⟩ := HQ.out
              rw [hq, World.drewN_drewN]
              exact below_drewN (Below.refl _ _) _
            go_wp2
            go_quiet (fail)
            go_wp2
            clear HQ HGT
            go_loopw [8, 9] (fun u vj wr => ∃ j : Nat, j ≤ (c + 1) ∧ vj = .int .i64 (j : Int) ∧ Hid (ON wr wo.heap.size u (M.take j)) ∧ Hid (Below wo.heap.size wo wr)) (fun _ vj _ => (c + 1) - (intOf vj).toNat)
            case atStart => exact ⟨0, Nat.zero_le _, rfl, ⟨by rw [List.take_zero]; exact World.ownsRow_nil _ _ _ _, fun p hp => by simp at hp⟩, HBQ.out _⟩
            case round =>
              clear HBQ
              obtain ⟨j, hja, rfl, HU, HB2⟩ := hrel
              have HONx := hide (HN.out.below HB2.out (Nat.le_refl _))
              by_cases hjt : j < (c + 1)
              · have hjt' : (j : Int) < ((c + 1) : Int) := by omega
                have hjm : (j : Int) < (m : Int) := by omega
                obtain ⟨gx, cx, hvx, x1, x2⟩ := HONx.out.get (i := j) (by rw [hm']; omega)
                simp only [Value.slice.injEq] at hvx
                obtain ⟨hvx1, -, hvx2⟩ := hvx
                subst hvx2
                first | subst hvx1 | (simp only [Option.some.injEq, Addr.mk.injEq, and_true] at hvx1; have hvx1' := hvx1.symm; clear hvx1; subst hvx1')
                have hhx := HONx.out.holds _ (md_mem (show j < M.length by rw [hm']; omega))
                obtain ⟨N, HPx⟩ : ∃ p, Hid (p = M.getD j mn0) := ⟨_, hide rfl⟩
                rw [← HPx.out] at x1 x2 hhx
                obtain ⟨⟨nw, nh⟩, nv⟩ := N
                obtain ⟨an, cn, hqn⟩ := hhx.shape
                have hqn' : nv = .slice an (ci nh).length cn := hqn
                subst hqn'
                obtain ⟨ln, hln⟩ : ∃ m, m = (ci nh).length := ⟨_, rfl⟩
                rw [← hln] at x2 hhx HPx
                have x1' : wr.cell? ⟨gx, j * 2, none⟩ = some (.int .i64 (nw : Int)) := x1
                have x2' : wr.cell? ⟨gx, j * 2 + 1, none⟩ = some (.slice an ln cn) := x2
                have HHn : Hid (OI wr 0 (.slice an ln cn) (ci nh)) := hhx
                clear hhx hqn hln x1 x2
                have HNX : Hid (M.take (j + 1) = M.take j ++ [((nw, nh), .slice an ln cn)]) := by
                  show _ = _
                  rw [List.take_succ_eq_append_getElem (by omega), HPx.out]
                  congr 2
                  simp [show j < M.length by omega]
                obtain ⟨D, HDD⟩ : ∃ D, Hid (D = M.take j) := ⟨_, hide rfl⟩
                have hDl : D.length ≤ 1000 := by rw [HDD.out, List.length_take]; omega
                rw [← HDD.out] at HU HNX
                obtain ⟨a8, p8, hu8, _⟩ := HU.out.shape
                subst hu8
                have hBz := HB2.out.size
                go_wp2_with (at_builtin; refine wpNode rfl _ _ rfl wo.heap.size (.slice a8 D.length p8) D ((nw, nh), .slice an ln cn) _ rfl HHn.out rfl HU.out _ rfl (by omega) (by omega) ?_)
                intro v9 w9 ho9 hg9
                have HU9 : Hid (ON w9 wo.heap.size v9 (M.take (j + 1))) := by rw [HNX.out]; exact ho9
                have HB9 := hide (grow_node HB2.out (Nat.le_refl _) HU.out hg9)
                clear ho9 hg9
                go_wp2
                go_roundw
                case rel => exact ⟨j + 1, by omega, by go_num, HU9, HB9⟩
                case measure => simp [intOf]; omega
              · have hje : j = (c + 1) := by omega
                have hjt' : ¬ (j : Int) < ((c + 1) : Int) := by omega
                rw [hje] at HU
                obtain ⟨a8, p8, hu8, _⟩ := HU.out.shape
                subst hu8
                have hBz := HB2.out.size
                have hcs2 : wr.cell? ⟨b, o + s, none⟩ = some (.int .i64 (f : Int)) := by rw [HB2.out.cell hcb]; exact hcs
                have hTa : (M.take (c + 1)).length ≤ 1000 := by rw [List.length_take]; omega
                obtain ⟨D, HDD⟩ : ∃ D, Hid (D = M.take (c + 1)) := ⟨_, hide rfl⟩
                rw [← HDD.out] at HU hTa ⊢
                have HUa : Hid (ON (wr.alloc (.cells #[.int .i64 (s : Int)] 3)) wo.heap.size (.slice a8 D.length p8) D) := HU.out.alloc _
                have HHO := hide (one_oi wr (s : Int))
                go_wp2_with (at_builtin; refine wpNode rfl _ _ rfl wo.heap.size (.slice a8 D.length p8) D ((f, [s]), .slice (some ⟨wr.heap.size, 0, none⟩) 1 1) _ rfl HHO.out rfl HUa.out 1 (by simp [Act.eval]) (by omega) (by simp; omega) ?_)
                intro v9 w9 ho9 hg9
                obtain ⟨P, hP1, HP2⟩ : ∃ P : Mnd, P.1 = (f, [s]) ∧ Hid (ON w9 wo.heap.size v9 (D ++ [P])) := ⟨_, rfl, hide ho9⟩
                have HPP := hide hP1
                have HB9 := hide (grow_node (HB2.out.alloc (Nat.le_trans (Nat.le_refl _) hBz) _) (Nat.le_refl _) HUa.out hg9)
                clear ho9 hg9 hP1 HHO HUa HU HONx
                go_wp2
                go_loopw [8, 10] (fun u vj wr => ∃ j : Nat, j ≤ m ∧ (c + 1) ≤ j ∧ vj = .int .i64 (j : Int) ∧ Hid (ON wr wo.heap.size u (D ++ [P] ++ (M.take j).drop (c + 1))) ∧ Hid (Below wo.heap.size wo wr)) (fun _ vj _ => m - (intOf vj).toNat)
                case atStart => exact ⟨(c + 1), by omega, Nat.le_refl _, rfl, by rw [List.drop_of_length_le (by rw [List.length_take]; omega), List.append_nil]; exact HP2, HB9⟩
                case round =>
                  clear HP2 HB9 HB2
                  obtain ⟨j, hjm0, hja2, rfl, HU, HB2⟩ := hrel
                  have HONx := hide (HN.out.below HB2.out (Nat.le_refl _))
                  by_cases hjt : j < m
                  · have hjt' : (j : Int) < (m : Int) := by omega
                    obtain ⟨gx, cx, hvx, x1, x2⟩ := HONx.out.get (i := j) (by rw [hm']; omega)
                    simp only [Value.slice.injEq] at hvx
                    obtain ⟨hvx1, -, hvx2⟩ := hvx
                    subst hvx2
                    first | subst hvx1 | (simp only [Option.some.injEq, Addr.mk.injEq, and_true] at hvx1; have hvx1' := hvx1.symm; clear hvx1; subst hvx1')
                    have hhx := HONx.out.holds _ (md_mem (show j < M.length by rw [hm']; omega))
                    obtain ⟨N, HPx⟩ : ∃ p, Hid (p = M.getD j mn0) := ⟨_, hide rfl⟩
                    rw [← HPx.out] at x1 x2 hhx
                    obtain ⟨⟨nw, nh⟩, nv⟩ := N
                    obtain ⟨an, cn, hqn⟩ := hhx.shape
                    have hqn' : nv = .slice an (ci nh).length cn := hqn
                    subst hqn'
                    obtain ⟨ln, hln⟩ : ∃ m, m = (ci nh).length := ⟨_, rfl⟩
                    rw [← hln] at x2 hhx HPx
                    have x1' : wr.cell? ⟨gx, j * 2, none⟩ = some (.int .i64 (nw : Int)) := x1
                    have x2' : wr.cell? ⟨gx, j * 2 + 1, none⟩ = some (.slice an ln cn) := x2
                    have HHn : Hid (OI wr 0 (.slice an ln cn) (ci nh)) := hhx
                    clear hhx hqn hln x1 x2
                    have HNX : Hid (D ++ [P] ++ (M.take (j + 1)).drop (c + 1) = (D ++ [P] ++ (M.take j).drop (c + 1)) ++ [((nw, nh), .slice an ln cn)]) := by
                      show _ = _
                      rw [List.take_succ_eq_append_getElem (by omega), List.drop_append_of_le_length (by rw [List.length_take]; omega), HPx.out]
                      simp only [List.append_assoc]
                      congr 4
                      simp [show j < M.length by omega]
                    have hDl0 : (D ++ [P] ++ (M.take j).drop (c + 1)).length ≤ 10000 := by simp; omega
                    obtain ⟨E, HEE⟩ : ∃ E, Hid (E = D ++ [P] ++ (M.take j).drop (c + 1)) := ⟨_, hide rfl⟩
                    rw [← HEE.out] at HU HNX hDl0
                    have hDl : E.length ≤ 10000 := hDl0
                    obtain ⟨a8, p8, hu8, _⟩ := HU.out.shape
                    subst hu8
                    have hBz := HB2.out.size
                    go_wp2_with (at_builtin; refine wpNode rfl _ _ rfl wo.heap.size (.slice a8 E.length p8) E ((nw, nh), .slice an ln cn) _ rfl HHn.out rfl HU.out _ rfl (by omega) (by omega) ?_)
                    intro v9 w9 ho9 hg9
                    have HU9 : Hid (ON w9 wo.heap.size v9 (D ++ [P] ++ (M.take (j + 1)).drop (c + 1))) := by rw [HNX.out]; exact ho9
                    have HB9 := hide (grow_node HB2.out (Nat.le_refl _) HU.out hg9)
                    clear ho9 hg9
                    go_wp2
                    go_roundw
                    case rel => exact ⟨j + 1, by omega, by omega, by go_num, HU9, HB9⟩
                    case measure => simp [intOf]; omega
                  · have hje2 : j = m := by omega
                    have hjt' : ¬ (j : Int) < (m : Int) := by omega
                    have HFM : Hid (∃ M' T', ON wr w.heap.size u8 M' ∧ mro M' = leafs (fq l) T' ∧ Srt l ((us6 l).take (k + 1)) T') := by
                      refine ⟨D ++ [P] ++ M.drop (c + 1), T.take (c + 1) ++ s :: T.drop (c + 1), ?_, ?_, HST.out⟩
                      · have := HU.out
                        rw [hje2, List.take_of_length_le (by omega)] at this
                        exact this.base HBo.out.size
                      · have e1 : mro (D ++ [P] ++ M.drop (c + 1)) = (mro M).take (c + 1) ++ [P.1] ++ (mro M).drop (c + 1) := by
                          rw [HDD.out]
                          simp [mro]
                        rw [e1, HM.out, HPP.out, HFE.out]
                        simp [leafs]
                    have HBZ : Hid (Below w1.heap.size w1 wr) := HBW.out.trans (HB2.out.mono HBW.out.size)
                    obtain ⟨a7, n7, p7, hu7⟩ : ∃ a n p, u8 = .slice a n p := by
                      obtain ⟨a, c, e, _⟩ := HU.out.shape
                      exact ⟨_, _, _, e⟩
                    subst hu7
                    clear HU HONx
                    go_wp2
                    go_roundw
                    case rel =>
                      obtain ⟨M', T', q1, q2, q3⟩ := HFM.out
                      exact ⟨k + 1, M', T', by omega, by go_num, q1, q2, q3, HBZ⟩
                    case measure => simp [intOf]; omega
    · obtain rfl : k = (us6 l).length := by omega
      have hlt' : ¬ ((us6 l).length : Int) < ((us6 l).length : Int) := by omega
      have HF : Hid (mro M = leafs (fq l) (srl l)) := by
        have := HSR.out
        rw [List.take_of_length_le (Nat.le_refl _)] at this
        rw [← srt_eq this (srl_srt l)]
        exact HM.out
      have HBF : Hid (Below w.heap.size w wo) := HB1.out.trans (HBW.out.mono hB1)
      clear HM HSR
      go_wp2
      go_ret
      exact ⟨_, rfl, M, HN.out, HF.out, HBF.out⟩
end Go.Proofs.YtiabhmdefaabgabDoor

