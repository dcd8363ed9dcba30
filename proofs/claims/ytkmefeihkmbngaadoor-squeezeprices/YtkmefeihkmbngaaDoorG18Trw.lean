import Derived.Test.YtkmefeihkmbngaaDoorG17Xpk
import Derived.Test.YtkmefeihkmbngaaDoorG15Rg6
import Derived.Test.YtkmefeihkmbngaaDoorG16Nde
import Derived.Test.YtkmefeihkmbngaaDoorG05Pks
namespace Go.Proofs.YtkmefeihkmbngaaDoor
open Go.RowKit Go.Maps
set_option maxRecDepth 20000
set_option linter.unusedVariables false
set_option linter.unusedSimpArgs false

theorem srt_put {l : List Int} {k a : Nat} {T : List Nat} (hk : k < (us6 l).length) (h : Srt l ((us6 l).take k) T) (ha : a ≤ T.length)
    (h1 : ∀ t ∈ T.drop a, l.getD ((us6 l).getD k 0) 0 < l.getD t 0) (h2 : a = 0 ∨ l.getD (T.getD (a - 1) 0) 0 ≤ l.getD ((us6 l).getD k 0) 0) :
    Srt l ((us6 l).take (k + 1)) (T.take a ++ (us6 l).getD k 0 :: T.drop a) := by
  have e : (us6 l).getD k 0 = (us6 l)[k] := by simp [hk]
  have htk : (us6 l).take (k + 1) = (us6 l).take k ++ [(us6 l).getD k 0] := by rw [List.take_succ_eq_append_getElem hk, e]
  have hT : T = T.take a ++ T.drop a := (List.take_append_drop a T).symm
  have hlt : ∀ t ∈ T, t < (us6 l).getD k 0 := fun t ht => by
    have hm := h.perm.subset ht
    obtain ⟨i, hi, rfl⟩ := List.getElem_of_mem hm
    rw [List.length_take] at hi
    rw [List.getElem_take, e]
    exact (List.pairwise_iff_getElem.1 (us_rise l)) i k (by omega) hk (by omega)
  have hp := h.rise
  rw [hT, List.pairwise_append] at hp
  refine ⟨?_, ?_⟩
  · rw [htk]
    have p1 : (T.take a ++ (us6 l).getD k 0 :: T.drop a).Perm ((us6 l).getD k 0 :: (T.take a ++ T.drop a)) := List.perm_middle
    refine p1.trans ?_
    rw [← hT]
    exact ((List.perm_cons _).2 h.perm).trans (by have := (List.perm_append_comm (l₁ := [(us6 l).getD k 0]) (l₂ := (us6 l).take k)); exact this)
  · rw [List.pairwise_append]
    refine ⟨hp.1, List.pairwise_cons.2 ⟨fun t ht => .inl (h1 t ht), hp.2.1⟩, fun t ht u hu => ?_⟩
    rcases List.mem_cons.1 hu with rfl | hu
    · have htT : t ∈ T := List.mem_of_mem_take ht
      have hle : l.getD t 0 ≤ l.getD ((us6 l).getD k 0) 0 := by
        rcases h2 with h0 | h2
        · rw [h0] at ht; simp at ht
        · obtain ⟨i, hi, rfl⟩ := List.getElem_of_mem ht
          rw [List.length_take] at hi
          rw [List.getElem_take]
          by_cases c : i = a - 1
          · have : T.getD (a - 1) 0 = T[i] := by
              subst c
              rw [List.getD_eq_getElem?_getD, List.getElem?_eq_getElem (by omega)]; rfl
            rw [← this]; exact h2
          · have hr := (List.pairwise_iff_getElem.1 h.rise) i (a - 1) (by omega) (by omega) (by omega)
            have : T.getD (a - 1) 0 = T[a - 1]'(by omega) := by rw [List.getD_eq_getElem?_getD, List.getElem?_eq_getElem (by omega)]; rfl
            rw [this] at h2
            unfold Lf at hr
            omega
      have := hlt t htT
      unfold Lf
      omega
    · exact hp.2.2 t ht u hu
end Go.Proofs.YtkmefeihkmbngaaDoor

namespace Go.Proofs.YtkmefeihkmbngaaDoor
open Go.RowKit Go.Maps
set_option maxRecDepth 20000
set_option linter.unusedVariables false
set_option linter.unusedSimpArgs false

theorem leafs_get (f : Nat → Nat) (T : List Nat) {i : Nat} (h : i < T.length) : (leafs f T).getD i nod0 = (f (T.getD i 0), [T.getD i 0]) := by
  simp [leafs, h]

set_option maxHeartbeats 4000000 in
theorem leaves_any (v : Value) (l : List Int) (w : World) (h : SI w v l) (hr : l.length ≤ 288) (hnn : ∀ i, 0 ≤ l.getD i 0) :
    Calls Tryd.prog 48 #[v] w fun e w' => ∃ v', e = .returned v' ∧ ∃ M, ON w' w.heap.size v' M ∧ mro M = leafs (fq l) (srl l) ∧ Below w.heap.size w w' := by
  have HS := hide h
  obtain ⟨ao, cap, rfl, hlc, hcm⟩ := h.open
  clear h
  have HNN := hide hnn
  clear hnn
  have hul := us_le6 (l := l)
  go_enter Tryd.func48, Tryd.ntmps48
  go_wp2_with fail
  refine (xused_any6 _ l _ HS.out hr).mono ?_
  rintro e w1 ⟨a1, c1, rfl, ho1, hb1⟩
  have HO1 := hide ho1
  have HB1 := hide hb1
  clear ho1 hb1
  have hB1 := HB1.out.size
  go_wp2
  go_loopw [4, 5] (fun u vi wr => ∃ (k : Nat) (M : List Mnd) (T : List Nat), k ≤ (us6 l).length ∧ vi = .int .i64 (k : Int) ∧ Hid (ON wr w.heap.size u M) ∧ Hid (mro M = leafs (fq l) T) ∧ Hid (Srt l ((us6 l).take k) T) ∧ Hid (Below w1.heap.size w1 wr)) (fun _ vi _ => (us6 l).length - (intOf vi).toNat)
  case atStart => exact ⟨0, [], [], Nat.zero_le _, rfl, ⟨World.ownsRow_nil _ _ _ _, fun p hp => by simp at hp⟩, rfl, ⟨by rw [List.take_zero], List.Pairwise.nil⟩, Below.refl _ _⟩
  case round =>
    obtain ⟨k, M, T, hk, rfl, HN, HM, HSR, HBW⟩ := hrel
    obtain ⟨au, pu, hu, _⟩ := HN.out.shape
    subst hu
    rename World => wo
    by_cases hlt : k < (us6 l).length
    · have hlt' : (k : Int) < ((us6 l).length : Int) := by omega
      have hTl : T.length = k := by
        have := HSR.out.perm.length_eq
        rw [List.length_take] at this
        omega
      have hMl : M.length = T.length := by rw [← mro_len, HM.out, leafs_len]
      have HTM : Hid (∀ i, i < M.length → (M.getD i mn0).1.1 = fq l (T.getD i 0)) := fun i hi => by
        rw [← mro_get, HM.out, leafs_get _ _ (by omega)]
      obtain ⟨g3, d3, hv3, hc3⟩ := HO1.out.form (by rw [ci_len]; omega)
      have hc30 := (HO1.out.below HBW.out (Nat.le_refl _)).get (b := g3) (by rw [hv3]; rfl) (i := k) (by rw [ci_len]; omega)
      rw [ci_get] at hc30
      have hsm := mem_us.1 (getD_mem6 hlt)
      have HPUT : Hid (∀ a, a ≤ T.length → (∀ t ∈ T.drop a, l.getD ((us6 l).getD k 0) 0 < l.getD t 0) → (a = 0 ∨ l.getD (T.getD (a - 1) 0) 0 ≤ l.getD ((us6 l).getD k 0) 0) → Srt l ((us6 l).take (k + 1)) (T.take a ++ (us6 l).getD k 0 :: T.drop a)) := fun a ha q1 q2 => srt_put hlt HSR.out ha q1 q2
      obtain ⟨s, HSE⟩ : ∃ s, Hid (s = (us6 l).getD k 0) := ⟨_, hide rfl⟩
      rw [← HSE.out] at hc30 hsm HPUT
      have HBo : Hid (Below w.heap.size w wo) := HB1.out.trans (HBW.out.mono hB1)
      obtain ⟨b, o, rfl, hcs⟩ := HS.out.get HBo.out (k := s) hsm.1
      have hcb : b < wo.heap.size := by
        have := hcs
        unfold World.cell? at this
        cases hx : wo.heap[b]? with
        | none => simp [hx] at this
        | some _ => exact (Array.getElem?_eq_some_iff.1 hx).1
      obtain ⟨f, HFE⟩ : ∃ f, Hid (f = fq l s) := ⟨_, hide rfl⟩
      have HFI : Hid (l.getD s 0 = (f : Int)) := by show _ = _; rw [HFE.out]; unfold fq; have := HNN.out s; omega
      rw [HFI.out] at hcs
      have hsl : (s : Int) < (l.length : Int) := by have := hsm.1; omega
      simp only [Value.slice.injEq] at hv3
      obtain ⟨rfl, -, rfl⟩ := hv3
      obtain ⟨m, hm⟩ : ∃ m, m = M.length := ⟨_, rfl⟩
      have hm' : M.length = m := hm.symm
      have HTLM : Hid (T.length = m) := by show _ = _; omega
      have hmk : m ≤ 288 := by omega
      rw [hm'] at HN HTM ⊢
      have HDR : Hid (∀ a, (∀ i, a ≤ i → i < m → f < (M.getD i mn0).1.1) → ∀ t ∈ T.drop a, l.getD s 0 < l.getD t 0) := fun a hg t ht => by
        obtain ⟨i, hi, rfl⟩ := List.getElem_of_mem ht
        rw [List.length_drop] at hi
        have hi2 : a + i < m := by have := HTLM.out; omega
        have e1 := hg (a + i) (by omega) hi2
        rw [HTM.out _ hi2] at e1
        have e2 : T.getD (a + i) 0 = (T.drop a)[i]'(by rw [List.length_drop]; omega) := by
          rw [List.getElem_drop, List.getD_eq_getElem?_getD, List.getElem?_eq_getElem (by omega)]
          rfl
        rw [e2] at e1
        rw [HFI.out]
        unfold fq at e1
        omega
      clear hm hMl hTl hsm hc3 HSR
      go_wp2
      go_loopw [7] (fun va wr => ∃ a : Nat, a ≤ m ∧ va = .int .i64 (a : Int) ∧ Hid (∃ q, wr = wo.drewN q) ∧ Hid (∀ i, a ≤ i → i < m → f < (M.getD i mn0).1.1)) (fun va _ => (intOf va).toNat)
      case atStart => exact ⟨m, Nat.le_refl _, rfl, ⟨0, rfl⟩, fun i h1 h2 => by omega⟩
      case round =>
        obtain ⟨a, ham, rfl, HQ, HGT⟩ := hrel
        by_cases ha0 : a = 0
        · subst ha0
          have HST : Hid (Srt l ((us6 l).take (k + 1)) (T.take 0 ++ s :: T.drop 0)) := HPUT.out 0 (Nat.zero_le _) (HDR.out 0 HGT.out) (.inl rfl)
          have HBQ : Hid (∀ n, Below wo.heap.size wo (wr.drewN n)) := fun n => by
            obtain ⟨q, hq⟩ := HQ.out
            rw [hq, World.drewN_drewN]
            exact below_drewN (Below.refl _ _) _
          go_wp2
          go_quiet (fail)
          go_wp2
          clear HQ HGT
          go_loopw [8, 9] (fun u vj wr => ∃ j : Nat, j ≤ 0 ∧ vj = .int .i64 (j : Int) ∧ Hid (ON wr wo.heap.size u (M.take j)) ∧ Hid (Below wo.heap.size wo wr)) (fun _ vj _ => 0 - (intOf vj).toNat)
          case atStart => exact ⟨0, Nat.zero_le _, rfl, ⟨by rw [List.take_zero]; exact World.ownsRow_nil _ _ _ _, fun p hp => by simp at hp⟩, HBQ.out _⟩
          case round =>
            clear HBQ
            obtain ⟨j, hja, rfl, HU, HB2⟩ := hrel
            have HONx := hide (HN.out.below HB2.out (Nat.le_refl _))
            by_cases hjt : j < 0
            · exact absurd hjt (Nat.not_lt_zero _)
            · have hje : j = 0 := by omega
              have hjt' : ¬ (j : Int) < (0 : Int) := by omega
              rw [hje] at HU
              obtain ⟨a8, p8, hu8, _⟩ := HU.out.shape
              subst hu8
              have hBz := HB2.out.size
              have hcs2 : wr.cell? ⟨b, o + s, none⟩ = some (.int .i64 (f : Int)) := by rw [HB2.out.cell hcb]; exact hcs
              have hTa : (M.take 0).length ≤ 1000 := by rw [List.length_take]; omega
              obtain ⟨D, HDD⟩ : ∃ D, Hid (D = M.take 0) := ⟨_, hide rfl⟩
              rw [← HDD.out] at HU hTa ⊢
              have HUa : Hid (ON (wr.alloc (.cells #[.int .i64 (s : Int)] 3)) wo.heap.size (.slice a8 D.length p8) D) := HU.out.alloc _
              have HHO := hide (one_oi wr (s : Int))
              go_wp2_with (at_builtin; refine wpNode rfl _ _ rfl wo.heap.size (.slice a8 D.length p8) D ((f, [s]), .slice (some ⟨wr.heap.size, 0, none⟩) 1 1) _ rfl HHO.out rfl HUa.out 1 (by simp [Act.eval]) (by omega) (by simp; omega) ?_)
              intro v9 w9 ho9 hg9
              obtain ⟨P, hP1, HP2⟩ : ∃ P : Mnd, P.1 = (f, [s]) ∧ Hid (ON w9 wo.heap.size v9 (D ++ [P])) := ⟨_, rfl, hide ho9⟩
              have HPP := hide hP1
              have HB9 := hide (grow_node (HB2.out.alloc (Nat.le_trans (Nat.le_refl _) hBz) _) (Nat.le_refl _) HUa.out hg9)
              clear ho9 hg9 hP1 HHO HUa HU HONx
              go_wp2
              go_loopw [8, 10] (fun u vj wr => ∃ j : Nat, j ≤ m ∧ 0 ≤ j ∧ vj = .int .i64 (j : Int) ∧ Hid (ON wr wo.heap.size u (D ++ [P] ++ (M.take j).drop 0)) ∧ Hid (Below wo.heap.size wo wr)) (fun _ vj _ => m - (intOf vj).toNat)
              case atStart => exact ⟨0, by omega, Nat.le_refl _, rfl, by rw [List.drop_of_length_le (by rw [List.length_take]; omega), List.append_nil]; exact HP2, HB9⟩
              case round =>
                clear HP2 HB9 HB2
                obtain ⟨j, hjm0, hja2, rfl, HU, HB2⟩ := hrel
                have HONx := hide (HN.out.below HB2.out (Nat.le_refl _))
                by_cases hjt : j < m
                · have hjt' : (j : Int) < (m : Int) := by omega
                  obtain ⟨gx, cx, hvx, x1, x2⟩ := HONx.out.get (i := j) (by rw [hm']; omega)
                  simp only [Value.slice.injEq] at hvx
                  obtain ⟨hvx1, -, hvx2⟩ := hvx
                  subst hvx2
                  first | subst hvx1 | (simp only [Option.some.injEq, Addr.mk.injEq, and_true] at hvx1; have hvx1' := hvx1.symm; clear hvx1; subst hvx1')
                  have hhx := HONx.out.holds _ (md_mem (show j < M.length by rw [hm']; omega))
                  obtain ⟨N, HPx⟩ : ∃ p, Hid (p = M.getD j mn0) := ⟨_, hide rfl⟩
                  rw [← HPx.out] at x1 x2 hhx
                  obtain ⟨⟨nw, nh⟩, nv⟩ := N
                  obtain ⟨an, cn, hqn⟩ := hhx.shape
                  have hqn' : nv = .slice an (ci nh).length cn := hqn
                  subst hqn'
                  obtain ⟨ln, hln⟩ : ∃ m, m = (ci nh).length := ⟨_, rfl⟩
                  rw [← hln] at x2 hhx HPx
                  have x1' : wr.cell? ⟨gx, j * 2, none⟩ = some (.int .i64 (nw : Int)) := x1
                  have x2' : wr.cell? ⟨gx, j * 2 + 1, none⟩ = some (.slice an ln cn) := x2
                  have HHn : Hid (OI wr 0 (.slice an ln cn) (ci nh)) := hhx
                  clear hhx hqn hln x1 x2
                  have HNX : Hid (D ++ [P] ++ (M.take (j + 1)).drop 0 = (D ++ [P] ++ (M.take j).drop 0) ++ [((nw, nh), .slice an ln cn)]) := by
                    show _ = _
                    rw [List.take_succ_eq_append_getElem (by omega), List.drop_append_of_le_length (by rw [List.length_take]; omega), HPx.out]
                    simp only [List.append_assoc]
                    congr 4
                    simp [show j < M.length by omega]
                  have hDl0 : (D ++ [P] ++ (M.take j).drop 0).length ≤ 10000 := by simp; omega
                  obtain ⟨E, HEE⟩ : ∃ E, Hid (E = D ++ [P] ++ (M.take j).drop 0) := ⟨_, hide rfl⟩
                  rw [← HEE.out] at HU HNX hDl0
                  have hDl : E.length ≤ 10000 := hDl0
                  obtain ⟨a8, p8, hu8, _⟩ := HU.out.shape
                  subst hu8
                  have hBz := HB2.out.size
                  go_wp2_with (at_builtin; refine wpNode rfl _ _ rfl wo.heap.size (.slice a8 E.length p8) E ((nw, nh), .slice an ln cn) _ rfl HHn.out rfl HU.out _ rfl (by omega) (by omega) ?_)
                  intro v9 w9 ho9 hg9
                  have HU9 : Hid (ON w9 wo.heap.size v9 (D ++ [P] ++ (M.take (j + 1)).drop 0)) := by rw [HNX.out]; exact ho9
                  have HB9 := hide (grow_node HB2.out (Nat.le_refl _) HU.out hg9)
                  clear ho9 hg9
                  go_wp2
                  go_roundw
                  case rel => exact ⟨j + 1, by omega, by omega, by go_num, HU9, HB9⟩
                  case measure => simp [intOf]; omega
                · have hje2 : j = m := by omega
                  have hjt' : ¬ (j : Int) < (m : Int) := by omega
                  have HFM : Hid (∃ M' T', ON wr w.heap.size u8 M' ∧ mro M' = leafs (fq l) T' ∧ Srt l ((us6 l).take (k + 1)) T') := by
                    refine ⟨D ++ [P] ++ M.drop 0, T.take 0 ++ s :: T.drop 0, ?_, ?_, HST.out⟩
                    · have := HU.out
                      rw [hje2, List.take_of_length_le (by omega)] at this
                      exact this.base HBo.out.size
                    · have e1 : mro (D ++ [P] ++ M.drop 0) = (mro M).take 0 ++ [P.1] ++ (mro M).drop 0 := by
                        rw [HDD.out]
                        simp [mro]
                      rw [e1, HM.out, HPP.out, HFE.out]
                      simp [leafs]
                  have HBZ : Hid (Below w1.heap.size w1 wr) := HBW.out.trans (HB2.out.mono HBW.out.size)
                  obtain ⟨a7, n7, p7, hu7⟩ : ∃ a n p, u8 = .slice a n p := by
                    obtain ⟨a, c, e, _⟩ := HU.out.shape
                    exact ⟨_, _, _, e⟩
                  subst hu7
                  clear HU HONx
                  go_wp2
                  go_roundw
                  case rel =>
                    obtain ⟨M', T', q1, q2, q3⟩ := HFM.out
                    exact ⟨k + 1, M', T', by omega, by go_num, q1, q2, q3, HBZ⟩
                  case measure => simp [intOf]; omega
        · obtain ⟨c, rfl⟩ : ∃ c, a = c + 1 := ⟨a - 1, by omega⟩
          have hc1 : (0 : Int) < (c : Int) + 1 := by omega
          have hwc : IntKind.i64.wrap ((c : Int) + 1 - 1) = (c : Int) := by rw [IntKind.wrap_i64]; omega
          have hcm1 : (c : Int) < (m : Int) := by omega
          have HONr : Hid (ON wr w.heap.size (.slice au m pu) M) := by
            obtain ⟨q, hq⟩ := HQ.out
            rw [hq]
            exact HN.out.drewN q
          have hcsr : wr.cell? ⟨b, o + s, none⟩ = some (.int .i64 (f : Int)) := by
            obtain ⟨q, hq⟩ := HQ.out
            rw [hq]
            exact hcs
          obtain ⟨gc, cc, hvc, y1, _⟩ := HONr.out.get (i := c) (by rw [hm']; omega)
          simp only [Value.slice.injEq] at hvc
          obtain ⟨rfl, -, rfl⟩ := hvc
          obtain ⟨y, HY⟩ : ∃ y, Hid (y = (M.getD c mn0).1.1) := ⟨_, hide rfl⟩
          rw [← HY.out] at y1
          by_cases hyf : f < y
          · have hyf' : (f : Int) < (y : Int) := by omega
            have HG2 : Hid (∀ i, c ≤ i → i < m → f < (M.getD i mn0).1.1) := fun i h1 h2 => by
              by_cases e : i = c
              · rw [e, ← HY.out]; exact hyf
              · exact HGT.out i (by omega) h2
            have HQN : Hid (∀ n, ∃ q, wr.drewN n = wo.drewN q) := fun n => by obtain ⟨q, hq⟩ := HQ.out; exact ⟨q + n, by rw [hq, World.drewN_drewN]⟩
            clear HGT HQ
            go_wp2
            go_quiet (fail)
            go_wp2
            go_roundw
            case rel => exact ⟨c, by omega, by go_num, HQN.out _, HG2⟩
            case measure => (simp [intOf]) <;> omega
          · have hyf' : ¬ (f : Int) < (y : Int) := by omega
            have HST : Hid (Srt l ((us6 l).take (k + 1)) (T.take (c + 1) ++ s :: T.drop (c + 1))) := HPUT.out (c + 1) (by rw [HTLM.out]; omega) (HDR.out (c + 1) HGT.out) (.inr (by
              have e := HTM.out c (by omega)
              rw [← HY.out] at e
              have h0 := HNN.out (T.getD c 0)
              rw [HFI.out, Nat.add_sub_cancel]
              unfold fq at e
              omega))
            have hcw : (((c + 1 : Nat) : Int)) = (c : Int) + 1 := by omega
            have HBQ : Hid (∀ n, Below wo.heap.size wo (wr.drewN n)) := fun n => by
              obtain ⟨q, hq⟩ := HQ.out
              rw [hq, World.drewN_drewN]
              exact below_drewN (Below.refl _ _) _
            go_wp2
            go_quiet (fail)
            go_wp2
            clear HQ HGT
            go_loopw [8, 9] (fun u vj wr => ∃ j : Nat, j ≤ (c + 1) ∧ vj = .int .i64 (j : Int) ∧ Hid (ON wr wo.heap.size u (M.take j)) ∧ Hid (Below wo.heap.size wo wr)) (fun _ vj _ => (c + 1) - (intOf vj).toNat)
            case atStart => exact ⟨0, Nat.zero_le _, rfl, ⟨by rw [List.take_zero]; exact World.ownsRow_nil _ _ _ _, fun p hp => by simp at hp⟩, HBQ.out _⟩
            case round =>
              clear HBQ
              obtain ⟨j, hja, rfl, HU, HB2⟩ := hrel
              have HONx := hide (HN.out.below HB2.out (Nat.le_refl _))
              by_cases hjt : j < (c + 1)
              · have hjt' : (j : Int) < ((c + 1) : Int) := by omega
                have hjm : (j : Int) < (m : Int) := by omega
                obtain ⟨gx, cx, hvx, x1, x2⟩ := HONx.out.get (i := j) (by rw [hm']; omega)
                simp only [Value.slice.injEq] at hvx
                obtain ⟨hvx1, -, hvx2⟩ := hvx
                subst hvx2
                first | subst hvx1 | (simp only [Option.some.injEq, Addr.mk.injEq, and_true] at hvx1; have hvx1' := hvx1.symm; clear hvx1; subst hvx1')
                have hhx := HONx.out.holds _ (md_mem (show j < M.length by rw [hm']; omega))
                obtain ⟨N, HPx⟩ : ∃ p, Hid (p = M.getD j mn0) := ⟨_, hide rfl⟩
                rw [← HPx.out] at x1 x2 hhx
                obtain ⟨⟨nw, nh⟩, nv⟩ := N
                obtain ⟨an, cn, hqn⟩ := hhx.shape
                have hqn' : nv = .slice an (ci nh).length cn := hqn
                subst hqn'
                obtain ⟨ln, hln⟩ : ∃ m, m = (ci nh).length := ⟨_, rfl⟩
                rw [← hln] at x2 hhx HPx
                have x1' : wr.cell? ⟨gx, j * 2, none⟩ = some (.int .i64 (nw : Int)) := x1
                have x2' : wr.cell? ⟨gx, j * 2 + 1, none⟩ = some (.slice an ln cn) := x2
                have HHn : Hid (OI wr 0 (.slice an ln cn) (ci nh)) := hhx
                clear hhx hqn hln x1 x2
                have HNX : Hid (M.take (j + 1) = M.take j ++ [((nw, nh), .slice an ln cn)]) := by
                  show _ = _
                  rw [List.take_succ_eq_append_getElem (by omega), HPx.out]
                  congr 2
                  simp [show j < M.length by omega]
                obtain ⟨D, HDD⟩ : ∃ D, Hid (D = M.take j) := ⟨_, hide rfl⟩
                have hDl : D.length ≤ 1000 := by rw [HDD.out, List.length_take]; omega
                rw [← HDD.out] at HU HNX
                obtain ⟨a8, p8, hu8, _⟩ := HU.out.shape
                subst hu8
                have hBz := HB2.out.size
                go_wp2_with (at_builtin; refine wpNode rfl _ _ rfl wo.heap.size (.slice a8 D.length p8) D ((nw, nh), .slice an ln cn) _ rfl HHn.out rfl HU.out _ rfl (by omega) (by omega) ?_)
                intro v9 w9 ho9 hg9
                have HU9 : Hid (ON w9 wo.heap.size v9 (M.take (j + 1))) := by rw [HNX.out]; exact ho9
                have HB9 := hide (grow_node HB2.out (Nat.le_refl _) HU.out hg9)
                clear ho9 hg9
                go_wp2
                go_roundw
                case rel => exact ⟨j + 1, by omega, by go_num, HU9, HB9⟩
                case measure => simp [intOf]; omega
              · have hje : j = (c + 1) := by omega
                have hjt' : ¬ (j : Int) < ((c + 1) : Int) := by omega
                rw [hje] at HU
                obtain ⟨a8, p8, hu8, _⟩ := HU.out.shape
                subst hu8
                have hBz := HB2.out.size
                have hcs2 : wr.cell? ⟨b, o + s, none⟩ = some (.int .i64 (f : Int)) := by rw [HB2.out.cell hcb]; exact hcs
                have hTa : (M.take (c + 1)).length ≤ 1000 := by rw [List.length_take]; omega
                obtain ⟨D, HDD⟩ : ∃ D, Hid (D = M.take (c + 1)) := ⟨_, hide rfl⟩
                rw [← HDD.out] at HU hTa ⊢
                have HUa : Hid (ON (wr.alloc (.cells #[.int .i64 (s : Int)] 3)) wo.heap.size (.slice a8 D.length p8) D) := HU.out.alloc _
                have HHO := hide (one_oi wr (s : Int))
                go_wp2_with (at_builtin; refine wpNode rfl _ _ rfl wo.heap.size (.slice a8 D.length p8) D ((f, [s]), .slice (some ⟨wr.heap.size, 0, none⟩) 1 1) _ rfl HHO.out rfl HUa.out 1 (by simp [Act.eval]) (by omega) (by simp; omega) ?_)
                intro v9 w9 ho9 hg9
                obtain ⟨P, hP1, HP2⟩ : ∃ P : Mnd, P.1 = (f, [s]) ∧ Hid (ON w9 wo.heap.size v9 (D ++ [P])) := ⟨_, rfl, hide ho9⟩
                have HPP := hide hP1
                have HB9 := hide (grow_node (HB2.out.alloc (Nat.le_trans (Nat.le_refl _) hBz) _) (Nat.le_refl _) HUa.out hg9)
                clear ho9 hg9 hP1 HHO HUa HU HONx
                go_wp2
                go_loopw [8, 10] (fun u vj wr => ∃ j : Nat, j ≤ m ∧ (c + 1) ≤ j ∧ vj = .int .i64 (j : Int) ∧ Hid (ON wr wo.heap.size u (D ++ [P] ++ (M.take j).drop (c + 1))) ∧ Hid (Below wo.heap.size wo wr)) (fun _ vj _ => m - (intOf vj).toNat)
                case atStart => exact ⟨(c + 1), by omega, Nat.le_refl _, rfl, by rw [List.drop_of_length_le (by rw [List.length_take]; omega), List.append_nil]; exact HP2, HB9⟩
                case round =>
                  clear HP2 HB9 HB2
                  obtain ⟨j, hjm0, hja2, rfl, HU, HB2⟩ := hrel
                  have HONx := hide (HN.out.below HB2.out (Nat.le_refl _))
                  by_cases hjt : j < m
                  · have hjt' : (j : Int) < (m : Int) := by omega
                    obtain ⟨gx, cx, hvx, x1, x2⟩ := HONx.out.get (i := j) (by rw [hm']; omega)
                    simp only [Value.slice.injEq] at hvx
                    obtain ⟨hvx1, -, hvx2⟩ := hvx
                    subst hvx2
                    first | subst hvx1 | (simp only [Option.some.injEq, Addr.mk.injEq, and_true] at hvx1; have hvx1' := hvx1.symm; clear hvx1; subst hvx1')
                    have hhx := HONx.out.holds _ (md_mem (show j < M.length by rw [hm']; omega))
                    obtain ⟨N, HPx⟩ : ∃ p, Hid (p = M.getD j mn0) := ⟨_, hide rfl⟩
                    rw [← HPx.out] at x1 x2 hhx
                    obtain ⟨⟨nw, nh⟩, nv⟩ := N
                    obtain ⟨an, cn, hqn⟩ := hhx.shape
                    have hqn' : nv = .slice an (ci nh).length cn := hqn
                    subst hqn'
                    obtain ⟨ln, hln⟩ : ∃ m, m = (ci nh).length := ⟨_, rfl⟩
                    rw [← hln] at x2 hhx HPx
                    have x1' : wr.cell? ⟨gx, j * 2, none⟩ = some (.int .i64 (nw : Int)) := x1
                    have x2' : wr.cell? ⟨gx, j * 2 + 1, none⟩ = some (.slice an ln cn) := x2
                    have HHn : Hid (OI wr 0 (.slice an ln cn) (ci nh)) := hhx
                    clear hhx hqn hln x1 x2
                    have HNX : Hid (D ++ [P] ++ (M.take (j + 1)).drop (c + 1) = (D ++ [P] ++ (M.take j).drop (c + 1)) ++ [((nw, nh), .slice an ln cn)]) := by
                      show _ = _
                      rw [List.take_succ_eq_append_getElem (by omega), List.drop_append_of_le_length (by rw [List.length_take]; omega), HPx.out]
                      simp only [List.append_assoc]
                      congr 4
                      simp [show j < M.length by omega]
                    have hDl0 : (D ++ [P] ++ (M.take j).drop (c + 1)).length ≤ 10000 := by simp; omega
                    obtain ⟨E, HEE⟩ : ∃ E, Hid (E = D ++ [P] ++ (M.take j).drop (c + 1)) := ⟨_, hide rfl⟩
                    rw [← HEE.out] at HU HNX hDl0
                    have hDl : E.length ≤ 10000 := hDl0
                    obtain ⟨a8, p8, hu8, _⟩ := HU.out.shape
                    subst hu8
                    have hBz := HB2.out.size
                    go_wp2_with (at_builtin; refine wpNode rfl _ _ rfl wo.heap.size (.slice a8 E.length p8) E ((nw, nh), .slice an ln cn) _ rfl HHn.out rfl HU.out _ rfl (by omega) (by omega) ?_)
                    intro v9 w9 ho9 hg9
                    have HU9 : Hid (ON w9 wo.heap.size v9 (D ++ [P] ++ (M.take (j + 1)).drop (c + 1))) := by rw [HNX.out]; exact ho9
                    have HB9 := hide (grow_node HB2.out (Nat.le_refl _) HU.out hg9)
                    clear ho9 hg9
                    go_wp2
                    go_roundw
                    case rel => exact ⟨j + 1, by omega, by omega, by go_num, HU9, HB9⟩
                    case measure => simp [intOf]; omega
                  · have hje2 : j = m := by omega
                    have hjt' : ¬ (j : Int) < (m : Int) := by omega
                    have HFM : Hid (∃ M' T', ON wr w.heap.size u8 M' ∧ mro M' = leafs (fq l) T' ∧ Srt l ((us6 l).take (k + 1)) T') := by
                      refine ⟨D ++ [P] ++ M.drop (c + 1), T.take (c + 1) ++ s :: T.drop (c + 1), ?_, ?_, HST.out⟩
                      · have := HU.out
                        rw [hje2, List.take_of_length_le (by omega)] at this
                        exact this.base HBo.out.size
                      · have e1 : mro (D ++ [P] ++ M.drop (c + 1)) = (mro M).take (c + 1) ++ [P.1] ++ (mro M).drop (c + 1) := by
                          rw [HDD.out]
                          simp [mro]
                        rw [e1, HM.out, HPP.out, HFE.out]
                        simp [leafs]
                    have HBZ : Hid (Below w1.heap.size w1 wr) := HBW.out.trans (HB2.out.mono HBW.out.size)
                    obtain ⟨a7, n7, p7, hu7⟩ : ∃ a n p, u8 = .slice a n p := by
                      obtain ⟨a, c, e, _⟩ := HU.out.shape
                      exact ⟨_, _, _, e⟩
                    subst hu7
                    clear HU HONx
                    go_wp2
                    go_roundw
                    case rel =>
                      obtain ⟨M', T', q1, q2, q3⟩ := HFM.out
                      exact ⟨k + 1, M', T', by omega, by go_num, q1, q2, q3, HBZ⟩
                    case measure => simp [intOf]; omega
    · obtain rfl : k = (us6 l).length := by omega
      have hlt' : ¬ ((us6 l).length : Int) < ((us6 l).length : Int) := by omega
      have HF : Hid (mro M = leafs (fq l) (srl l)) := by
        have := HSR.out
        rw [List.take_of_length_le (Nat.le_refl _)] at this
        rw [← srt_eq this (srl_srt l)]
        exact HM.out
      have HBF : Hid (Below w.heap.size w wo) := HB1.out.trans (HBW.out.mono hB1)
      clear HM HSR
      go_wp2
      go_ret
      exact ⟨_, rfl, M, HN.out, HF.out, HBF.out⟩
end Go.Proofs.YtkmefeihkmbngaaDoor

namespace Go.Proofs.YtkmefeihkmbngaaDoor
open Go.RowKit Go.Maps
set_option maxRecDepth 20000
set_option linter.unusedVariables false
set_option linter.unusedSimpArgs false

theorem nmg_nil (W : List Nod) : nmg W [] = W := by cases W <;> simp [nmg]
theorem nrow_one (W : List Nod) : nrow W 1 = W := by
  show nmg W (npk []) = W
  rw [show npk [] = [] by simp [npk]]
  exact nmg_nil W

theorem npk_sum (l : List Nod) : ((npk l).map (·.1)).sum ≤ (l.map (·.1)).sum ∧ (syms (npk l)).length ≤ (syms l).length ∧ (npk l).length ≤ l.length / 2 := by
  induction l using npk.induct with
  | case1 a b r ih =>
    rw [npk]
    simp only [syms, List.map_cons, List.sum_cons, List.flatMap_cons, List.length_append, List.length_cons] at ih ⊢
    omega
  | case2 l h =>
    rw [npk.eq_2 _ h]
    simp [syms]

theorem nmg_sum (a b : List Nod) : ((nmg a b).map (·.1)).sum = (a.map (·.1)).sum + (b.map (·.1)).sum ∧ (syms (nmg a b)).length = (syms a).length + (syms b).length ∧ (nmg a b).length = a.length + b.length := by
  induction a, b using nmg.induct with
  | case1 p => simp [nmg, syms]
  | case2 a w => simp [nmg, syms]
  | case3 a w b p h ih =>
    rw [nmg, if_pos h]
    simp only [syms, List.map_cons, List.sum_cons, List.flatMap_cons, List.length_append, List.length_cons] at ih ⊢
    omega
  | case4 a w b p h ih =>
    rw [nmg, if_neg h]
    simp only [syms, List.map_cons, List.sum_cons, List.flatMap_cons, List.length_append, List.length_cons] at ih ⊢
    omega

theorem nrow_sum (W : List Nod) (k : Nat) : ((nrow W k).map (·.1)).sum ≤ k * (W.map (·.1)).sum ∧ (syms (nrow W k)).length ≤ k * (syms W).length ∧ (nrow W k).length ≤ 2 * W.length := by
  induction k with
  | zero => simp [nrow, syms]
  | succ k ih =>
    have h1 := nmg_sum W (npk (nrow W k))
    have h2 := npk_sum (nrow W k)
    rw [nrow, Nat.succ_mul, Nat.succ_mul]
    omega

def cof (A : List Nat) (s : Nat) : Nat := A.count s

theorem cof_step {n s : Nat} (A : List Nat) (h : s < n) : (hls n (cof A)).set s ((cof A s : Int) + 1) = hls n (cof (A ++ [s])) := by
  apply List.ext_getElem
  · rw [List.length_set, hls_len, hls_len]
  · intro i h1 h3
    have hel : ∀ (H : Nat → Nat) (h : i < (hls n H).length), (hls n H)[i] = (H i : Int) := fun H h => by simp [hls]
    rw [List.getElem_set, hel, hel]
    unfold cof
    rw [List.count_append]
    split
    · rename_i e
      subst e
      simp
    · rename_i e
      rw [List.count_eq_zero_of_not_mem (l := [s]) (by simp; omega)]
      simp

theorem cof_take {T : List Nat} (hn : T.Nodup) (c s : Nat) : (T.take c).count s = if s ∈ T ∧ T.idxOf s < c then 1 else 0 := by
  by_cases hs : s ∈ T
  · by_cases hc : T.idxOf s < c
    · rw [if_pos ⟨hs, hc⟩]
      have hmem : s ∈ T.take c := by
        have hlt := List.idxOf_lt_length_of_mem hs
        have e : (T.take c)[T.idxOf s]'(by rw [List.length_take]; omega) = s := by rw [List.getElem_take]; exact List.getElem_idxOf hlt
        rw [← e]
        exact List.getElem_mem _
      have h1 := List.nodup_iff_count.1 (hn.sublist (List.take_sublist c T)) s
      have h2 := List.count_pos_iff.2 hmem
      omega
    · rw [if_neg (fun h => hc h.2)]
      apply List.count_eq_zero_of_not_mem
      intro hm
      obtain ⟨i, hi, he⟩ := List.getElem_of_mem hm
      rw [List.length_take] at hi
      rw [List.getElem_take] at he
      have : T.idxOf s = i := by rw [← he]; exact hn.idxOf_getElem i (by omega)
      omega
  · rw [if_neg (fun h => hs h.1)]
    exact List.count_eq_zero_of_not_mem (fun hm => hs (List.mem_of_mem_take hm))

theorem leafs_take (f : Nat → Nat) (T : List Nat) (c : Nat) : syms ((leafs f T).take c) = T.take c := by
  rw [← syms_leafs f (T.take c)]
  simp [leafs]

theorem cof_sel {T : List Nat} (hn : T.Nodup) (f : Nat → Nat) (cs : List Nat) (s : Nat) : (cs.flatMap fun c => syms ((leafs f T).take c)).count s = if s ∈ T then ct cs (T.idxOf s) else 0 := by
  induction cs with
  | nil => simp [ct]
  | cons c cs ih =>
    rw [List.flatMap_cons, List.count_append, ih, leafs_take, cof_take hn, ct_cons]
    by_cases hs : s ∈ T
    · simp [hs]
    · simp [hs]

theorem cof_lm {l : List Int} {L : Nat} (h1 : (us6 l).length ≠ 1) (hm : 2 * (us6 l).length - 2 ≤ (nrow (leafs (fq l) (srl l)) L).length) (s : Nat) : cof (syms ((nrow (leafs (fq l) (srl l)) L).take (2 * (us6 l).length - 2))) s = lm l L s := by
  unfold cof
  have hp := sel_syms (leafs (fq l) (srl l)) L (2 * (us6 l).length - 2) hm
  rw [hp.count_eq, cof_sel (srl_nodup l)]
  unfold lm
  rw [if_neg h1]
  have e : (leafs (fq l) (srl l)).map (·.1) = lws l := by unfold leafs lws; rw [List.map_map]; rfl
  rw [e]
  by_cases hs : s ∈ us6 l
  · rw [if_pos (srl_mem.2 hs), if_pos hs]
  · rw [if_neg (fun q => hs (srl_mem.1 q)), if_neg hs]
end Go.Proofs.YtkmefeihkmbngaaDoor

namespace Go.Proofs.YtkmefeihkmbngaaDoor
open Go.RowKit Go.Maps
set_option maxRecDepth 20000
set_option linter.unusedVariables false
set_option linter.unusedSimpArgs false

structure Npt (B C : Nat) (u : Value) (R : List Mnd) : Prop where
  row : ∀ b, u.ownBlock = some b → b < B ∨ C ≤ b
  holds : ∀ p ∈ R, ∀ b, p.2.ownBlock = some b → b < B ∨ C ≤ b

structure Lst (w1 wo : World) (B C n : Nat) (lv : Value) (len : Nat → Nat) (W : World) : Prop where
  le : OI W B lv (hls n len)
  keep : ∀ b, b < B ∨ C ≤ b → W.heap[b]? = wo.heap[b]?
  bl : Below w1.heap.size w1 W

theorem Lst.on {w1 wo W : World} {B C n b0 : Nat} {lv u : Value} {len : Nat → Nat} {R : List Mnd} (h : Lst w1 wo B C n lv len W) (ho : ON wo b0 u R) (hp : Npt B C u R) : ON W b0 u R :=
  ⟨rown_move6 ho.row fun k hk => h.keep k (hp.row k hk), fun p hq => (ho.holds p hq).move fun k hk => h.keep k (hp.holds p hq k hk)⟩

theorem Lst.bump {w1 wo W : World} {B C n gl c s : Nat} {A : List Nat} (h : Lst w1 wo B C n (.slice (some ⟨gl, 0, none⟩) n c) (cof A) W) (h1 : B ≤ gl) (h2 : gl < C) (hw : w1.heap.size ≤ B) (hs : s < n) :
    W.cell? ⟨gl, s, none⟩ = some (.int .i64 (cof A s : Int)) ∧ W.frozen? ⟨gl, s, none⟩ = false ∧ Lst w1 wo B C n (.slice (some ⟨gl, 0, none⟩) n c) (cof (A ++ [s])) (W.setCell ⟨gl, s, none⟩ (.int .i64 ((cof A s : Int) + 1))) := by
  have e1 := h.le.get (b := gl) rfl (i := s) (by rw [hls_len]; exact hs)
  rw [hls_get (cof A) hs] at e1
  refine ⟨e1, (h.le.putg (k := s) (by rw [hls_len]; exact hs) 0).2.1, ?_, fun b hb => ?_, h.bl.setCell (p := ⟨gl, s, none⟩) (by show w1.heap.size ≤ gl; omega) _⟩
  · have e2 := (h.le.putg (k := s) (by rw [hls_len]; exact hs) ((cof A s : Int) + 1)).2.2
    rw [cof_step A hs] at e2
    exact e2
  · rw [setCell_others _ _ _ _ b (by show b ≠ gl; omega)]
    exact h.keep b hb

theorem npk_in {l : List Nod} {s : Nat} (h : s ∈ syms (npk l)) : s ∈ syms l := by
  induction l using npk.induct with
  | case1 a b r ih =>
    rw [npk] at h
    simp only [syms, List.flatMap_cons, List.mem_append] at h ih ⊢
    rcases h with (h | h) | h
    · exact .inl h
    · exact .inr (.inl h)
    · exact .inr (.inr (ih h))
  | case2 l hl =>
    rw [npk.eq_2 _ hl] at h
    simp [syms] at h

theorem nmg_in {a b : List Nod} {s : Nat} (h : s ∈ syms (nmg a b)) : s ∈ syms a ∨ s ∈ syms b := by
  induction a, b using nmg.induct with
  | case1 p => rw [nmg] at h; exact .inr h
  | case2 a w => rw [nmg] at h; exact .inl h
  | case3 a w b p c ih =>
    rw [nmg, if_pos c] at h
    simp only [syms, List.flatMap_cons, List.mem_append] at h ih ⊢
    rcases h with h | h
    · exact .inl (.inl h)
    · rcases ih h with h | h
      · exact .inl (.inr h)
      · exact .inr h
  | case4 a w b p c ih =>
    rw [nmg, if_neg c] at h
    simp only [syms, List.flatMap_cons, List.mem_append] at h ih ⊢
    rcases h with h | h
    · exact .inr (.inl h)
    · rcases ih h with h | h
      · exact .inl h
      · exact .inr (.inr h)

theorem nrow_in {W : List Nod} {k s : Nat} (h : s ∈ syms (nrow W k)) : s ∈ syms W := by
  induction k with
  | zero => simp [nrow, syms] at h
  | succ k ih =>
    rcases nmg_in h with h | h
    · exact h
    · exact ih (npk_in h)

theorem syms_cut (R : List Nod) (i : Nat) : (syms (R.take i)).length ≤ (syms R).length := by
  have e : (syms R).length = (syms (R.take i)).length + (syms (R.drop i)).length := by
    rw [← List.length_append]
    unfold syms
    rw [← List.flatMap_append, List.take_append_drop]
  omega

theorem cof_le (A : List Nat) (s : Nat) : cof A s ≤ A.length := List.count_le_length

set_option maxHeartbeats 8000000 in
theorem xlimited_any (v : Value) (l : List Int) (lim : Int) (w : World) (h : SI w v l) (hlim : -9223372036854775808 ≤ lim ∧ lim ≤ 9223372036854775807) :
    Calls Tryd.prog 35 #[v, .int .i64 lim] w fun e w' => ∃ a c, e = .returned (.tuple #[.slice a (lmL l lim).length c, .int .i64 (lmE l lim)]) ∧ OI w' w.heap.size (.slice a (lmL l lim).length c) (lmL l lim) ∧ Below w.heap.size w w' := by
  have HS := hide h
  obtain ⟨ao, cap, rfl, hlc, hcm⟩ := h.open
  clear h
  by_cases h1 : 288 < l.length ∨ lim < 1 ∨ 15 < lim
  · have HE : Hid (lmE l lim = 1) := if_pos h1
    have HV : Hid (lmL l lim = []) := if_neg (by rw [HE.out]; decide)
    rw [HE.out, HV.out]
    by_cases q1 : 288 < l.length
    · have q1' : (288 : Int) < (l.length : Int) := by omega
      clear h1
      go_enter Tryd.func35, Tryd.ntmps35
      go_wp2
      go_ret2
      exact ⟨none, 0, rfl, World.ownsRow_nil _ _ _ _, Below.refl _ _⟩
    · have q1' : ¬ (288 : Int) < (l.length : Int) := by omega
      by_cases q2 : lim < 1
      · clear h1
        go_enter Tryd.func35, Tryd.ntmps35
        go_wp2
        go_ret2
        exact ⟨none, 0, rfl, World.ownsRow_nil _ _ _ _, Below.refl _ _⟩
      · have q3 : 15 < lim := by omega
        clear h1
        go_enter Tryd.func35, Tryd.ntmps35
        go_wp2
        go_ret2
        exact ⟨none, 0, rfl, World.ownsRow_nil _ _ _ _, Below.refl _ _⟩
  have q1 : ¬ (288 : Int) < (l.length : Int) := by omega
  obtain ⟨L, rfl⟩ : ∃ L : Nat, lim = L := ⟨lim.toNat, by omega⟩
  have q2 : ¬ (L : Int) < 1 := by omega
  have q3 : ¬ 15 < (L : Int) := by omega
  have hL1 : 1 ≤ L ∧ L ≤ 15 := by omega
  have hl288 : l.length ≤ 288 := by omega
  have HLT : Hid ((L : Int).toNat = L) := Int.toNat_natCast L
  cases hw : bnb l 4294967296 with
  | false =>
    have HE : Hid (lmE l L = 61) := by show lmE l L = 61; unfold lmE; rw [if_neg h1, if_pos hw]
    have HV : Hid (lmL l L = []) := if_neg (by rw [HE.out]; decide)
    rw [HE.out, HV.out]
    have HW := hide hw
    clear hw h1
    go_enter Tryd.func35, Tryd.ntmps35
    go_wp2_with fail
    refine (weighs_any _ l _ HS.out).mono ?_
    rintro e w1 ⟨rfl, rfl⟩
    rw [HW.out]
    go_wp2
    go_ret2
    exact ⟨none, 0, rfl, World.ownsRow_nil _ _ _ _, Below.refl _ _⟩
  | true =>
    have HW := hide hw
    have hbn := bnb_iff.1 hw
    have hnn : ∀ i, 0 ≤ l.getD i 0 := fun i => by
      by_cases c : i < l.length
      · exact (hbn i c).1
      · rw [List.getD_eq_getElem?_getD, List.getElem?_eq_none (by omega)]; exact Int.le_refl _
    have HMU : Hid (∀ s ∈ us6 l, s < l.length) := fun s hs => (mem_us.1 hs).1
    have hul := us_le6 (l := l)
    obtain ⟨p, hp⟩ : ∃ p, p = 2 ^ L := ⟨_, rfl⟩
    obtain ⟨p1, p2, p3, p4⟩ := pow15 hL1.2 hp
    by_cases h60 : p < (us6 l).length
    · have HE : Hid (lmE l L = 60) := by show lmE l L = 60; unfold lmE; rw [if_neg h1, if_neg (by rw [hw]; decide), HLT.out, if_pos (by rw [← hp]; exact h60)]
      have HV : Hid (lmL l L = []) := if_neg (by rw [HE.out]; decide)
      rw [HE.out, HV.out]
      have hnnl := hnn
      clear hw h1 hbn hnn hp
      go_enter Tryd.func35, Tryd.ntmps35
      go_wp2_with fail
      refine (weighs_any _ l _ HS.out).mono ?_
      rintro e w1 ⟨rfl, rfl⟩
      rw [HW.out]
      go_wp2_with fail
      refine (leaves_any _ l _ HS.out hl288 hnnl).mono ?_
      rintro e w2 ⟨v2, rfl, M, ho2, hM, hb2⟩
      have HB2 := hide hb2
      have hMl : M.length = (us6 l).length := by rw [← mro_len, hM, leafs_len, srl_len]
      obtain ⟨a2, c2, hv2, _⟩ := ho2.shape
      rw [hMl] at hv2
      subst hv2
      have h60' : (p : Int) < ((us6 l).length : Int) := by omega
      clear ho2 hb2 hM hMl hnnl
      go_wp2
      go_ret2
      exact ⟨none, 0, rfl, World.ownsRow_nil _ _ _ _, HB2.out⟩
    · have HE : Hid (lmE l L = 0) := by show lmE l L = 0; unfold lmE; rw [if_neg h1, if_neg (by rw [hw]; decide), HLT.out, if_neg (by rw [← hp]; exact h60)]
      have HV : Hid (lmL l L = lmt l L) := by show _ = _; unfold lmL; rw [if_pos HE.out, HLT.out]
      rw [HE.out, HV.out, lmt_len]
      have hnnl := hnn
      have HTOT := hide (tot_le hbn hl288)
      have HRM : Hid (2 * (us6 l).length - 2 ≤ (nrow (leafs (fq l) (srl l)) L).length) := by
        show _ ≤ _
        have e : (nrow (leafs (fq l) (srl l)) L).length = (row (lws l) L).length := by
          have e0 := congrArg List.length (nrow_fst (leafs (fq l) (srl l)) L)
          rw [List.length_map] at e0
          rw [e0]
          congr 2
          unfold leafs lws
          rw [List.map_map]
          rfl
        obtain ⟨L', rfl⟩ : ∃ L', L = L' + 1 := ⟨L - 1, by omega⟩
        have := row_room (lws l) L' 2 (by rw [lws_len]; rw [hp, Nat.pow_succ] at h60; omega)
        rw [lws_len] at this
        rw [e]
        omega
      clear hw h1 hbn hnn hp
      go_enter Tryd.func35, Tryd.ntmps35
      go_wp2_with fail
      refine (weighs_any _ l _ HS.out).mono ?_
      rintro e w1 ⟨rfl, rfl⟩
      rw [HW.out]
      go_wp2_with fail
      refine (leaves_any _ l _ HS.out hl288 hnnl).mono ?_
      rintro e w2 ⟨v2, rfl, M, ho2, hM, hb2⟩
      have HB2 := hide hb2
      have HO2 := hide ho2
      have HM := hide hM
      have hMl : M.length = (us6 l).length := by rw [← mro_len, hM, leafs_len, srl_len]
      obtain ⟨a2, c2, hv2, _⟩ := ho2.shape
      rw [hMl] at hv2
      subst hv2
      have h60' : ¬ (p : Int) < ((us6 l).length : Int) := by omega
      clear ho2 hb2 hM hnnl
      have hB12 := HB2.out.size
      go_wp2_with fail
      refine (zeros_any l.length _ (by omega)).mono ?_
      rintro e w3 ⟨a3, c3, rfl, ho3, hb3⟩
      have HO3 := hide ho3
      have HB3 := hide hb3
      have HB13 := hide (HB2.out.trans (hb3.mono hB12))
      have HO23 := hide (HO2.out.below hb3 (Nat.le_refl _))
      clear ho3 hb3
      have hB23 := HB3.out.size
      by_cases hu1 : (us6 l).length = 1
      · obtain ⟨s0, hs0⟩ := List.length_eq_one_iff.1 (show (srl l).length = 1 by rw [srl_len]; exact hu1)
        have hsu : s0 ∈ us6 l := srl_mem.1 (by rw [hs0]; simp)
        have hsl : s0 < l.length := (mem_us.1 hsu).1
        have hul1 : us6 l = [s0] := by
          obtain ⟨t, ht⟩ := List.length_eq_one_iff.1 hu1
          rw [ht] at hsu ⊢
          rw [List.mem_singleton.1 hsu]
        have hM0 : (M.getD 0 mn0).1 = (fq l s0, [s0]) := by rw [← mro_get, HM.out, hs0]; rfl
        obtain ⟨g, c, hv, _, x2⟩ := HO23.out.get (i := 0) (by omega)
        have hho := HO23.out.holds _ (md_mem (show 0 < M.length by omega))
        rw [hM0] at hho
        obtain ⟨pv, hpv⟩ : ∃ pv, pv = (M.getD 0 mn0).2 := ⟨_, rfl⟩
        rw [← hpv] at x2 hho
        obtain ⟨gp, cp, hpf, _⟩ := hho.form (by simp [ci])
        have hpc := hho.get (b := gp) (by rw [hpf]; rfl) (i := 0) (by simp [ci])
        have hpc' : w3.cell? ⟨gp, 0, none⟩ = some (.int .i64 (s0 : Int)) := hpc
        have hpf' : pv = .slice (some ⟨gp, 0, none⟩) 1 cp := hpf
        rw [hpf'] at x2
        have x2' : w3.cell? ⟨g, 1, none⟩ = some (.slice (some ⟨gp, 0, none⟩) 1 cp) := x2
        rw [hMl] at hv
        simp only [Value.slice.injEq] at hv
        obtain ⟨rfl, -, rfl⟩ := hv
        obtain ⟨g2, d2, hv2, hc2⟩ := HO3.out.form (by rw [List.length_replicate]; omega)
        simp only [Value.slice.injEq] at hv2
        obtain ⟨rfl, -, rfl⟩ := hv2
        obtain ⟨⟨y, hy⟩, hfz, hox⟩ := HO3.out.putg (k := s0) (by rw [List.length_replicate]; exact hsl) 1
        have hs0l : (s0 : Int) < (l.length : Int) := by omega
        have hu1'' : ((us6 l).length : Int) = 1 := by omega
        have HF : Hid (OI (w3.setCell ⟨g2, s0, none⟩ (.int .i64 1)) w1.heap.size (.slice (some ⟨g2, 0, none⟩) l.length c3) (lmt l L) ∧ Below w1.heap.size w1 (w3.setCell ⟨g2, s0, none⟩ (.int .i64 1))) := by
          refine ⟨?_, HB13.out.setCell (p := ⟨g2, s0, none⟩) (by show w1.heap.size ≤ g2; have := hc2.1; omega) _⟩
          have e : (List.replicate l.length (0 : Int)).set s0 1 = lmt l L := by
            rw [← lmt_few (L := L) (by omega), hul1]
            apply List.ext_getElem
            · simp [spr]
            · intro i h1 h2
              rw [List.getElem_set]
              simp [spr, eq_comm]
          rw [← e]
          exact hox.base hB12
        clear hho hpc hpf hpf' hpv hox hc2 x2 hM0 hul1 hsu hs0 HTOT HRM
        go_wp2
        go_ret2
        exact ⟨_, _, rfl, HF.out.1, HF.out.2⟩
      · have hu1' : ¬ ((us6 l).length : Int) = 1 := by omega
        have HCL := hide (cof_lm (l := l) (L := L) hu1 HRM.out)
        obtain ⟨W, HWW⟩ : ∃ W, Hid (W = leafs (fq l) (srl l)) := ⟨_, hide rfl⟩
        rw [← HWW.out] at HM HRM HCL
        have HSUM : Hid (∀ k, k ≤ 15 → ((nrow W k).map (·.1)).sum ≤ 1000000000000000 ∧ (syms (nrow W k)).length ≤ 100000 ∧ (nrow W k).length ≤ 600) := fun k hk => by
          have h1 := nrow_sum W k
          have h2 : (W.map (·.1)).sum ≤ 1236950581248 := by
            have e : (W.map (·.1)).sum = ((us6 l).map (fq l)).sum := by
              rw [HWW.out]
              unfold leafs
              rw [List.map_map]
              exact ((srl_srt l).perm.map (fq l)).sum_nat
            rw [e]
            exact HTOT.out
          have h3 : (syms W).length ≤ 288 := by rw [HWW.out, syms_leafs, srl_len]; omega
          have h4 : W.length ≤ 288 := by rw [HWW.out, leafs_len, srl_len]; omega
          have h5 := Nat.mul_le_mul hk h2
          have h6 := Nat.mul_le_mul hk h3
          omega
        have HSLT : Hid (∀ s ∈ syms (nrow W L), s < l.length) := fun s hs => by
          have h1 := nrow_in hs
          rw [HWW.out, syms_leafs] at h1
          exact HMU.out s (srl_mem.1 h1)
        have hMu : M.length ≤ 288 := by omega
        obtain ⟨u, hu⟩ : ∃ u, u = (us6 l).length := ⟨_, rfl⟩
        have hu' : (us6 l).length = u := hu.symm
        rw [hu'] at HO2 HO23 HRM HCL hu1' h60' hMl hul ⊢
        have HMU2 : Hid (M.length = u) := hMl
        have HNP : Hid (Npt w2.heap.size w3.heap.size (.slice a2 u c2) M) := ⟨fun b hb => .inl (HO2.out.lt b hb).2, fun p hp b hb => .inl ((HO2.out.holds p hp).lt b hb).2⟩
        have HZ : Hid (hls l.length (cof []) = List.replicate l.length 0) := hls_zero _
        have hn15 : (L : Int) ≤ 15 := by omega
        have hu1b : ((u : Int) == 1) = false := by simp; omega
        have hw2u : IntKind.i64.wrap (2 * (u : Int)) = 2 * (u : Int) := by rw [IntKind.wrap_i64]; omega
        have hw2v : IntKind.i64.wrap (2 * (u : Int) - 2) = 2 * (u : Int) - 2 := by rw [IntKind.wrap_i64]; omega
        clear hu hMl HTOT h60 hMu hu1
        go_wp2
        go_loopw [10, 11] (fun v vk wr => ∃ (k : Nat) (R : List Mnd), 1 ≤ k ∧ k ≤ L ∧ vk = .int .i64 ((k : Int) + 1) ∧ Hid (ON wr 0 v R) ∧ Hid (mro R = nrow W k) ∧ Hid (Npt w2.heap.size w3.heap.size v R) ∧ Hid (Below w3.heap.size w3 wr)) (fun _ vk _ => L + 1 - (intOf vk).toNat)
        case atStart => exact ⟨1, M, Nat.le_refl _, hL1.1, rfl, HO23.out.base (Nat.zero_le _), by rw [nrow_one]; exact HM.out, HNP, Below.refl _ _⟩
        case round =>
          obtain ⟨k, R, hk1, hkL, rfl, HR, HRW, HNR, HBW⟩ := hrel
          have hBw := HBW.out.size
          by_cases hlt : k < L
          · have hlt' : (k : Int) + 1 ≤ (L : Int) := by omega
            obtain ⟨s1, s2, s3⟩ := HSUM.out k (by omega)
            rw [← HRW.out] at s1 s2 s3
            rw [mro_len] at s3
            obtain ⟨ar, cr, hvr, _⟩ := HR.out.shape
            subst hvr
            go_wp2_with fail
            refine (packages_any _ R _ _ HR.out (by omega) s1 s2).mono ?_
            rintro e w5 ⟨v5, rfl, M5, ho5, hM5, hab5, hb5⟩
            have HO5 := hide ho5
            have HM5 := hide hM5
            have HA5 := hide hab5
            have HB5 := hide (HBW.out.trans (hb5.mono hBw))
            have hB5 := hb5.size
            obtain ⟨q1, q2, q3⟩ := HSUM.out (k + 1) (by omega)
            have hM5l : M5.length ≤ 1000 := by
              have e := congrArg List.length hM5
              rw [mro_len] at e
              have := (npk_sum (mro R)).2.2
              rw [mro_len] at this
              omega
            have HO25 := hide (HO23.out.below HB5.out (Nat.le_refl _))
            clear ho5 hM5 hab5 hb5 q1 q2 q3 s1 s2
            go_wp2_with fail
            refine (merged_any _ _ M M5 _ _ _ HO25.out HO5.out (by rw [HMU2.out]; omega) hM5l).mono ?_
            rintro e w6 ⟨v6, rfl, ho6, hb6⟩
            have HN6 : Hid (Npt w2.heap.size w3.heap.size v6 (mmg M M5)) := ⟨fun b hb => .inr (by have := (ho6.lt b hb).1; omega), fun p hp b hb => by
              rcases mmg_mem hp with hp | hp
              · exact HNP.out.holds p hp b hb
              · exact .inr (by have := HA5.out p hp b hb; omega)⟩
            have HR6 : Hid (mro (mmg M M5) = nrow W (k + 1)) := by
              show _ = _
              rw [mmg_row, HM.out, HM5.out, HRW.out]
              rfl
            have HO6 : Hid (ON w6 0 v6 (mmg M M5)) := ho6.base (Nat.zero_le _)
            have HB6 : Hid (Below w3.heap.size w3 w6) := HB5.out.trans (hb6.mono HB5.out.size)
            obtain ⟨a6, c6, hv6, _⟩ := HO6.out.shape
            obtain ⟨n6, hn6⟩ : ∃ n, n = (mmg M M5).length := ⟨_, rfl⟩
            rw [← hn6] at hv6
            subst hv6
            clear ho6 hb6 hn6
            go_wp2
            go_roundw
            case rel => exact ⟨k + 1, _, by omega, by omega, by go_num, HO6, HR6, HN6, HB6⟩
            case measure => simp [intOf]; omega
          · obtain rfl : k = L := by omega
            have hlt' : ¬ (k : Int) + 1 ≤ (k : Int) := by omega
            obtain ⟨N, hN⟩ : ∃ N, N = 2 * u - 2 := ⟨_, rfl⟩
            rw [← hN] at HRM HCL
            have hNb : N ≤ 600 ∧ (N : Int) ≥ 2 * (u : Int) - 2 ∧ (∀ i : Nat, i < N → (i : Int) < 2 * (u : Int) - 2) := ⟨by omega, by omega, fun i hi => by omega⟩
            obtain ⟨hN6, hNg, hNl⟩ := hNb
            have HNl := hide hNl
            have HRL : Hid (N ≤ R.length) := by show _ ≤ _; rw [← mro_len, HRW.out]; exact HRM.out
            have hR6 : R.length ≤ 600 := by rw [← mro_len, HRW.out]; exact (HSUM.out k (by omega)).2.2
            have HLS : Hid (Lst w1 wr w2.heap.size w3.heap.size l.length (.slice a3 l.length c3) (cof (syms ((mro R).take 0))) wr) := by
              refine ⟨?_, fun _ _ => rfl, HB13.out.trans (HBW.out.mono (by omega))⟩
              rw [List.take_zero]
              have := HO3.out.below HBW.out (Nat.le_refl _)
              rw [← HZ.out] at this
              exact this
            have HLB : Hid (∀ b, (Value.slice a3 l.length c3).ownBlock = some b → w2.heap.size ≤ b ∧ b < w3.heap.size) := fun b hb => HO3.out.lt b hb
            obtain ⟨ar, cr, hvr, _⟩ := HR.out.shape
            obtain ⟨rl, hrl⟩ : ∃ n, n = R.length := ⟨_, rfl⟩
            rw [← hrl] at hvr hR6 HRL
            subst hvr
            have HRR := hide hrl
            rename World => wo
            clear hN hNl hrl HO2 HO23 HO3 HNP HM
            go_wp2
            go_loopw [13] (fun vi wr => ∃ i : Nat, i ≤ N ∧ vi = .int .i64 (i : Int) ∧ Hid (Lst w1 wo w2.heap.size w3.heap.size l.length (.slice a3 l.length c3) (cof (syms ((mro R).take i))) wr)) (fun vi _ => N - (intOf vi).toNat)
            case atStart => exact ⟨0, Nat.zero_le _, rfl, HLS⟩
            case round =>
              clear HLS
              obtain ⟨i, hi, rfl, HL1⟩ := hrel
              by_cases hil : i < N
              · have hil' := HNl.out i hil
                have hirl : i < rl := Nat.lt_of_lt_of_le hil HRL.out
                have hirl' : (i : Int) < (rl : Int) := by omega
                have hiR : i < R.length := by rw [← HRR.out]; exact hirl
                have hpi := md_mem hiR
                have HTI : Hid (syms ((mro R).take (i + 1)) = syms ((mro R).take i) ++ (R.getD i mn0).1.2) := by
                  show _ = _
                  have hi3 : i < (mro R).length := by rw [mro_len]; exact hiR
                  rw [List.take_succ_eq_append_getElem hi3]
                  have e : (mro R)[i] = (R.getD i mn0).1 := by rw [← mro_get]; simp [hi3]
                  rw [e]
                  unfold syms
                  simp
                have HSS : Hid (∀ s ∈ (R.getD i mn0).1.2, s < l.length) := fun s hs => by
                  refine HSLT.out s ?_
                  rw [← HRW.out]
                  unfold syms
                  rw [List.mem_flatMap]
                  exact ⟨(R.getD i mn0).1, List.mem_map.2 ⟨_, hpi, rfl⟩, hs⟩
                have HAL : Hid (∀ i, (syms ((mro R).take i)).length ≤ 100000) := fun i => by
                  refine Nat.le_trans (syms_cut _ i) ?_
                  have := (HSUM.out k (by omega)).2.1
                  rw [← HRW.out] at this
                  exact this
                have HAL1 := hide (HAL.out (i + 1))
                have HONw := hide (HL1.out.on HR.out HNR.out)
                have HNP1 : Hid (∀ b, (R.getD i mn0).2.ownBlock = some b → b < w2.heap.size ∨ w3.heap.size ≤ b) := HNR.out.holds _ hpi
                obtain ⟨A, HAA⟩ : ∃ A, Hid (A = syms ((mro R).take i)) := ⟨_, hide rfl⟩
                rw [← HAA.out] at HL1 HTI
                rw [HTI.out, List.length_append] at HAL1
                have hho := HONw.out.holds _ hpi
                obtain ⟨P, HPx⟩ : ∃ p, Hid (p = R.getD i mn0) := ⟨_, hide rfl⟩
                rw [← HPx.out] at hho HTI HSS HAL1
                obtain ⟨⟨pw, ph⟩, pv⟩ := P
                obtain ⟨ap, cp, hpv⟩ := hho.shape
                rw [ci_len] at hpv
                have hpv' : pv = .slice ap ph.length cp := hpv
                subst hpv'
                have hApl : A.length + ph.length ≤ 100000 := HAL1.out
                have HTI2 : Hid (syms ((mro R).take (i + 1)) = A ++ ph) := HTI.out
                have HSS2 : Hid (∀ s ∈ ph, s < l.length) := HSS.out
                clear hho hpv HTI HSS HAL1 HAL HNP1
                obtain ⟨gx0, cx0, hvx0, z1, z2⟩ := HONw.out.get (i := i) hiR
                rw [← HPx.out] at z2
                rw [← HRR.out] at hvx0
                simp only [Value.slice.injEq] at hvx0
                obtain ⟨rfl, -, rfl⟩ := hvx0
                have z2' : wr.cell? ⟨gx0, i * 2 + 1, none⟩ = some (.slice ap ph.length cp) := z2
                clear z1 z2 HONw
                have HL0 : Hid (Lst w1 wo w2.heap.size w3.heap.size l.length (.slice a3 l.length c3) (cof (A ++ ph.take 0)) wr) := by rw [List.take_zero, List.append_nil]; exact HL1.out
                go_wp2
                clear z2' HL1
                go_loopw [14] (fun vj wr => ∃ j : Nat, j ≤ ph.length ∧ vj = .int .i64 (j : Int) ∧ Hid (Lst w1 wo w2.heap.size w3.heap.size l.length (.slice a3 l.length c3) (cof (A ++ ph.take j)) wr)) (fun vj _ => ph.length - (intOf vj).toNat)
                case atStart => exact ⟨0, Nat.zero_le _, rfl, HL0⟩
                case round =>
                  clear HL0
                  obtain ⟨j, hj, rfl, HL2⟩ := hrel
                  have HON2 := hide (HL2.out.on HR.out HNR.out)
                  obtain ⟨gx, cx, hvx, _, z2⟩ := HON2.out.get (i := i) hiR
                  rw [← HPx.out] at z2
                  rw [← HRR.out] at hvx
                  simp only [Value.slice.injEq, Option.some.injEq, Addr.mk.injEq, and_true] at hvx
                  obtain ⟨hvx1, -⟩ := hvx
                  subst hvx1
                  have z2' : wr.cell? ⟨gx0, i * 2 + 1, none⟩ = some (.slice ap ph.length cp) := z2
                  clear z2
                  have hho := HON2.out.holds _ hpi
                  rw [← HPx.out] at hho
                  have hho2 : OI wr 0 (.slice ap ph.length cp) (ci ph) := hho
                  clear hho
                  by_cases hjl : j < ph.length
                  · have hjl' : (j : Int) < (ph.length : Int) := by omega
                    obtain ⟨ga, da, hva, _⟩ := hho2.form (by rw [ci_len]; omega)
                    have hck := hho2.get (b := ga) (by rw [hva]; rfl) (i := j) (by rw [ci_len]; omega)
                    rw [ci_get] at hck
                    have hsl := HSS2.out _ (getD_mem6 hjl)
                    have HTJ : Hid (A ++ ph.take (j + 1) = (A ++ ph.take j) ++ [ph.getD j 0]) := by
                      show _ = _
                      rw [List.take_succ_eq_append_getElem hjl]
                      simp [hjl]
                    obtain ⟨s, HSE⟩ : ∃ s, Hid (s = ph.getD j 0) := ⟨_, hide rfl⟩
                    rw [← HSE.out] at hck hsl HTJ
                    simp only [Value.slice.injEq] at hva
                    obtain ⟨rfl, -, rfl⟩ := hva
                    obtain ⟨gl, dl, hvl, _⟩ := HL2.out.le.form (by rw [hls_len]; omega)
                    simp only [Value.slice.injEq] at hvl
                    obtain ⟨rfl, -, rfl⟩ := hvl
                    obtain ⟨gl1, gl2⟩ := HLB.out gl rfl
                    obtain ⟨f1, f2, hL3⟩ := HL2.out.bump gl1 gl2 hB12 hsl
                    rw [← HTJ.out] at hL3
                    have hyb := cof_le (A ++ ph.take j) s
                    rw [List.length_append, List.length_take] at hyb
                    have HL3 := hide hL3
                    obtain ⟨y, HY⟩ : ∃ y, Hid (y = cof (A ++ ph.take j) s) := ⟨_, hide rfl⟩
                    rw [← HY.out] at f1 HL3 hyb
                    have hyb2 : (y : Int) + 1 ≤ 1000000 := by omega
                    have hsl' : (s : Int) < (l.length : Int) := by omega
                    clear hL3 hho2 HL2 hyb HON2
                    go_wp2
                    go_roundw
                    case rel => exact ⟨j + 1, by omega, by go_num, HL3⟩
                    case measure => simp [intOf]; omega
                  · obtain rfl : j = ph.length := by omega
                    have hjl' : ¬ (ph.length : Int) < (ph.length : Int) := by omega
                    have HL4 : Hid (Lst w1 wo w2.heap.size w3.heap.size l.length (.slice a3 l.length c3) (cof (syms ((mro R).take (i + 1)))) wr) := by
                      have := HL2.out
                      rw [List.take_of_length_le (Nat.le_refl _)] at this
                      rw [HTI2.out]
                      exact this
                    clear HL2 hho2 HON2
                    go_wp2
                    go_roundw
                    case rel => exact ⟨i + 1, by omega, by go_num, HL4⟩
                    case measure => simp [intOf]; omega
              · obtain rfl : i = N := by omega
                have hil' : ¬ (i : Int) < 2 * (u : Int) - 2 := by omega
                have HF : Hid (OI wr w1.heap.size (.slice a3 l.length c3) (lmt l k) ∧ Below w1.heap.size w1 wr) := by
                  refine ⟨?_, HL1.out.bl⟩
                  have e : hls l.length (cof (syms ((mro R).take i))) = lmt l k := by
                    unfold hls lmt
                    apply List.map_congr_left
                    intro s _
                    rw [HRW.out, HCL.out]
                  rw [← e]
                  exact HL1.out.le.base hB12
                clear HL1
                go_wp2
                go_ret2
                exact ⟨_, _, rfl, HF.out.1, HF.out.2⟩
end Go.Proofs.YtkmefeihkmbngaaDoor

namespace Go.Proofs.YtkmefeihkmbngaaDoor
open Go.RowKit Go.Maps
set_option maxRecDepth 20000
set_option linter.unusedVariables false

theorem otrees_any (al ad : Option Addr) (nl cl nd cd : Nat) (L D : List Int) (w : World) (h1 : SI w (.slice al nl cl) L) (h2 : SI w (.slice ad nd cd) D) (k1 : ∀ k, (Value.slice al nl cl).ownBlock = some k → k < w.heap.size) (k2 : ∀ k, (Value.slice ad nd cd).ownBlock = some k → k < w.heap.size) :
    Calls Tryd.prog 30 #[.agg #[.slice al nl cl, .slice ad nd cd]] w fun e w' => ∃ a1 c1 a2 c2, e = .returned (.agg #[.slice a1 (lmL L 15).length c1, .slice a2 (lmL D 15).length c2]) ∧ OI w' w.heap.size (.slice a1 (lmL L 15).length c1) (lmL L 15) ∧ OI w' w.heap.size (.slice a2 (lmL D 15).length c2) (lmL D 15) ∧
      (∀ k, (Value.slice a1 (lmL L 15).length c1).ownBlock = some k → (Value.slice a2 (lmL D 15).length c2).ownBlock ≠ some k) ∧ Below w.heap.size w w' := by
  obtain ⟨wb, hwb⟩ : ∃ wb, w.alloc (.cells #[.slice al nl cl, .slice ad nd cd] 53) = wb := ⟨_, rfl⟩
  obtain ⟨wr, hwr⟩ : ∃ wr, wb.alloc (.cells #[.slice none 0 0, .slice none 0 0] 53) = wr := ⟨_, rfl⟩
  have HB1 : Hid (Below w.heap.size w wb) := by rw [← hwb]; exact (Below.refl _ _).alloc (Nat.le_refl _) _
  have HB2 : Hid (Below w.heap.size w wr) := by rw [← hwr]; exact HB1.out.alloc HB1.out.size _
  have sb : wb.heap.size = w.heap.size + 1 := by rw [← hwb]; simp
  have sr : wr.heap.size = w.heap.size + 1 + 1 := by rw [← hwr]; simp [sb]
  have n1 : wr.heap[w.heap.size]? = some (.cells #[.slice al nl cl, .slice ad nd cd] 53 (0, 0)) := by rw [← hwr, alloc_at, if_neg (by omega), ← hwb, alloc_at, if_pos rfl]
  have n2 : wr.heap[w.heap.size + 1]? = some (.cells #[.slice none 0 0, .slice none 0 0] 53 (0, 0)) := by rw [← hwr, alloc_at, if_pos sb.symm]
  have c0 : wr.cell? ⟨w.heap.size, 0, none⟩ = some (.slice al nl cl) := by unfold World.cell?; rw [n1]; rfl
  have c1 : wr.cell? ⟨w.heap.size, 1, none⟩ = some (.slice ad nd cd) := by unfold World.cell?; rw [n1]; rfl
  have HL1 := hide (limited_any _ L 15 wr (h1.below HB2.out) (fun k hk => by have := k1 k hk; omega) (by decide))
  have HL2 : Hid (∀ w2, Below wr.heap.size wr w2 → Calls Tryd.prog 45 #[.slice ad nd cd, .int .i64 15] w2 fun e w' => ∃ a c, e = .returned (.tuple #[.slice a (lmL D 15).length c, .int .i64 (lmE D 15)]) ∧ OI w' w2.heap.size (.slice a (lmL D 15).length c) (lmL D 15) ∧ Below w2.heap.size w2 w') :=
    fun w2 b2 => limited_any _ D 15 w2 ((h2.below HB2.out).below b2) (fun k hk => by have := k2 k hk; have := b2.size; omega) (by decide)
  have HN1 := hide n1
  have HN2 := hide n2
  have HSR := hide sr
  obtain ⟨r, hr⟩ : ∃ r, w.heap.size + 1 = r := ⟨_, rfl⟩
  have HRL : Hid (r < wr.heap.size) := by show _ < _; omega
  rw [hr] at HN2 sb
  clear h1 h2 k1 k2 n1 n2 sr
  go_enter Tryd.func30, Tryd.ntmps30
  go_wp2_with fail
  refine HL1.out.mono ?_
  rintro e w3 ⟨a1, c1', rfl, o3, b3⟩
  have z1 : w3.cell? ⟨w.heap.size, 1, none⟩ = some (.slice ad nd cd) := (b3.cell (World.block_lt_of_cell? _ _ c1)).trans c1
  have HC2 := hide (HL2.out w3 b3)
  have HO3 := hide o3
  have HB3 := hide (HB2.out.trans (b3.mono HB2.out.size))
  have HN3 := hide ((b3.block r HRL.out).trans HN2.out)
  have HS3 := hide b3.size
  clear HL1 HL2 c0 c1 o3 b3 HN1 HN2
  go_wp2_with fail
  refine HC2.out.mono ?_
  rintro e w4 ⟨a2, c2', rfl, o4, b4⟩
  have HB4 := hide (HB3.out.trans (b4.mono HB3.out.size))
  have HN4 := hide ((b4.block r (lt_of_block HN3.out)).trans HN3.out)
  have HO4 := hide o4
  have HP4 := hide (HO3.out.move fun k hk => b4.block k (HO3.out.lt k hk).2)
  have hap : ∀ k, (Value.slice a1 (lmL L 15).length c1').ownBlock = some k → k ≠ r ∧ w.heap.size ≤ k ∧ k < w3.heap.size := fun k hk => by
    have := HO3.out.lt k hk
    have := HSR.out
    omega
  have hap2 : ∀ k, (Value.slice a2 (lmL D 15).length c2').ownBlock = some k → k ≠ r ∧ w.heap.size ≤ k ∧ w3.heap.size ≤ k := fun k hk => by
    have := HO4.out.lt k hk
    have := HSR.out
    have := HS3.out
    omega
  have HA1 := hide hap
  have HA2 := hide hap2
  have r0 : w4.cell? ⟨r, 0, none⟩ = some (.slice none 0 0) := by unfold World.cell?; rw [HN4.out]; rfl
  have r1 : w4.cell? ⟨r, 1, none⟩ = some (.slice none 0 0) := by unfold World.cell?; rw [HN4.out]; rfl
  have r2 : w4.frozen? ⟨r, 0, none⟩ = false := frozen_of_row _ _ _ _ _ HN4.out
  have r3 : w4.frozen? ⟨r, 1, none⟩ = false := frozen_of_row _ _ _ _ _ HN4.out
  clear z1 HC2 o4 b4 hap hap2 HN3 HO3 HS3
  obtain ⟨n1, HM1⟩ : ∃ n, Hid (n = (lmL L 15).length) := ⟨_, rfl⟩
  obtain ⟨n2, HM2⟩ : ∃ n, Hid (n = (lmL D 15).length) := ⟨_, rfl⟩
  rw [← HM1.out] at HP4 HA1 ⊢
  rw [← HM2.out] at HO4 HA2 ⊢
  obtain ⟨wf, hwf⟩ : ∃ wf, (w4.setCell ⟨r, 0, none⟩ (.slice a1 n1 c1')).setCell ⟨r, 1, none⟩ (.slice a2 n2 c2') = wf := ⟨_, rfl⟩
  have hoth : ∀ k, k ≠ r → wf.heap[k]? = w4.heap[k]? := fun k hk => by rw [← hwf, setCell_others _ _ _ _ _ hk, setCell_others _ _ _ _ _ hk]
  have HBF : Hid (Below w.heap.size w wf) := by rw [← hwf]; exact (HB4.out.setCell (p := ⟨r, 0, none⟩) (by show _ ≤ r; omega) _).setCell (p := ⟨r, 1, none⟩) (by show _ ≤ r; omega) _
  have HLF : Hid (OI wf w.heap.size (.slice a1 n1 c1') (lmL L 15)) := (HP4.out.base (by have := HSR.out; omega)).move fun k hk => hoth k (HA1.out k hk).1
  have HDF : Hid (OI wf w.heap.size (.slice a2 n2 c2') (lmL D 15)) := (HO4.out.base (by have := HB3.out.size; omega)).move fun k hk => hoth k (HA2.out k hk).1
  have hfb : wf.heap[r]? = some (.cells #[.slice a1 n1 c1', .slice a2 n2 c2'] 53 (0, 0)) := by
    have h1 := heap_setCell_same w4 r 0 _ _ (.slice a1 n1 c1') HN4.out
    have h2 := heap_setCell_same _ r 1 _ _ (.slice a2 n2 c2') h1
    rw [hwf] at h2
    simpa using h2
  have f0 : wf.cell? ⟨r, 0, none⟩ = some (.slice a1 n1 c1') := by unfold World.cell?; rw [hfb]; rfl
  have f1 : wf.cell? ⟨r, 1, none⟩ = some (.slice a2 n2 c2') := by unfold World.cell?; rw [hfb]; rfl
  clear hoth hfb
  go_wp2
  refine bodyPost_ret (v := .agg #[.slice a1 n1 c1', .slice a2 n2 c2']) (by simp [results, Tryd.results30, go_sem, f0, f1]) rfl ?_
  have e1 := HM1.out
  have e2 := HM2.out
  subst e1 e2
  refine ⟨_, _, _, _, rfl, HLF.out, HDF.out, fun k hk e => ?_, HBF.out⟩
  have q1 := HA1.out k hk
  have q2 := HA2.out k e
  omega

noncomputable def trL (R : List Tk) : List Int := if ctE R = 0 then lmL (ctL R) 15 else []
noncomputable def trD (R : List Tk) : List Int := if ctE R = 0 then lmL (ctD R) 15 else []

def Tra (B : Nat) (R : List Tk) (e : Ending) (w w' : World) : Prop :=
  ∃ vl vd, e = .returned (.tuple #[vl, vd, .int .i64 (ctE R)]) ∧ OI w' B vl (trL R) ∧ OI w' B vd (trD R) ∧ (∀ k, vl.ownBlock = some k → vd.ownBlock ≠ some k) ∧ Below B w w'

theorem tra_no {R : List Tk} {B : Nat} {w w' : World} (hE : ctE R ≠ 0) (hb : Below B w w') : Tra B R (.returned (.tuple #[.slice none 0 0, .slice none 0 0, .int .i64 (ctE R)])) w w' := by
  have h1 : trL R = [] := by unfold trL; rw [if_neg hE]
  have h2 : trD R = [] := by unfold trD; rw [if_neg hE]
  refine ⟨_, _, rfl, by rw [h1]; exact oi_nil10 _ _, by rw [h2]; exact oi_nil10 _ _, fun k hk => by simp [Value.ownBlock] at hk, hb⟩

theorem oTrees_any (v : Value) (R : List Tk) (w : World) (h : SK w v R) (hb : ∀ t ∈ R, Bt t) (T : Ltab w ∧ Dtab w) : Calls Tryd.prog 20 #[v] w fun e w' => Tra w.heap.size R e w w' := by
  have HC := hide (oCount_any v R w h hb T)
  obtain ⟨ao, cap, rfl, hlc, hcm⟩ := h.open
  clear h hb T
  go_enter Tryd.func20, Tryd.ntmps20
  go_wp2_with fail
  refine HC.out.mono ?_
  rintro e w1 ⟨vl, vd, rfl, o1, o2, o3, b1⟩
  obtain ⟨al, cl, rfl, _⟩ := o1.sb.open
  obtain ⟨ad, cd, rfl, _⟩ := o2.sb.open
  have HB1 := hide b1
  by_cases hE : ctE R = 0
  · have HE := hide hE
    have HT := hide (otrees_any al ad _ cl _ cd _ _ w1 o1.sb o2.sb (fun k hk => (o1.lt k hk).2) (fun k hk => (o2.lt k hk).2))
    rw [hE]
    obtain ⟨n1, hn1⟩ : ∃ n, (ctL R).length = n := ⟨_, rfl⟩
    obtain ⟨n2, hn2⟩ : ∃ n, (ctD R).length = n := ⟨_, rfl⟩
    rw [hn1, hn2] at HT ⊢
    clear o1 o2 o3 b1 HC hE hn1 hn2
    go_wp2_with fail
    refine HT.out.mono ?_
    rintro e w2 ⟨a1, c1, a2, c2, rfl, p1, p2, p3, b2⟩
    have HB2 := hide (HB1.out.trans (b2.mono HB1.out.size))
    have HO1 := hide (p1.base HB1.out.size)
    have HO2 := hide (p2.base HB1.out.size)
    have HO3 := hide p3
    obtain ⟨m1, hm1⟩ : ∃ n, (lmL (ctL R) 15).length = n := ⟨_, rfl⟩
    obtain ⟨m2, hm2⟩ : ∃ n, (lmL (ctD R) 15).length = n := ⟨_, rfl⟩
    rw [hm1] at HO1 HO3 ⊢
    rw [hm2] at HO2 HO3 ⊢
    obtain ⟨w3, hw3⟩ : ∃ w3, w2.alloc (.cells #[.slice a1 m1 c1, .slice a2 m2 c2] 53) = w3 := ⟨_, rfl⟩
    have HB3 : Hid (Below w.heap.size w w3) := by rw [← hw3]; exact HB2.out.alloc HB2.out.size _
    have HN3 : Hid (w3.heap[w2.heap.size]? = some (.cells #[.slice a1 m1 c1, .slice a2 m2 c2] 53 (0, 0))) := by rw [← hw3]; exact heap_alloc_new _ _
    have HP1 : Hid (OI w3 w.heap.size (.slice a1 m1 c1) (lmL (ctL R) 15)) := by rw [← hw3]; exact HO1.out.alloc _
    have HP2 : Hid (OI w3 w.heap.size (.slice a2 m2 c2) (lmL (ctD R) 15)) := by rw [← hw3]; exact HO2.out.alloc _
    have c0 : w3.cell? ⟨w2.heap.size, 0, none⟩ = some (.slice a1 m1 c1) := by unfold World.cell?; rw [HN3.out]; rfl
    have c1' : w3.cell? ⟨w2.heap.size, 1, none⟩ = some (.slice a2 m2 c2) := by unfold World.cell?; rw [HN3.out]; rfl
    clear p1 p2 p3 b2 HB1 HO1 HO2 hm1 hm2 HT
    go_wp2
    go_quiet (fail)
    go_wp2
    refine bodyPost_ret (results_tmp3 rfl _ _ _) rfl ?_
    refine ⟨_, _, by rw [HE.out]; rfl, ?_, ?_, HO3.out, below_drewN HB3.out _⟩
    · unfold trL; rw [if_pos HE.out]; exact HP1.out
    · unfold trD; rw [if_pos HE.out]; exact HP2.out
  · have HTN := hide (tra_no (w := w) hE b1)
    obtain ⟨E, hE2⟩ : ∃ E, ctE R = E := ⟨_, rfl⟩
    rw [hE2] at hE HTN ⊢
    have hne : (E != 0) = true := by simpa using hE
    clear o1 o2 o3 b1 HC hE hE2
    go_wp2
    refine bodyPost_ret (results_tmp3 rfl _ _ _) rfl ?_
    exact HTN.out

theorem xTrees_any (v : Value) (R : List Tk) (w : World) (h : SK w v R) (hb : ∀ t ∈ R, Bt t) : Calls Tryd.prog 22 #[v] w fun e w' => Tra w.heap.size R e w w' := by
  have HC := hide (xCount_any v R w h hb)
  obtain ⟨ao, cap, rfl, hlc, hcm⟩ := h.open
  clear h hb
  go_enter Tryd.func22, Tryd.ntmps22
  go_wp2_with fail
  refine HC.out.mono ?_
  rintro e w1 ⟨vl, vd, rfl, o1, o2, o3, b1⟩
  have HB1 := hide b1
  by_cases hE : ctE R = 0
  · have HE := hide hE
    have HT := hide (xlimited_any _ _ 15 w1 o1.sb (by decide))
    have HT2 := hide (fun w2 (hb : Below w1.heap.size w1 w2) => xlimited_any _ _ 15 w2 (o2.sb.below hb) (by decide))
    rw [hE]
    clear o1 o2 o3 b1 HC hE
    go_wp2_with fail
    refine HT.out.mono ?_
    rintro e w2 ⟨a1, c1, rfl, p1, b2⟩
    have HT3 := hide (HT2.out w2 b2)
    have HB2 := hide (HB1.out.trans (b2.mono HB1.out.size))
    have HO1 := hide p1
    have HS2 := hide b2.size
    clear p1 b2 HT HT2
    go_wp2_with fail
    refine HT3.out.mono ?_
    rintro e w3 ⟨a2, c2, rfl, p2, b3⟩
    have HB3 := hide (HB2.out.trans (b3.mono HB2.out.size))
    have HP1 := hide ((HO1.out.base HB1.out.size).move fun k hk => b3.block k (HO1.out.lt k hk).2)
    have HP2 := hide (p2.base HB2.out.size)
    have HP3 : Hid (∀ k, (Value.slice a1 (lmL (ctL R) 15).length c1).ownBlock = some k → (Value.slice a2 (lmL (ctD R) 15).length c2).ownBlock ≠ some k) := fun k hk e => by
      have := (HO1.out.lt k hk).2
      have := (p2.lt k e).1
      omega
    clear p2 b3 HT3 HO1
    go_wp2
    refine bodyPost_ret (results_tmp3 rfl _ _ _) rfl ?_
    refine ⟨_, _, by rw [HE.out]; rfl, ?_, ?_, HP3.out, HB3.out⟩
    · unfold trL; rw [if_pos HE.out]; exact HP1.out
    · unfold trD; rw [if_pos HE.out]; exact HP2.out
  · have HTN := hide (tra_no (w := w) hE b1)
    obtain ⟨E, hE2⟩ : ∃ E, ctE R = E := ⟨_, rfl⟩
    rw [hE2] at hE HTN ⊢
    have hne : (E != 0) = true := by simpa using hE
    clear o1 o2 o3 b1 HC hE hE2
    go_wp2
    refine bodyPost_ret (results_tmp3 rfl _ _ _) rfl ?_
    exact HTN.out

end Go.Proofs.YtkmefeihkmbngaaDoor

