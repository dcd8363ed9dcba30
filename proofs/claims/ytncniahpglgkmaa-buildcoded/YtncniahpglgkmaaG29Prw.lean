import Derived.Test.YtncniahpglgkmaaG28Mgp
import Derived.Test.YtncniahpglgkmaaG02Dsp
namespace Go.Proofs.Ytncniahpglgkmaa
open Go.RowKit Go.Maps
set_option maxRecDepth 20000
set_option linter.unusedVariables false

theorem wpList_mkC {w : World} {ops : Array Oper} {rest : List Oper} {o : Oper} {a : Act} {Q : Exit → Act → World → Prop} (hg : o.guard = none) (l c : Operand) (hop : o.op = Op.makeSlice 64 l c)
    (kl kc : IntKind) (C : Int) (m : Nat) (hl : a.eval l = .int kl 0) (hc : a.eval c = .int kc C) (hC : C = (m : Int)) (b2 : m ≤ 1000000)
    (hK : ∀ w', OC w' w.heap.size (.slice (some ⟨w.heap.size, 0, none⟩) 0 m) [] → Below w.heap.size w w' → wpList Try.prog ops Q rest (a.put o.dst (.slice (some ⟨w.heap.size, 0, none⟩) 0 m)) w') :
    wpList Try.prog ops Q (o :: rest) a w := by
  obtain ⟨i0, hi, hz0, hz1, hz2⟩ := info_parts infoCoin
  refine wpList_plain hg fun K hK' => ?_
  have hr := run_make (P := Try.prog) w 64 67 i0 (.agg #[.int .i64 0, .bool false]) Try.underlying64 hi hz0 kl kc (0 : Int) (m : Int) (by omega) (by omega) (by rw [hz2]; omega) (by omega)
  subst hC
  unfold Oper.wp
  simp [execOp, hop, hl, hc, hr, Result.andThen]
  refine hK' _ _ (hK _ ?_ ((Below.refl _ _).alloc (Nat.le_refl _) _))
  refine ⟨rfl, .inr ⟨w.heap.size, m, _, rfl, Nat.le_refl _, heap_alloc_new w _, Nat.zero_le _, by unfold maxLen; omega, ?_, by simp [fc]⟩⟩
  rw [hz1]
  simp [madeCells, Value.cells]

/-- The row of coins grows. -/
theorem grow_coin {w wr w3 : World} {u : Value} {R : List (Nat × Bool)} {o : Obj} (hB : Below w.heap.size w wr) (hO : OC wr w.heap.size u R) (hg : (wr.alloc o).grownBy w3 u.ownBlock) : Below w.heap.size w w3 :=
  (hB.alloc hB.size _).grown hg (by have := hB.size; simp; omega) (fun j hj => by have := hO.lt j hj; omega)

theorem drop_gd {l : List Nat} {k : Nat} (h : k < l.length) : l.drop k = l.getD k 0 :: l.drop (k + 1) := by
  rw [List.drop_eq_getElem_cons h, List.getD_eq_getElem?_getD, List.getElem?_eq_getElem h]
  rfl

theorem ci_drop (l : List Nat) (k : Nat) : (ci l).drop k = ci (l.drop k) := by unfold ci; rw [List.map_drop]
theorem ci_cons (a : Nat) (l : List Nat) : ci (a :: l) = (a : Int) :: ci l := rfl

set_option maxHeartbeats 2000000 in
theorem merge_any (vl vp : Value) (lw pk : List Nat) (w : World) (hl : SI w vl (ci lw)) (hp : SI w vp (ci pk)) (h1 : lw.length ≤ 288) (h2 : pk.length ≤ 600) :
    Calls Try.prog 48 #[vl, vp] w fun e w' => ∃ v', e = .returned v' ∧ OC w' w.heap.size v' (cmr lw pk) ∧ Below w.heap.size w w' := by
  have HL := hide hl
  have HP := hide hp
  obtain ⟨al, cl, rfl, hlc, hcm⟩ := hl.open
  obtain ⟨ap, cp, rfl, hlp, hcp⟩ := hp.open
  rw [ci_len] at hlc hlp HL HP ⊢
  rw [ci_len]
  have HP2 : Hid (SI w (.slice ap (ci pk).length cp) (ci pk)) := by rw [ci_len]; exact HP.out
  clear hl hp
  have e1 : IntKind.i64.wrap ((lw.length : Int) + pk.length) = ((lw.length + pk.length : Nat) : Int) := by rw [IntKind.wrap_i64]; omega
  obtain ⟨nl, hnl⟩ : ∃ n, n = lw.length := ⟨_, rfl⟩
  obtain ⟨np, hnp⟩ : ∃ n, n = pk.length := ⟨_, rfl⟩
  rw [← hnl, ← hnp] at e1
  rw [← hnl] at hlc h1 HL ⊢
  rw [← hnp] at hlp h2 HP ⊢
  have HNL := hide hnl
  have HNP := hide hnp
  clear hnl hnp
  go_enter Try.func48, Try.ntmps48
  go_wp2_with (at_make; refine wpList_mkC rfl _ _ rfl _ _ _ (nl + np) rfl rfl (by first | rfl | omega) (by omega) ?_)
  intro w1 hoc1 hb1
  have HO1 := hide hoc1
  have HB1 := hide hb1
  clear hoc1 hb1 e1
  go_wp2
  go_loopw [0, 5, 18] (fun v0 vr vj wr => ∃ (i j : Nat) (R : List (Nat × Bool)), i ≤ nl ∧ j ≤ np ∧ vj = .int .i64 j ∧ R.length ≤ 1000 ∧ Hid (SI w v0 (ci (lw.drop i))) ∧ Hid (OC wr w.heap.size vr R) ∧ Hid (Below w.heap.size w wr) ∧ Hid (R.length + (nl - i) + (np - j) = nl + np ∧ R ++ cmr (lw.drop i) (pk.drop j) = cmr lw pk)) (fun _ _ vj _ => np - (intOf vj).toNat)
  case atStart => exact ⟨0, 0, [], Nat.zero_le _, Nat.zero_le _, rfl, by simp, by rw [List.drop_zero]; exact HL, HO1, HB1, by simp, by simp⟩
  case round =>
    obtain ⟨i, j, R, hi, hj, rfl, hR, HS0, HOR, HBR, HEQ⟩ := hrel
    by_cases hlt : j < np
    · have hlt' : (j : Int) < (np : Int) := by omega
      have hjk : j < pk.length := by rw [← HNP.out]; exact hlt
      obtain ⟨b, o, rfl, hc⟩ := HP2.out.get HBR.out (k := j) (by rw [ci_len]; exact hjk)
      rw [ci_get] at hc
      have hdj : pk.drop j = pk.getD j 0 :: pk.drop (j + 1) := by rw [List.drop_eq_getElem_cons hjk]; simp [hjk]
      rw [hdj] at HEQ
      obtain ⟨q, hq⟩ : ∃ q, q = pk.getD j 0 := ⟨_, rfl⟩
      rw [← hq] at hc HEQ
      clear hq hdj
      obtain ⟨ao, co, hv0, hz1, hz2⟩ := HS0.out.open
      rw [ci_len, List.length_drop, ← HNL.out] at hv0 hz1
      have HS0' := HS0
      subst hv0
      go_wp2
      go_loopw [0, 5] (fun v0 vr wr => ∃ (i : Nat) (R : List (Nat × Bool)), i ≤ nl ∧ R.length ≤ 1000 ∧ Hid (SI w v0 (ci (lw.drop i))) ∧ Hid (OC wr w.heap.size vr R) ∧ Hid (Below w.heap.size w wr) ∧ Hid (R.length + (nl - i) + (np - j) = nl + np ∧ R ++ cmr (lw.drop i) (q :: pk.drop (j + 1)) = cmr lw pk)) (fun v0 _ _ => match v0 with | .slice _ n _ => n | _ => 0)
      case atStart => exact ⟨i, R, hi, hR, HS0', HOR, HBR, HEQ⟩
      case round =>
        clear HS0 HOR HBR HEQ HS0' hz1 hi hR
        obtain ⟨i, R, hi, hR, HS0, HOR, HBR, HEQ⟩ := hrel
        obtain ⟨ao2, co2, hv0, hz1, hz2b⟩ := HS0.out.open
        rw [ci_len, List.length_drop, ← HNL.out] at hv0 hz1
        subst hv0
        obtain ⟨ar, cr, hvr, hr1, hr2⟩ := HOR.out.shape
        subst hvr
        have hBw := HBR.out.size
        by_cases hin : i < nl
        · have hin' : (0 : Int) < ((nl - i : Nat) : Int) := by omega
          have hil : i < lw.length := by rw [← HNL.out]; exact hin
          have hdi : lw.drop i = lw.getD i 0 :: lw.drop (i + 1) := by rw [List.drop_eq_getElem_cons hil]; simp [hil]
          have HSI : Hid (SI w (.slice ao2 (ci (lw.drop i)).length co2) (ci (lw.drop i))) := by rw [ci_len, List.length_drop, ← HNL.out]; exact HS0.out
          obtain ⟨b3, o3, rfl, hc3⟩ := HSI.out.get HBR.out (k := 0) (by rw [ci_len, List.length_drop]; omega)
          rw [hdi] at HS0 HEQ hc3
          obtain ⟨a, ha⟩ : ∃ a, a = lw.getD i 0 := ⟨_, rfl⟩
          rw [← ha] at HS0 HEQ hc3
          rw [ci_cons] at HS0
          have hc3' : wr.cell? ⟨b3, o3, none⟩ = some (.int .i64 (a : Int)) := hc3
          have HDI := hide hdi
          rw [← ha] at HDI
          clear ha hdi hc3 HSI
          obtain ⟨n0, hn0⟩ : ∃ n0, n0 = nl - i := ⟨_, rfl⟩
          rw [← hn0] at hin' HS0 hz1 ⊢
          have hn01 : 1 ≤ n0 ∧ n0 + i ≤ nl ∧ nl ≤ n0 + i := by omega
          clear hn0
          by_cases hle : a ≤ q
          · have hle' : (a : Int) ≤ (q : Int) := by omega
            have HTL := hide HS0.out.tail'
            have HEQ2 : Hid ((R ++ [(a, true)]).length + (nl - (i + 1)) + (np - j) = nl + np ∧ (R ++ [(a, true)]) ++ cmr (lw.drop (i + 1)) (q :: pk.drop (j + 1)) = cmr lw pk) := by
              obtain ⟨q1, q2⟩ := HEQ.out
              refine ⟨by rw [List.length_append]; simp; omega, ?_⟩
              rw [← q2]
              simp only [cmr, if_pos hle, List.append_assoc, List.cons_append, List.nil_append]
            have hRl := HEQ.out.1
            go_wp2_with (at_builtin; refine wpCoin rfl _ _ rfl w.heap.size (.slice ar R.length cr) R a _ true rfl rfl HOR.out _ rfl (by omega) (by omega) ?_)
            intro v3 w3 ho3 hg3
            have HO3 := hide ho3
            have HB3 := hide (grow_coin HBR.out HOR.out hg3)
            clear ho3 hg3
            go_wp2
            go_roundw
            case rel => exact ⟨i + 1, R ++ [(a, true)], by omega, by rw [List.length_append]; simp; omega, HTL, HO3, HB3, HEQ2⟩
            case measure => simp; omega
          · have hle' : ¬ (a : Int) ≤ (q : Int) := by omega
            have HEQ2 : Hid ((R ++ [(q, false)]).length + (nl - i) + (np - (j + 1)) = nl + np ∧ (R ++ [(q, false)]) ++ cmr (lw.drop i) (pk.drop (j + 1)) = cmr lw pk) := by
              obtain ⟨q1, q2⟩ := HEQ.out
              refine ⟨by rw [List.length_append]; simp; omega, ?_⟩
              rw [← q2, HDI.out]
              simp only [cmr, if_neg hle, List.append_assoc, List.cons_append, List.nil_append]
            have hRl := HEQ.out.1
            have HSF : Hid (SI w (.slice (some ⟨b3, o3, none⟩) n0 co2) (ci (lw.drop i))) := by rw [HDI.out]; exact HS0.out
            go_wp2_with (at_builtin; refine wpCoin rfl _ _ rfl w.heap.size (.slice ar R.length cr) R q _ false rfl rfl HOR.out _ rfl (by omega) (by omega) ?_)
            intro v3 w3 ho3 hg3
            have HO3 := hide ho3
            have HB3 := hide (grow_coin HBR.out HOR.out hg3)
            clear ho3 hg3
            go_wp2
            go_roundw
            case rel => exact ⟨i, j + 1, R ++ [(q, false)], hi, by omega, by go_num, by rw [List.length_append]; simp; omega, HSF, HO3, HB3, HEQ2⟩
            case measure => simp [intOf]; omega
        · obtain rfl : i = nl := by omega
          have hin' : ¬ (0 : Int) < ((i - i : Nat) : Int) := by omega
          have hdi : lw.drop i = [] := List.drop_of_length_le (by rw [← HNL.out]; exact Nat.le_refl _)
          have HEQ2 : Hid ((R ++ [(q, false)]).length + (i - i) + (np - (j + 1)) = i + np ∧ (R ++ [(q, false)]) ++ cmr (lw.drop i) (pk.drop (j + 1)) = cmr lw pk) := by
            obtain ⟨q1, q2⟩ := HEQ.out
            refine ⟨by rw [List.length_append]; simp; omega, ?_⟩
            rw [← q2, hdi]
            simp only [cmr, List.map_cons, List.append_assoc, List.cons_append, List.nil_append]
          have hRl := HEQ.out.1
          have HSF := HS0
          obtain ⟨n0, hn0⟩ : ∃ n0, n0 = i - i := ⟨_, rfl⟩
          have hn00 : ¬ (0 : Int) < (n0 : Int) := by omega
          have hd00 : decide ((0 : Int) < (n0 : Int)) = false := decide_eq_false hn00
          rw [← hn0] at HSF hz1 ⊢
          clear hdi hin' hn0
          go_wp2_with (at_builtin; refine wpCoin rfl _ _ rfl w.heap.size (.slice ar R.length cr) R q _ false rfl rfl HOR.out _ rfl (by omega) (by omega) ?_)
          intro v3 w3 ho3 hg3
          have HO3 := hide ho3
          have HB3 := hide (grow_coin HBR.out HOR.out hg3)
          clear ho3 hg3
          go_wp2
          go_roundw
          case rel => exact ⟨i, j + 1, R ++ [(q, false)], Nat.le_refl _, by omega, by go_num, by rw [List.length_append]; simp; omega, HSF, HO3, HB3, HEQ2⟩
          case measure => simp [intOf]; omega
    · obtain rfl : j = np := by omega
      have hlt' : ¬ (j : Int) < (j : Int) := by omega
      have hdj : pk.drop j = [] := List.drop_of_length_le (by rw [← HNP.out]; exact Nat.le_refl _)
      rw [hdj] at HEQ
      obtain ⟨ao, co, hv0, hz1, hz2⟩ := HS0.out.open
      have hll : (ci (lw.drop i)).length = nl - i := by rw [ci_len, List.length_drop, ← HNL.out]
      rw [hll] at hv0 hz1
      obtain ⟨n0, hn0⟩ : ∃ n0, n0 = nl - i := ⟨_, rfl⟩
      rw [← hn0] at hv0 hz1 hll
      subst hv0
      have HSI : Hid (SI w (.slice ao (ci (lw.drop i)).length co) (ci (lw.drop i))) := by rw [hll]; exact HS0.out
      have HN0 := hide hn0
      have hn01 : n0 + i ≤ nl ∧ nl ≤ n0 + i := by omega
      have HLL := hide hll
      clear hdj hn0 hll
      go_wp2
      go_loopw [5, 49] (fun vr vk wr => ∃ (k : Nat) (R : List (Nat × Bool)), k ≤ n0 ∧ vk = .int .i64 k ∧ R.length ≤ 1000 ∧ Hid (OC wr w.heap.size vr R) ∧ Hid (Below w.heap.size w wr) ∧ Hid (R.length + (n0 - k) = nl + j ∧ R ++ ((lw.drop i).drop k).map (·, true) = cmr lw pk)) (fun _ vk _ => n0 - (intOf vk).toNat)
      case atStart =>
        obtain ⟨q1, q2⟩ := HEQ.out
        rw [cmr_nil] at q2
        exact ⟨0, R, Nat.zero_le _, rfl, hR, HOR, HBR, by have := HN0.out; omega, by rw [List.drop_zero]; exact q2⟩
      case round =>
        clear HOR HBR HEQ hR
        obtain ⟨k, R, hk, rfl, hR, HOR, HBR, HEQ⟩ := hrel
        obtain ⟨ar, cr, hvr, hr1, hr2⟩ := HOR.out.shape
        subst hvr
        by_cases hlt3 : k < n0
        · have hlt3' : (k : Int) < (n0 : Int) := by omega
          have hkl : k < (lw.drop i).length := by have := HLL.out; rw [ci_len] at this; omega
          obtain ⟨b3, o3, rfl, hc3⟩ := HSI.out.get HBR.out (k := k) (by rw [ci_len]; exact hkl)
          rw [ci_get] at hc3
          have hdk : (lw.drop i).drop k = (lw.drop i).getD k 0 :: (lw.drop i).drop (k + 1) := drop_gd hkl
          obtain ⟨a, ha⟩ : ∃ a, a = (lw.drop i).getD k 0 := ⟨_, rfl⟩
          rw [← ha] at hc3 hdk
          have HEQ2 : Hid ((R ++ [(a, true)]).length + (n0 - (k + 1)) = nl + j ∧ (R ++ [(a, true)]) ++ ((lw.drop i).drop (k + 1)).map (·, true) = cmr lw pk) := by
            obtain ⟨q1, q2⟩ := HEQ.out
            refine ⟨by rw [List.length_append]; simp; omega, ?_⟩
            rw [← q2, hdk]
            simp only [List.map_cons, List.append_assoc, List.cons_append, List.nil_append]
          have hRl := HEQ.out.1
          clear ha hdk hkl
          have hBw := HBR.out.size
          go_wp2_with (at_builtin; refine wpCoin rfl _ _ rfl w.heap.size (.slice ar R.length cr) R a _ true rfl rfl HOR.out _ rfl (by omega) (by omega) ?_)
          intro v3 w3 ho3 hg3
          have HO3 := hide ho3
          have HB3 := hide (grow_coin HBR.out HOR.out hg3)
          clear ho3 hg3
          go_wp2
          go_roundw
          case rel => exact ⟨k + 1, R ++ [(a, true)], by omega, by go_num, by rw [List.length_append]; simp; omega, HO3, HB3, HEQ2⟩
          case measure => simp [intOf]; omega
        · obtain rfl : k = n0 := by omega
          have hlt3' : ¬ (k : Int) < (k : Int) := by omega
          have HF : Hid (OC wr w.heap.size (.slice ar R.length cr) (cmr lw pk)) := by
            obtain ⟨q1, q2⟩ := HEQ.out
            rw [List.drop_of_length_le (by have := HLL.out; rw [ci_len] at this; omega), List.map_nil, List.append_nil] at q2
            rw [← q2]
            exact HOR.out
          clear HEQ
          go_wp2
          go_ret
          exact ⟨_, rfl, HF.out, HBR.out⟩
end Go.Proofs.Ytncniahpglgkmaa

namespace Go.Proofs.Ytncniahpglgkmaa
open Go.RowKit Go.Maps
set_option maxRecDepth 20000
set_option linter.unusedVariables false

def wts (R : List (Nat × Bool)) : List Nat := R.map (·.1)

theorem wts_get {R : List (Nat × Bool)} {i : Nat} : (wts R).getD i 0 = (R.getD i (0, false)).1 := by
  simp only [wts, List.getD_eq_getElem?_getD, List.getElem?_map]
  cases R[i]? <;> rfl

/-- The first k packages, zeros behind them. -/
def pko (l : List Nat) (k : Nat) : List Int := ci ((pks l).take k) ++ List.replicate (l.length / 2 - k) 0

theorem pko_len (l : List Nat) {k : Nat} (h : k ≤ l.length / 2) : (pko l k).length = l.length / 2 := by
  unfold pko
  rw [List.length_append, ci_len, List.length_take, pks_len, List.length_replicate]
  omega

theorem pko_step (l : List Nat) {k : Nat} (h : k < l.length / 2) : (pko l k).set k (((pks l).getD k 0 : Nat) : Int) = pko l (k + 1) := by
  unfold pko
  have hk : k < (pks l).length := by rw [pks_len]; exact h
  obtain ⟨m, hm⟩ : ∃ m, l.length / 2 - k = m + 1 := ⟨l.length / 2 - k - 1, by omega⟩
  have hm2 : l.length / 2 - (k + 1) = m := by omega
  have hl : (ci ((pks l).take k)).length = k := by rw [ci_len, List.length_take]; omega
  have e0 : ci ((pks l).take (k + 1)) = ci ((pks l).take k) ++ [(((pks l).getD k 0 : Nat) : Int)] := by
    unfold ci
    rw [List.take_succ_eq_append_getElem hk, List.map_append, List.getD_eq_getElem?_getD, List.getElem?_eq_getElem hk]
    rfl
  rw [hm, hm2, e0]
  conv => lhs; arg 2; rw [← hl]
  rw [List.set_append_right _ _ (Nat.le_refl _), Nat.sub_self, List.replicate_succ, List.set_cons_zero, List.append_assoc]
  rfl

set_option maxHeartbeats 1000000 in
theorem pairs_any (v : Value) (R : List (Nat × Bool)) (w : World) (b0 : Nat) (h : OC w b0 v R) (h2 : R.length ≤ 900) (hw : ∀ x ∈ wts R, x ≤ 1000000000000000) :
    Calls Try.prog 49 #[v] w fun e w' => ∃ a, e = .returned (.slice a (R.length / 2) (R.length / 2)) ∧ OI w' w.heap.size (.slice a (R.length / 2) (R.length / 2)) (ci (pks (wts R))) ∧ Below w.heap.size w w' := by
  have HO := hide h
  obtain ⟨ar, cr, rfl, hr1, hr2⟩ := h.shape
  have hwl : (wts R).length = R.length := by simp [wts]
  have HWL := hide hwl
  have HW := hide hw
  have hdv : ((R.length : Int) / 2) = ((R.length / 2 : Nat) : Int) := by omega
  have htd : Int.tdiv (R.length : Int) 2 = ((R.length / 2 : Nat) : Int) := by rw [Int.tdiv_eq_ediv_of_nonneg (by omega)]; omega
  obtain ⟨n, hn⟩ : ∃ n, n = R.length / 2 := ⟨_, rfl⟩
  rw [← hn] at hdv htd ⊢
  have HN := hide hn
  have hn2 : 2 * n ≤ R.length := by omega
  clear h hw hwl hn
  go_enter Try.func49, Try.ntmps49
  go_wp2_with (at_make; refine wpList_mkI rfl _ _ rfl _ _ _ _ n n rfl rfl (by first | rfl | omega) (by first | rfl | omega) (Nat.le_refl _) (by omega) ?_)
  intro w1 hg hb1
  have HO1 : Hid (OI w1 w.heap.size (.slice (some ⟨w.heap.size, 0, none⟩) n n) (pko (wts R) 0)) := by
    show OI _ _ _ _
    have e : pko (wts R) 0 = List.replicate n 0 := by unfold pko; rw [List.take_zero, HWL.out, ← HN.out]; rfl
    rw [e]; exact mk_oi hg (by omega)
  have HB1 := hide hb1
  clear hg hb1
  go_wp2
  go_loopw [11] (fun i wr => ∃ k : Nat, k ≤ n ∧ i = .int .i64 k ∧ Hid (OI wr w.heap.size (.slice (some ⟨w.heap.size, 0, none⟩) n n) (pko (wts R) k)) ∧ Hid (Below w.heap.size w wr)) (fun i _ => n - (intOf i).toNat)
  case atStart => exact ⟨0, Nat.zero_le _, rfl, HO1, HB1⟩
  case round =>
    obtain ⟨k, hk, rfl, HOK, HB⟩ := hrel
    by_cases hlt : k < n
    · have hlt' : (k : Int) < (n : Int) := by omega
      have HR := hide (HO.out.below HB.out (Nat.le_refl _))
      obtain ⟨g, c, hv, c1, _⟩ := HR.out.get (i := 2 * k) (by omega)
      obtain ⟨g', c', hv', d1, _⟩ := HR.out.get (i := 2 * k + 1) (by omega)
      rw [hv] at hv'
      simp only [Value.slice.injEq, Option.some.injEq, Addr.mk.injEq, and_true] at hv hv'
      obtain ⟨rfl, -, rfl⟩ := hv
      obtain ⟨rfl, -⟩ := hv'
      have HST := hide (pko_step (wts R) (k := k) (by rw [HWL.out, ← HN.out]; exact hlt))
      have hpg := pks_get (wts R) k (by rw [HWL.out]; omega)
      rw [wts_get, wts_get] at hpg
      have hx := HW.out _ (show (R.getD (2 * k) (0, false)).1 ∈ wts R by rw [← wts_get]; exact getD_mem6 (by rw [HWL.out]; omega))
      have hy := HW.out _ (show (R.getD (2 * k + 1) (0, false)).1 ∈ wts R by rw [← wts_get]; exact getD_mem6 (by rw [HWL.out]; omega))
      obtain ⟨x, hxe⟩ : ∃ x, x = (R.getD (2 * k) (0, false)).1 := ⟨_, rfl⟩
      obtain ⟨y, hye⟩ : ∃ x, x = (R.getD (2 * k + 1) (0, false)).1 := ⟨_, rfl⟩
      rw [← hxe] at c1 hpg hx
      rw [← hye] at d1 hpg hy
      rw [hpg] at HST
      obtain ⟨⟨u, hu⟩, hfz, ho⟩ := HOK.out.putg (k := k) (by rw [pko_len _ (by rw [HWL.out, ← HN.out]; exact hk), HWL.out, ← HN.out]; exact hlt) ((x + y : Nat) : Int)
      have HNX : Hid (OI ((wr.setCell ⟨w.heap.size, k, none⟩ (.int .i64 ((x + y : Nat) : Int)))).drew w.heap.size (.slice (some ⟨w.heap.size, 0, none⟩) n n) (pko (wts R) (k + 1))) := by
        rw [← HST.out]; exact ho.move fun _ _ => rfl
      have HBN : Hid (Below w.heap.size w ((wr.setCell ⟨w.heap.size, k, none⟩ (.int .i64 ((x + y : Nat) : Int)))).drew) := by
        have := HB.out.setCell (p := ⟨w.heap.size, k, none⟩) (Nat.le_refl w.heap.size) (.int .i64 ((x + y : Nat) : Int))
        exact this.drew
      obtain ⟨t, ht⟩ : ∃ t : Nat, t = 2 * k := ⟨_, rfl⟩
      rw [← ht] at c1 d1
      have w1e : (2 : Int) * (k : Int) = (t : Int) := by omega
      have w1f : IntKind.i64.wrap ((2 : Int) * (k : Int)) = (t : Int) := by rw [IntKind.wrap_i64]; omega
      obtain ⟨t1, ht1⟩ : ∃ t1 : Nat, t1 = t + 1 := ⟨_, rfl⟩
      rw [← ht1] at d1
      have w2e : (t : Int) + 1 = (t1 : Int) := by omega
      have w2f : IntKind.i64.wrap ((t : Int) + 1) = (t1 : Int) := by rw [IntKind.wrap_i64]; omega
      have htL : (t : Int) < (R.length : Int) := by omega
      have ht1L : (t1 : Int) < (R.length : Int) := by omega
      have w3f : IntKind.i64.wrap ((x : Int) + (y : Int)) = ((x + y : Nat) : Int) := by rw [IntKind.wrap_i64]; omega
      obtain ⟨z, hz⟩ : ∃ z : Nat, z = x + y := ⟨_, rfl⟩
      rw [← hz] at w3f HNX HBN
      clear hpg hxe hye ho ht ht1 hz
      go_wp2
      go_region
      go_wp2
      go_roundw
      case rel => exact ⟨k + 1, by omega, by go_num, HNX, HBN⟩
      case measure => simp [intOf]; omega
    · obtain rfl : k = n := by omega
      have hlt' : ¬ (k : Int) < (k : Int) := by omega
      have HF : Hid (OI wr w.heap.size (.slice (some ⟨w.heap.size, 0, none⟩) k k) (ci (pks (wts R)))) := by
        have := HOK.out
        unfold pko at this
        rwa [List.take_of_length_le (by rw [pks_len, HWL.out, ← HN.out]; exact Nat.le_refl _), HWL.out, ← HN.out, Nat.sub_self, List.replicate_zero, List.append_nil] at this
      go_wp2
      go_ret
      exact ⟨_, rfl, HF.out, HB.out⟩
end Go.Proofs.Ytncniahpglgkmaa

