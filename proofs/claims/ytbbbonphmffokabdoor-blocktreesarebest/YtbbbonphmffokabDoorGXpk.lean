import Derived.Test.YtbbbonphmffokabDoorGXmg
import Derived.Test.YtbbbonphmffokabDoorGPur
namespace Go.Proofs.YtbbbonphmffokabDoor
open Go.RowKit Go.Maps
set_option maxRecDepth 20000
set_option linter.unusedVariables false
set_option linter.unusedSimpArgs false

def Abv (B : Nat) (M : List Mnd) : Prop := ∀ p ∈ M, ∀ k, p.2.ownBlock = some k → B ≤ k

theorem ndrop {R : List Nod} {i : Nat} (h : i < R.length) : R.drop i = R.getD i nod0 :: R.drop (i + 1) := by
  rw [List.drop_eq_getElem_cons h]
  simp [h]

theorem npk_step {R : List Nod} {i : Nat} (h : i + 1 < R.length) : npk (R.drop i) = ((R.getD i nod0).1 + (R.getD (i + 1) nod0).1, (R.getD i nod0).2 ++ (R.getD (i + 1) nod0).2) :: npk (R.drop (i + 2)) := by
  rw [ndrop (by omega : i < R.length), ndrop h, npk]

theorem npk_end {R : List Nod} {i : Nat} (h : R.length ≤ i + 1) : npk (R.drop i) = [] := by
  by_cases c : i < R.length
  · rw [ndrop c, List.drop_of_length_le (by omega), npk]
    simp
  · rw [List.drop_of_length_le (by omega), npk]
    simp

theorem two_le {R : List Nod} {i : Nat} (h : i + 1 < R.length) : (R.getD i nod0).1 + (R.getD (i + 1) nod0).1 ≤ (R.map (·.1)).sum ∧ (R.getD i nod0).2.length + (R.getD (i + 1) nod0).2.length ≤ (syms R).length := by
  have e : R = R.take i ++ (R.getD i nod0 :: R.getD (i + 1) nod0 :: R.drop (i + 2)) := by
    rw [← ndrop h, ← ndrop (by omega : i < R.length), List.take_append_drop]
  constructor
  · conv => rhs; rw [e]
    simp only [List.map_append, List.map_cons, List.sum_append, List.sum_cons]
    omega
  · conv => rhs; rw [e]
    simp only [syms, List.flatMap_append, List.flatMap_cons, List.length_append]
    omega

theorem Cst.newd (W : World) (q : Nat) (a : Int) : Cst W W.heap.size a (.slice none 0 0) [] ((W.drewN q).alloc (.cells #[.int .i64 a, .slice none 0 0] 99)) :=
  ⟨(below_drewN (Below.refl _ _) q).alloc (Nat.le_refl _) _, heap_alloc_new (W.drewN q) _, World.ownsRow_nil _ _ _ _⟩

set_option maxHeartbeats 4000000 in
theorem packages_any (v : Value) (M : List Mnd) (w : World) (b0 : Nat) (h : ON w b0 v M) (h2 : M.length ≤ 1000) (hs : ((mro M).map (·.1)).sum ≤ 1000000000000000) (hy : (syms (mro M)).length ≤ 100000) :
    Calls Tryd.prog 67 #[v] w fun e w' => ∃ v', e = .returned v' ∧ ∃ M', ON w' w.heap.size v' M' ∧ mro M' = npk (mro M) ∧ Abv w.heap.size M' ∧ Below w.heap.size w w' := by
  have HO := hide h
  obtain ⟨ar, cr, rfl, hr1, hr2⟩ := h.shape
  clear h
  have HSY := hide hy
  have HSM := hide hs
  clear hs hy
  obtain ⟨n, hn⟩ : ∃ n, n = M.length := ⟨_, rfl⟩
  rw [← hn] at HO hr1 h2 ⊢
  have HNN := hide hn
  clear hn
  go_enter Tryd.func67, Tryd.ntmps67
  go_wp2
  go_loopw [3, 4] (fun u vi wr => ∃ (i : Nat) (D : List Mnd), i ≤ n + 1 ∧ vi = .int .i64 (i : Int) ∧ D.length ≤ i ∧ Hid (ON wr w.heap.size u D) ∧ Hid (Below w.heap.size w wr) ∧ Hid (mro D ++ npk ((mro M).drop i) = npk (mro M)) ∧ Hid (Abv w.heap.size D)) (fun _ vi _ => n + 2 - (intOf vi).toNat)
  case atStart => exact ⟨0, [], Nat.zero_le _, rfl, Nat.zero_le _, ⟨World.ownsRow_nil _ _ _ _, fun p hp => by simp at hp⟩, Below.refl _ _, by rw [List.drop_zero]; rfl, fun p hp => by simp at hp⟩
  case round =>
    obtain ⟨i, D, hi, rfl, hD, HN, HBW, HEQ, HAP⟩ := hrel
    obtain ⟨a1, p1, hu, _⟩ := HN.out.shape
    subst hu
    rename World => wo
    have hBw := HBW.out.size
    have hiw : IntKind.i64.wrap ((i : Int) + 1) = (i : Int) + 1 := by rw [IntKind.wrap_i64]; omega
    by_cases hlt : i + 1 < n
    · have hlt' : (i : Int) + 1 < (n : Int) := by omega
      have hlt0 : (i : Int) < (n : Int) := by omega
      have hi1M : i + 1 < M.length := by rw [← HNN.out]; exact hlt
      have hi0M : i < M.length := by omega
      have HOW := hide (HO.out.below HBW.out (Nat.le_refl _))
      have HST := hide (npk_step (R := mro M) (i := i) (by rw [mro_len]; exact hi1M))
      have htl := two_le (R := mro M) (i := i) (by rw [mro_len]; exact hi1M)
      rw [mro_get, mro_get] at htl HST
      have hsm2 := HSM.out
      have hsy2 := HSY.out
      obtain ⟨gp, cp, hvp, xp1, xp2⟩ := HOW.out.get (i := i) hi0M
      simp only [Value.slice.injEq] at hvp
      obtain ⟨rfl, -, rfl⟩ := hvp
      have hhp := HOW.out.holds _ (md_mem hi0M)
      obtain ⟨Np, HPp⟩ : ∃ p, Hid (p = M.getD i mn0) := ⟨_, hide rfl⟩
      rw [← HPp.out] at xp1 xp2 hhp htl HST
      obtain ⟨⟨pw, ph⟩, pv⟩ := Np
      obtain ⟨ap, dp, hqp⟩ := hhp.shape
      rw [ci_len] at hqp
      have hqp' : pv = .slice ap ph.length dp := hqp
      subst hqp'
      have HHp : Hid (OI wo 0 (.slice ap ph.length dp) (ci ph)) := hhp
      have xp1' : wo.cell? ⟨gp, i * 2, none⟩ = some (.int .i64 (pw : Int)) := xp1
      have HXp : Hid (wo.cell? ⟨gp, i * 2 + 1, none⟩ = some (.slice ap ph.length dp)) := xp2
      have hglp : gp < wo.heap.size := (HOW.out.lt gp rfl).2
      clear hhp hqp xp1 xp2
      obtain ⟨gq, cq, hvq, xq1, xq2⟩ := HOW.out.get (i := (i + 1)) hi1M
      simp only [Value.slice.injEq] at hvq
      simp only [Option.some.injEq, Addr.mk.injEq, and_true] at hvq
      obtain ⟨rfl, -, rfl⟩ := hvq
      have hhq := HOW.out.holds _ (md_mem hi1M)
      obtain ⟨Nq, HPq⟩ : ∃ p, Hid (p = M.getD (i + 1) mn0) := ⟨_, hide rfl⟩
      rw [← HPq.out] at xq1 xq2 hhq htl HST
      obtain ⟨⟨qw, qh⟩, qv⟩ := Nq
      obtain ⟨aq, dq, hqq⟩ := hhq.shape
      rw [ci_len] at hqq
      have hqq' : qv = .slice aq qh.length dq := hqq
      subst hqq'
      have HHq : Hid (OI wo 0 (.slice aq qh.length dq) (ci qh)) := hhq
      have xq1' : wo.cell? ⟨gp, (i + 1) * 2, none⟩ = some (.int .i64 (qw : Int)) := xq1
      have HXq : Hid (wo.cell? ⟨gp, (i + 1) * 2 + 1, none⟩ = some (.slice aq qh.length dq)) := xq2
      have hglq : gp < wo.heap.size := hglp
      clear hhq hqq xq1 xq2
      have hq1 : (pw : Int) + qw ≤ 1000000000000000 := by have : pw + qw ≤ ((mro M).map (·.1)).sum := htl.1; omega
      have hq2 : ph.length + qh.length ≤ 100000 := by have : ph.length + qh.length ≤ (syms (mro M)).length := htl.2; omega
      clear htl hsm2 hsy2
      have hidx : ((i : Int) + 1).toNat = i + 1 := by omega
      have hi0p : (0 : Int) ≤ (i : Int) + 1 := by omega
      have HAL : Hid (Below wo.heap.size wo (wo.alloc (.cells #[.int .i64 0, .slice none 0 0] 99))) := (Below.refl _ _).alloc (Nat.le_refl _) _
      have xp3 : (wo.alloc (.cells #[.int .i64 0, .slice none 0 0] 99)).cell? ⟨gp, i * 2, none⟩ = some (.int .i64 (pw : Int)) := by rw [HAL.out.cell hglp]; exact xp1'
      have xq3 : (wo.alloc (.cells #[.int .i64 0, .slice none 0 0] 99)).cell? ⟨gp, (i + 1) * 2, none⟩ = some (.int .i64 (qw : Int)) := by rw [HAL.out.cell hglp]; exact xq1'
      clear hglq
      have HC0 : Hid (Cst wo wo.heap.size ((pw : Int) + qw) (.slice none 0 0) [] (wo.alloc (.cells #[.int .i64 ((pw : Int) + qw), .slice none 0 0] 99)).drew) :=
        ⟨below_drewN ((Below.refl _ _).alloc (Nat.le_refl _) _) 1, heap_alloc_new wo _, World.ownsRow_nil _ _ _ _⟩
      go_wp2
      go_region
      clear xp3 xq3
      go_wp2
      go_loopw [6] (fun vi wr => ∃ k hv, k ≤ ph.length ∧ vi = .int .i64 (k : Int) ∧ Hid (Cst wo wo.heap.size ((pw : Int) + qw) hv (ph.take k) wr)) (fun vi _ => ph.length - (intOf vi).toNat)
      case atStart => exact ⟨0, .slice none 0 0, Nat.zero_le _, rfl, HC0⟩
      case round =>
        obtain ⟨k, hv, hk, rfl, HC⟩ := hrel
        have hbw := HC.out.bel
        have b1 : wr.cell? ⟨gp, i * 2 + 1, none⟩ = some (.slice ap ph.length dp) := by rw [hbw.cell hglp]; exact HXp.out
        by_cases hkt : k < ph.length
        · have hkt' : (k : Int) < (ph.length : Int) := by omega
          have ho := (HHp.out.below hbw (Nat.le_refl _))
          obtain ⟨ga, da, hva, hca⟩ := ho.form (by rw [ci_len]; omega)
          have hck := ho.get (b := ga) (by rw [hva]; rfl) (i := k) (by rw [ci_len]; omega)
          rw [ci_get] at hck
          have HTK : Hid (ph.take (k + 1) = (ph.take k) ++ [ph.getD k 0]) := by
            show _ = _
            rw [List.take_succ_eq_append_getElem hkt]
            simp [hkt]
          obtain ⟨x, HX⟩ : ∃ x, Hid (x = ph.getD k 0) := ⟨_, hide rfl⟩
          rw [← HX.out] at hck HTK
          simp only [Value.slice.injEq] at hva
          obtain ⟨rfl, -, rfl⟩ := hva
          obtain ⟨L, HL⟩ : ∃ L, Hid (L = ph.take k) := ⟨_, hide rfl⟩
          rw [← HL.out] at HC HTK
          have hLl : (ci L).length ≤ 1000000 := by rw [ci_len, HL.out]; simp; omega
          have HR1 := hide (HC.out.rw1d x)
          obtain ⟨d0, d1, df, hgl⟩ := HC.out.cells
          have d1' : (wr.alloc (.cells #[.int .i64 (x : Int)] 3)).cell? ⟨wo.heap.size, 1, none⟩ = some hv := by rw [((Below.refl wr.heap.size wr).alloc (Nat.le_refl _) _).cell hgl]; exact d1
          have HLEN : Hid ((ci L).length + ([(x : Int)] : List Int).length ≤ 17592186044416) := by show _ ≤ _; simp; omega
          clear hbw ho hca
          go_wp2
          go_region_law (refine step_appI (by rfl) _ _ (by rfl) wo.heap.size hv (.slice (some ⟨wr.heap.size, 0, none⟩) 1 1) (ci L) [(x : Int)] (by simp [Act.eval, Act.put]) (HR1.out.row _ (by rfl)) (by simp [Act.eval, Act.put]) (HR1.out.src _ (by rfl)) HLEN.out (HR1.out.siz _ (by rfl)) ?_; intro v6 wx ho6 hg6; obtain ⟨a6, n6, p6, hv6⟩ := ho6.shp; subst hv6; obtain ⟨t1, tf, hC6⟩ := HR1.out.app _ wx _ (by rfl) (by rfl) (by rfl) (by rfl) ho6 hg6; have HC6 := hide hC6; clear ho6 hg6 hC6)
          all_goals
            have HC7 : Hid (Cst wo wo.heap.size ((pw : Int) + qw) (.slice a6 n6 p6) (ph.take (k + 1)) (wx.setCell ⟨wo.heap.size, 1, none⟩ (.slice a6 n6 p6))) := by rw [HTK.out]; exact HC6.out
            clear HC6 HR1 d0 d1 df d1' t1 tf HC
            go_wp2
            go_roundw
            case rel => exact ⟨k + 1, _, by omega, by go_num, HC7⟩
            case measure => simp [intOf]; omega
        · obtain rfl : k = ph.length := by omega
          have hkt' : ¬ (ph.length : Int) < (ph.length : Int) := by omega
          have HCE : Hid (Cst wo wo.heap.size ((pw : Int) + qw) hv (ph) wr) := by
            have := HC.out
            rwa [List.take_of_length_le (Nat.le_refl _)] at this
          clear HC hbw
          go_wp2
          go_loopw [7] (fun vi wr => ∃ k hv, k ≤ qh.length ∧ vi = .int .i64 (k : Int) ∧ Hid (Cst wo wo.heap.size ((pw : Int) + qw) hv (ph ++ qh.take k) wr)) (fun vi _ => qh.length - (intOf vi).toNat)
          case atStart => exact ⟨0, _, Nat.zero_le _, rfl, by rw [List.take_zero, List.append_nil]; exact HCE⟩
          case round =>
            obtain ⟨k, hv, hk, rfl, HC⟩ := hrel
            have hbw := HC.out.bel
            have b1 : wr.cell? ⟨gp, (i + 1) * 2 + 1, none⟩ = some (.slice aq qh.length dq) := by rw [hbw.cell hglp]; exact HXq.out
            by_cases hkt : k < qh.length
            · have hkt' : (k : Int) < (qh.length : Int) := by omega
              have ho := (HHq.out.below hbw (Nat.le_refl _))
              obtain ⟨ga, da, hva, hca⟩ := ho.form (by rw [ci_len]; omega)
              have hck := ho.get (b := ga) (by rw [hva]; rfl) (i := k) (by rw [ci_len]; omega)
              rw [ci_get] at hck
              have HTK : Hid (ph ++ qh.take (k + 1) = (ph ++ qh.take k) ++ [qh.getD k 0]) := by
                show _ = _
                rw [List.take_succ_eq_append_getElem hkt]
                simp [hkt]
              obtain ⟨x, HX⟩ : ∃ x, Hid (x = qh.getD k 0) := ⟨_, hide rfl⟩
              rw [← HX.out] at hck HTK
              simp only [Value.slice.injEq] at hva
              obtain ⟨rfl, -, rfl⟩ := hva
              obtain ⟨L, HL⟩ : ∃ L, Hid (L = ph ++ qh.take k) := ⟨_, hide rfl⟩
              rw [← HL.out] at HC HTK
              have hLl : (ci L).length ≤ 1000000 := by rw [ci_len, HL.out]; simp; omega
              have HR1 := hide (HC.out.rw1d x)
              obtain ⟨d0, d1, df, hgl⟩ := HC.out.cells
              have d1' : (wr.alloc (.cells #[.int .i64 (x : Int)] 3)).cell? ⟨wo.heap.size, 1, none⟩ = some hv := by rw [((Below.refl wr.heap.size wr).alloc (Nat.le_refl _) _).cell hgl]; exact d1
              have HLEN : Hid ((ci L).length + ([(x : Int)] : List Int).length ≤ 17592186044416) := by show _ ≤ _; simp; omega
              clear hbw ho hca
              go_wp2
              go_region_law (refine step_appI (by rfl) _ _ (by rfl) wo.heap.size hv (.slice (some ⟨wr.heap.size, 0, none⟩) 1 1) (ci L) [(x : Int)] (by simp [Act.eval, Act.put]) (HR1.out.row _ (by rfl)) (by simp [Act.eval, Act.put]) (HR1.out.src _ (by rfl)) HLEN.out (HR1.out.siz _ (by rfl)) ?_; intro v6 wx ho6 hg6; obtain ⟨a6, n6, p6, hv6⟩ := ho6.shp; subst hv6; obtain ⟨t1, tf, hC6⟩ := HR1.out.app _ wx _ (by rfl) (by rfl) (by rfl) (by rfl) ho6 hg6; have HC6 := hide hC6; clear ho6 hg6 hC6)
              all_goals
                have HC7 : Hid (Cst wo wo.heap.size ((pw : Int) + qw) (.slice a6 n6 p6) (ph ++ qh.take (k + 1)) (wx.setCell ⟨wo.heap.size, 1, none⟩ (.slice a6 n6 p6))) := by rw [HTK.out]; exact HC6.out
                clear HC6 HR1 d0 d1 df d1' t1 tf HC
                go_wp2
                go_roundw
                case rel => exact ⟨k + 1, _, by omega, by go_num, HC7⟩
                case measure => simp [intOf]; omega
            · obtain rfl : k = qh.length := by omega
              have hkt' : ¬ (qh.length : Int) < (qh.length : Int) := by omega
              have HCE : Hid (Cst wo wo.heap.size ((pw : Int) + qw) hv (ph ++ qh) wr) := by
                have := HC.out
                rwa [List.take_of_length_le (Nat.le_refl _)] at this
              clear HC hbw
              obtain ⟨S, HSS⟩ : ∃ S, Hid (S = ph ++ qh) := ⟨_, hide rfl⟩
              rw [← HSS.out] at HCE
              obtain ⟨ah, ch, hhv⟩ := HCE.out.own.shape
              rw [ci_len] at hhv
              subst hhv
              obtain ⟨f0, f1, _, hgl⟩ := HCE.out.cells
              have HNr : Hid (ON wr w.heap.size (.slice a1 D.length p1) D) := HN.out.below HCE.out.bel (Nat.le_refl _)
              have HBr : Hid (Below w.heap.size w wr) := HBW.out.trans (HCE.out.bel.mono hBw)
              have HHO : Hid (OI wr 0 (.slice ah S.length ch) (ci S)) := HCE.out.own.base (Nat.zero_le _)
              have HPW : Hid (((pw : Int) + qw) = ((pw + qw : Nat) : Int)) := by show _ = _; omega
              have HAV : Hid (Abv w.heap.size (D ++ [((pw + qw, S), .slice ah S.length ch)])) := fun p hp k hk => by
                rcases List.mem_append.1 hp with hp | hp
                · exact HAP.out p hp k hk
                · rw [List.mem_singleton.1 hp] at hk
                  have := (HCE.out.own.lt k hk).1
                  omega
              have HEN : Hid (mro (D ++ [((pw + qw, S), .slice ah S.length ch)]) ++ npk ((mro M).drop (i + 2)) = npk (mro M)) := by
                show _ = _
                rw [← HEQ.out, HST.out, HSS.out]
                simp [mro]
              clear HCE HC0 HST HEQ HAP
              go_wp2_with (at_builtin; refine wpNode rfl _ _ rfl w.heap.size (.slice a1 D.length p1) D ((pw + qw, S), .slice ah S.length ch) _ HPW.out HHO.out rfl HNr.out _ rfl (by omega) (by omega) ?_)
              intro v8 w8 ho8 hg8
              have HN8 := hide ho8
              have HB8 := hide (grow_node HBr.out (Nat.le_refl _) HNr.out hg8)
              clear ho8 hg8
              go_wp2
              go_roundw
              case rel => exact ⟨i + 2, _, by omega, by go_num, by simp; omega, HN8, HB8, HEN, HAV⟩
              case measure => simp [intOf]; omega
    · have hlt' : ¬ (i : Int) + 1 < (n : Int) := by omega
      have HF : Hid (mro D = npk (mro M)) := by
        have e := HEQ.out
        rw [npk_end (by rw [mro_len, ← HNN.out]; omega), List.append_nil] at e
        exact e
      clear HEQ
      go_wp2
      go_ret
      exact ⟨_, rfl, D, HN.out, HF.out, HAP.out, HBW.out⟩
end Go.Proofs.YtbbbonphmffokabDoor

