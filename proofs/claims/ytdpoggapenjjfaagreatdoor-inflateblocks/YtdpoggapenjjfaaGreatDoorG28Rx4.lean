import Derived.Test.YtdpoggapenjjfaaGreatDoorG27Mk5
import Derived.Test.YtdpoggapenjjfaaGreatDoorG25Rx3
import Derived.Test.YtdpoggapenjjfaaGreatDoorG26Mx1
namespace Go.Proofs.YtdpoggapenjjfaaGreatDoor
open Go.RowKit Go.Maps
set_option maxRecDepth 20000
set_option linter.unusedVariables false

end Go.Proofs.YtdpoggapenjjfaaGreatDoor

namespace Go.Proofs.YtdpoggapenjjfaaGreatDoor
open Go.RowKit Go.Maps
set_option maxRecDepth 20000
set_option linter.unusedVariables false

end Go.Proofs.YtdpoggapenjjfaaGreatDoor

namespace Go.Proofs.YtdpoggapenjjfaaGreatDoor
open Go.RowKit Go.Maps
set_option maxRecDepth 20000
set_option linter.unusedVariables false

end Go.Proofs.YtdpoggapenjjfaaGreatDoor

namespace Go.Proofs.YtdpoggapenjjfaaGreatDoor
open Go.RowKit Go.Maps
set_option maxRecDepth 20000
set_option linter.unusedVariables false

end Go.Proofs.YtdpoggapenjjfaaGreatDoor

namespace Go.Proofs.YtdpoggapenjjfaaGreatDoor
open Go.RowKit Go.Maps
set_option maxRecDepth 20000
set_option linter.unusedVariables false

end Go.Proofs.YtdpoggapenjjfaaGreatDoor

namespace Go.Proofs.YtdpoggapenjjfaaGreatDoor
open Go.RowKit Go.Maps
set_option maxRecDepth 20000
set_option linter.unusedVariables false

set_option maxHeartbeats 1000000 in
theorem zcodes_any (v1 v2 : Value) (l1 l2 : List Int) (w : World) (s1 : SI w v1 l1) (s2 : SI w v2 l2) (hl : 257 ≤ l1.length) :
    Calls Tryz.prog 80 #[v1, v2] w fun e w' => e = .returned (.int .i64 (hck l1 l2)) ∧ w' = w := by
  have H1 := hide s1
  have H2 := hide s2
  obtain ⟨a1, c1, rfl, hc1, hd1⟩ := s1.open
  obtain ⟨a2, c2, rfl, hc2, hd2⟩ := s2.open
  clear s1 s2
  have hl' : (256 : Int) < (l1.length : Int) := by omega
  have hl2 : ¬ (l1.length : Int) < 257 := by omega
  have hl3 : decide ((l1.length : Int) < 257) = false := decide_eq_false hl2
  obtain ⟨b, o, rfl, hc⟩ := H1.out.get (Below.refl _ _) (k := 256) (by omega)
  have HC1 := hide (xcheck_any _ l1 w H1.out)
  have HC2 := hide (xcheck_any _ l2 w H2.out)
  have HK : Hid (hck l1 l2 = if l1.getD 256 0 = 0 ∨ (chkS l1 ≠ 4 ∧ chkS l1 ≠ 1) then 75 else if chkS l2 ≠ 4 ∧ chkS l2 ≠ 1 ∧ chkS l2 ≠ 0 then 76 else 0) := rfl
  obtain ⟨y, HY⟩ : ∃ y, Hid (y = l1.getD 256 0) := ⟨_, rfl⟩
  obtain ⟨S, HSS⟩ : ∃ S, Hid (S = chkS l1) := ⟨_, rfl⟩
  obtain ⟨U, HU⟩ : ∃ U, Hid (U = chkS l2) := ⟨_, rfl⟩
  rw [← HY.out] at hc HK
  rw [← HSS.out] at HK HC1
  rw [← HU.out] at HK HC2
  go_enter Tryz.func80, Tryz.ntmps80
  go_wp2_with fail
  refine HC1.out.mono ?_
  rintro e w1 ⟨rfl, hw1⟩
  rw [hw1]
  clear hw1
  by_cases y0 : y = 0
  · have HR : Hid (hck l1 l2 = 75) := by show _ = _; rw [HK.out, if_pos (.inl y0)]
    subst y0
    go_wp2
    go_ret
    rw [HR.out]
    exact ⟨rfl, rfl⟩
  · have y0' : (y == 0) = false := by simpa using y0
    by_cases sok : S = 4 ∨ S = 1
    · have HK2 : Hid (hck l1 l2 = if U ≠ 4 ∧ U ≠ 1 ∧ U ≠ 0 then 76 else 0) := by show _ = _; rw [HK.out, if_neg (by omega)]
      rcases sok with rfl | rfl
      all_goals
        go_wp2_with fail
        refine HC2.out.mono ?_
        rintro e w2 ⟨rfl, hw2⟩
        rw [hw2]
        clear hw2
        by_cases u4 : U = 4
        · have HR : Hid (hck l1 l2 = 0) := by show _ = _; rw [HK2.out, if_neg (by omega)]
          subst u4
          go_wp2
          go_ret
          rw [HR.out]
          exact ⟨rfl, rfl⟩
        · have u4' : (U != 4) = true := by simpa using u4
          by_cases u1 : U = 1
          · have HR : Hid (hck l1 l2 = 0) := by show _ = _; rw [HK2.out, if_neg (by omega)]
            subst u1
            go_wp2
            go_ret
            rw [HR.out]
            exact ⟨rfl, rfl⟩
          · have u1' : (U != 1) = true := by simpa using u1
            by_cases u0 : U = 0
            · have HR : Hid (hck l1 l2 = 0) := by show _ = _; rw [HK2.out, if_neg (by omega)]
              subst u0
              go_wp2
              go_ret
              rw [HR.out]
              exact ⟨rfl, rfl⟩
            · have u0' : (U != 0) = true := by simpa using u0
              have HR : Hid (hck l1 l2 = 76) := by show _ = _; rw [HK2.out, if_pos ⟨u4, u1, u0⟩]
              go_wp2
              go_ret
              rw [HR.out]
              exact ⟨rfl, rfl⟩
    · have s4 : (S != 4) = true := by simp; omega
      have s1 : (S != 1) = true := by simp; omega
      have HR : Hid (hck l1 l2 = 75) := by show _ = _; rw [HK.out, if_pos (.inr (by omega))]
      go_wp2
      go_ret
      rw [HR.out]
      exact ⟨rfl, rfl⟩

structure Xodr (w : World) : Prop where
  get : ∀ i : Nat, i < 19 → w.cell? ⟨1, i, none⟩ = some (.int .i64 (zor.getD i 0))

theorem Xodr.mono {w w' : World} (h : Xodr w) (hb : Below w.heap.size w w') : Xodr w' := ⟨fun i hi => (hb.cell (World.block_lt_of_cell? w _ (h.get i hi))).trans (h.get i hi)⟩

end Go.Proofs.YtdpoggapenjjfaaGreatDoor

namespace Go.Proofs.YtdpoggapenjjfaaGreatDoor
open Go.RowKit Go.Maps
set_option maxRecDepth 20000
set_option linter.unusedVariables false

theorem box_keep {wr w3 : World} {B g : Nat} {u v3 : Value} {D : List Int} {o : Obj} {cs : Array Value} {fr : Nat × Nat} (hO : OI wr B u D) (hg : wr.heap[g]? = some (.cells cs 140 fr)) (hgr : Grew (wr.alloc o) w3 u v3) : w3.heap[g]? = some (.cells cs 140 fr) := by
  have hlt : g < wr.heap.size := by
    rcases Nat.lt_or_ge g wr.heap.size with h | h
    · exact h
    · rw [Array.getElem?_eq_none h] at hg; cases hg
  have hne : u.ownBlock ≠ some g := by
    intro he
    rcases hO.2 with ⟨rfl, _⟩ | ⟨g', cap, cur, rfl, _, hg', _⟩
    · simp [Value.ownBlock] at he
    · simp only [Value.ownBlock, Option.some.injEq] at he
      subst he
      rw [hg'] at hg
      simp at hg
  rw [hgr.by.block g (by simp; omega) (fun e => hne e.symm), Below.heap_alloc wr o g hlt]
  exact hg

set_option maxHeartbeats 4000000 in
theorem xexpand_any (v : Value) (R : List Rn) (w : World) (h : SR w v R) (hn : R.length ≤ 1048576) :
    Calls Tryz.prog 98 #[v] w fun e w' => ∃ u, e = .returned (.tuple #[u, .int .i64 (xpE [] R)]) ∧ OI w' w.heap.size u (xpL R) ∧ Below w.heap.size w w' := by
  have HS := hide h
  obtain ⟨ao, cap, rfl, hlc, hcm⟩ := h.open
  clear h
  go_enter Tryz.func98, Tryz.ntmps98
  go_wp2
  go_loopw [4, 5] (fun u i wr => ∃ k : Nat, k ≤ R.length ∧ i = .int .i64 k ∧ (lays [] (R.take k)).length ≤ 138 * k ∧ Hid (xpE [] (R.take k) = 0) ∧ Hid (OI wr w.heap.size u (lays [] (R.take k))) ∧ Hid (Below w.heap.size w wr)) (fun _ i _ => R.length - (intOf i).toNat)
  case atStart => exact ⟨0, Nat.zero_le _, rfl, by simp [lays], rfl, World.ownsRow_nil _ _ _ _, Below.refl _ _⟩
  case round =>
    obtain ⟨k, hk, rfl, ht, HX, HO, HB⟩ := hrel
    by_cases hlt : k < R.length
    · have hlt' : (k : Int) < (R.length : Int) := by omega
      obtain ⟨b, o, rfl, c1, c2⟩ := HS.out.get HB.out hlt
      obtain ⟨x1, x2, x3⟩ := xpE_at hlt HX.out
      have HSN : Hid (lays [] (R.take (k + 1)) = lay (lays [] (R.take k)) (R.getD k rn0)) := by show _ = _; rw [rn_snoc hlt, lays_snoc]
      have hto : tot (R.take k) = (lays [] (R.take k)).length := rfl
      obtain ⟨r, hr⟩ : ∃ r, r = R.getD k rn0 := ⟨_, rfl⟩
      rw [← hr] at c1 c2 x1 x2 x3 HSN
      obtain ⟨s, c⟩ := r
      clear hr
      simp only at c1 c2 x2 x3
      obtain ⟨D, HD⟩ : ∃ D, Hid (D = lays [] (R.take k)) := ⟨_, rfl⟩
      rw [hto] at x2 x3
      rw [← HD.out] at HSN HO ht x2 x3
      obtain ⟨a1, p1, hu⟩ := HO.out.shape
      subst hu
      obtain ⟨wx, hwx⟩ : ∃ wx, wr.alloc (.cells #[.int .i64 s, .int .i64 c] 140) = wx := ⟨_, rfl⟩
      have HBX : Hid (Below w.heap.size w wx) := by rw [← hwx]; exact hide (HB.out.alloc HB.out.size _)
      have HOX : Hid (OI wx w.heap.size (.slice a1 D.length p1) D) := by rw [← hwx]; exact hide (HO.out.alloc _)
      have hgx : wx.heap[wr.heap.size]? = some (.cells #[.int .i64 s, .int .i64 c] 140 (0, 0)) := by rw [← hwx]; exact heap_alloc_new wr _
      obtain ⟨z0, z1⟩ := boxOf hgx
      have HGX := hide hgx
      have hDs := HD.out
      clear hgx hto hDs
      by_cases ok : Okr (s, c)
      · obtain ⟨s, c, e, hs, hc1, hc2, hc3, hc4⟩ := okr_parts ok
        simp only [Prod.mk.injEq] at e
        obtain ⟨rfl, rfl⟩ := e
        have HFU := hide (fun W => xfurther_any s W hs)
        have HX2 := hide (x2 ok)
        have HX3 := hide (x3 ok)
        have HLAY : Hid (lay D ((s : Int), (c : Int)) = D ++ List.replicate c (mnt s D)) := rfl
        have HDL := hide ht
        clear x1 x2 x3 ok
        have g1 : ¬ (s : Int) < 0 := by omega
        have g2 : ¬ (18 : Int) < (s : Int) := by omega
        go_wp2_with fail
        refine (HFU.out _).mono ?_
        rintro e w2 ⟨rfl, hw2⟩
        subst hw2
        have HCall : Hid (∀ n, Calls Tryz.prog 105 #[.int .i64 s] (w2.drewN n) fun e w'' => e = .returned (.int .i64 (mst s)) ∧ ∃ m, w'' = w2.drewN m) := fun n => (xmost_any s (w2.drewN n) hs).mono fun e w' ⟨he, q, hw⟩ => ⟨he, n + q, by rw [hw, World.drewN_drewN]⟩
        have g3 : decide ((c : Int) < lst s) = false := decide_eq_false (by omega)
        have g4 : decide (mst s < (c : Int)) = false := decide_eq_false (by omega)
        obtain ⟨L, hL⟩ : ∃ L, L = lst s := ⟨_, rfl⟩
        obtain ⟨M, hM⟩ : ∃ M, M = mst s := ⟨_, rfl⟩
        rw [← hL] at g3 hc1 ⊢
        rw [← hM] at HCall g4 hc2
        clear hL hM
        have HBD : Hid (∀ q, Below w.heap.size w (w2.drewN q)) := fun q => below_drewN HBX.out q
        have HOD : Hid (∀ q, OI (w2.drewN q) w.heap.size (.slice a1 D.length p1) D) := fun q => HOX.out.move fun _ _ => rfl
        have HGD : Hid (∀ q, (w2.drewN q).heap[wr.heap.size]? = some (.cells #[.int .i64 s, .int .i64 c] 140 (0, 0))) := fun q => HGX.out
        clear hwx
        by_cases e16 : s = 16
        · have g5 : ((s : Int) == 16) = true := by simp; omega
          have g6 : ¬ (16 : Int) < (s : Int) := by omega
          by_cases dz : D.length = 0
          · have g7 : ((D.length : Int) == 0) = true := by simp; exact List.length_eq_zero_iff.1 dz
            have HE := hide (HX2.out (by omega) dz)
            have HLL : Hid (xpL R = []) := by show _ = _; unfold xpL; rw [HE.out]; rfl
            clear e16 dz
            go_wp2
            go_quiet (first | (go_at_call 105; exact HCall.out _))
            obtain ⟨wq, hwq⟩ : ∃ wq, w2.drewN nq = wq := ⟨_, rfl⟩
            have HOQ := hide (HOD.out nq)
            have hgq := HGD.out nq
            have HBQ := hide (HBD.out nq)
            rw [hwq] at HOQ hgq HBQ ⊢
            obtain ⟨bx, hbx⟩ : ∃ bx, wr.heap.size = bx := ⟨_, rfl⟩
            rw [hbx] at hgq ⊢
            obtain ⟨y0, y1⟩ := boxOf hgq
            have HGQ := hide hgq
            clear hgq hwq hbx HGX HGD z0 z1
            go_wp2
            go_ret2
            rw [HE.out, HLL.out]
            exact ⟨_, rfl, World.ownsRow_nil _ _ _ _, HBQ.out⟩
          · have HXN := hide (HX3.out (fun _ => dz))
            obtain ⟨g, cc, hv, _, _, _, _⟩ := HO.out.form (by omega)
            simp only [Value.slice.injEq, true_and] at hv
            obtain ⟨rfl, rfl⟩ := hv
            have HVM : Hid (mnt s D = D.getD (D.length - 1) 0) := by show _ = _; rw [e16]; rfl
            obtain ⟨V, HV⟩ : ∃ V, Hid (V = mnt s D) := ⟨_, rfl⟩
            have HCD : Hid (∀ q, (w2.drewN q).cell? ⟨g, D.length - 1, none⟩ = some (.int .i64 V)) := fun q => by
              rw [HV.out, HVM.out]
              exact (HOD.out q).get rfl (by omega)
            obtain ⟨dl, hdl⟩ : ∃ dl, D.length = dl + 1 := ⟨D.length - 1, by omega⟩
            have g7 : ((dl : Int) + 1 == 0) = false := by simp; omega
            have hdb : dl ≤ 1000000000 := by have := HDL.out; omega
            rw [hdl, Nat.add_sub_cancel] at HCD
            rw [hdl] at HOD HOX ⊢
            clear e16 dz HO ht hdl HVM
            go_wp2
            go_quiet (first | (go_at_call 105; exact HCall.out _))
            obtain ⟨wq, hwq⟩ : ∃ wq, w2.drewN nq = wq := ⟨_, rfl⟩
            have HOQ := hide (HOD.out nq)
            have hgq := HGD.out nq
            have HBQ := hide (HBD.out nq)
            have cq := HCD.out nq
            rw [hwq] at HOQ hgq HBQ cq ⊢
            obtain ⟨bx, hbx⟩ : ∃ bx, wr.heap.size = bx := ⟨_, rfl⟩
            rw [hbx] at hgq ⊢
            obtain ⟨y0, y1⟩ := boxOf hgq
            have HGQ := hide hgq
            clear hgq hwq hbx HGX HGD z0 z1
            go_wp2
            go_loopw [4, 10] (fun u i wr2 => ∃ j : Nat, j ≤ c ∧ i = .int .i64 j ∧ Hid (OI wr2 w.heap.size u (D ++ List.replicate j V)) ∧ Hid (wr2.heap[bx]? = some (.cells #[.int .i64 s, .int .i64 c] 140 (0, 0))) ∧ Hid (Below w.heap.size w wr2)) (fun _ i _ => c - (intOf i).toNat)
            case atStart => exact ⟨0, Nat.zero_le _, rfl, by show OI _ _ _ _; simp only [List.replicate_zero, List.append_nil]; exact HOQ.out, HGQ.out, HBQ.out⟩
            case round =>
              obtain ⟨j, hj, rfl, HO3, HG3, HB3⟩ := hrel
              obtain ⟨y3, y4⟩ := boxOf HG3.out
              by_cases hjc : j < c
              · have hjc' : (j : Int) < (c : Int) := by omega
                have HLM := hide (lay_more D j V)
                obtain ⟨E, HE3⟩ : ∃ E : List Int, Hid (E = D ++ List.replicate j V) := ⟨_, hide rfl⟩
                have hEl : E.length ≤ 2000000000 := by rw [HE3.out, List.length_append, List.length_replicate]; have := HDL.out; omega
                rw [← HE3.out] at HO3 HLM
                have hBw := HB3.out.size
                obtain ⟨a5, p5, hu5⟩ := HO3.out.shape
                subst hu5
                have HALC := hide (HO3.out.alloc (.cells #[.int .i64 V] 3))
                have HSR := hide (built_srcI wr [V])
                go_wp2_with (at_builtin; refine wpList_appI rfl _ _ 70 rfl w.heap.size _ _ E [V] rfl HALC.out rfl HSR.out (by simp; omega) (by simp; omega) ?_)
                intro v6 w6 ho6 hgr6
                have HN : Hid (OI w6 w.heap.size v6 (D ++ List.replicate (j + 1) V) ∧ Below w.heap.size w w6) := ⟨by rw [HLM.out]; exact ho6, grow_one7 HB3.out (Nat.le_refl _) HO3.out hgr6⟩
                have HG6 := hide (box_keep HO3.out HG3.out hgr6)
                clear ho6 hgr6
                go_wp2
                go_roundw
                case rel => exact ⟨j + 1, by omega, by go_num, HN.out.1, HG6, HN.out.2⟩
                case measure => simp [intOf]; omega
              · obtain rfl : j = c := by omega
                have hjc' : ¬ (j : Int) < (j : Int) := by omega
                have HF : Hid (OI wr w.heap.size u4 (lays [] (R.take (k + 1)))) := by show OI _ _ _ _; rw [HSN.out, HLAY.out, ← HV.out]; exact HO3.out
                have hln : (lays [] (R.take (k + 1))).length ≤ 138 * (k + 1) := by rw [HSN.out, lay_len]; have := HDL.out; simp only [Int.toNat_natCast]; omega
                go_wp2
                go_roundw
                case rel => exact ⟨k + 1, by omega, by go_num, hln, HXN, HF, HB3⟩
                case measure => simp [intOf]; omega
        · have HXN := hide (HX3.out (fun q => absurd (by omega) e16))
          have g5 : ((s : Int) == 16) = false := by simp; omega
          by_cases l16 : s < 16
          · have g6 : ¬ (16 : Int) < (s : Int) := by omega
            obtain ⟨V, hV⟩ : ∃ V : Int, V = s := ⟨_, rfl⟩
            have HV : Hid (V = mnt s D) := by show _ = _; unfold mnt; rw [if_pos (by omega)]; exact hV
            clear e16 HO ht
            go_wp2
            go_quiet (first | (go_at_call 105; exact HCall.out _))
            obtain ⟨wq, hwq⟩ : ∃ wq, w2.drewN nq = wq := ⟨_, rfl⟩
            have HOQ := hide (HOD.out nq)
            have hgq := HGD.out nq
            have HBQ := hide (HBD.out nq)
            rw [hwq] at HOQ hgq HBQ ⊢
            obtain ⟨bx, hbx⟩ : ∃ bx, wr.heap.size = bx := ⟨_, rfl⟩
            rw [hbx] at hgq ⊢
            obtain ⟨y0, y1⟩ := boxOf hgq
            have HGQ := hide hgq
            clear hgq hwq hbx HGX HGD z0 z1
            go_wp2
            rw [← hV]
            clear hV
            go_loopw [4, 10] (fun u i wr2 => ∃ j : Nat, j ≤ c ∧ i = .int .i64 j ∧ Hid (OI wr2 w.heap.size u (D ++ List.replicate j V)) ∧ Hid (wr2.heap[bx]? = some (.cells #[.int .i64 s, .int .i64 c] 140 (0, 0))) ∧ Hid (Below w.heap.size w wr2)) (fun _ i _ => c - (intOf i).toNat)
            case atStart => exact ⟨0, Nat.zero_le _, rfl, by show OI _ _ _ _; simp only [List.replicate_zero, List.append_nil]; exact HOQ.out, HGQ.out, HBQ.out⟩
            case round =>
              obtain ⟨j, hj, rfl, HO3, HG3, HB3⟩ := hrel
              obtain ⟨y3, y4⟩ := boxOf HG3.out
              by_cases hjc : j < c
              · have hjc' : (j : Int) < (c : Int) := by omega
                have HLM := hide (lay_more D j V)
                obtain ⟨E, HE3⟩ : ∃ E : List Int, Hid (E = D ++ List.replicate j V) := ⟨_, hide rfl⟩
                have hEl : E.length ≤ 2000000000 := by rw [HE3.out, List.length_append, List.length_replicate]; have := HDL.out; omega
                rw [← HE3.out] at HO3 HLM
                have hBw := HB3.out.size
                obtain ⟨a5, p5, hu5⟩ := HO3.out.shape
                subst hu5
                have HALC := hide (HO3.out.alloc (.cells #[.int .i64 V] 3))
                have HSR := hide (built_srcI wr [V])
                go_wp2_with (at_builtin; refine wpList_appI rfl _ _ 70 rfl w.heap.size _ _ E [V] rfl HALC.out rfl HSR.out (by simp; omega) (by simp; omega) ?_)
                intro v6 w6 ho6 hgr6
                have HN : Hid (OI w6 w.heap.size v6 (D ++ List.replicate (j + 1) V) ∧ Below w.heap.size w w6) := ⟨by rw [HLM.out]; exact ho6, grow_one7 HB3.out (Nat.le_refl _) HO3.out hgr6⟩
                have HG6 := hide (box_keep HO3.out HG3.out hgr6)
                clear ho6 hgr6
                go_wp2
                go_roundw
                case rel => exact ⟨j + 1, by omega, by go_num, HN.out.1, HG6, HN.out.2⟩
                case measure => simp [intOf]; omega
              · obtain rfl : j = c := by omega
                have hjc' : ¬ (j : Int) < (j : Int) := by omega
                have HF : Hid (OI wr w.heap.size u4 (lays [] (R.take (k + 1)))) := by show OI _ _ _ _; rw [HSN.out, HLAY.out, ← HV.out]; exact HO3.out
                have hln : (lays [] (R.take (k + 1))).length ≤ 138 * (k + 1) := by rw [HSN.out, lay_len]; have := HDL.out; simp only [Int.toNat_natCast]; omega
                go_wp2
                go_roundw
                case rel => exact ⟨k + 1, by omega, by go_num, hln, HXN, HF, HB3⟩
                case measure => simp [intOf]; omega
          · have g6 : (16 : Int) < (s : Int) := by omega
            obtain ⟨V, hV⟩ : ∃ V : Int, V = 0 := ⟨_, rfl⟩
            have HV : Hid (V = mnt s D) := by show _ = _; unfold mnt; rw [if_neg (by omega), if_neg (by omega)]; exact hV
            have HVZ := hide hV
            clear e16 hV HO ht
            go_wp2
            go_quiet (first | (go_at_call 105; exact HCall.out _))
            obtain ⟨wq, hwq⟩ : ∃ wq, w2.drewN nq = wq := ⟨_, rfl⟩
            have HOQ := hide (HOD.out nq)
            have hgq := HGD.out nq
            have HBQ := hide (HBD.out nq)
            rw [hwq] at HOQ hgq HBQ ⊢
            obtain ⟨bx, hbx⟩ : ∃ bx, wr.heap.size = bx := ⟨_, rfl⟩
            rw [hbx] at hgq ⊢
            obtain ⟨y0, y1⟩ := boxOf hgq
            have HGQ := hide hgq
            clear hgq hwq hbx HGX HGD z0 z1
            go_wp2
            obtain rfl : V = 0 := HVZ.out
            go_loopw [4, 10] (fun u i wr2 => ∃ j : Nat, j ≤ c ∧ i = .int .i64 j ∧ Hid (OI wr2 w.heap.size u (D ++ List.replicate j (0 : Int))) ∧ Hid (wr2.heap[bx]? = some (.cells #[.int .i64 s, .int .i64 c] 140 (0, 0))) ∧ Hid (Below w.heap.size w wr2)) (fun _ i _ => c - (intOf i).toNat)
            case atStart => exact ⟨0, Nat.zero_le _, rfl, by show OI _ _ _ _; simp only [List.replicate_zero, List.append_nil]; exact HOQ.out, HGQ.out, HBQ.out⟩
            case round =>
              obtain ⟨j, hj, rfl, HO3, HG3, HB3⟩ := hrel
              obtain ⟨y3, y4⟩ := boxOf HG3.out
              by_cases hjc : j < c
              · have hjc' : (j : Int) < (c : Int) := by omega
                have HLM := hide (lay_more D j (0 : Int))
                obtain ⟨E, HE3⟩ : ∃ E : List Int, Hid (E = D ++ List.replicate j (0 : Int)) := ⟨_, hide rfl⟩
                have hEl : E.length ≤ 2000000000 := by rw [HE3.out, List.length_append, List.length_replicate]; have := HDL.out; omega
                rw [← HE3.out] at HO3 HLM
                have hBw := HB3.out.size
                obtain ⟨a5, p5, hu5⟩ := HO3.out.shape
                subst hu5
                have HALC := hide (HO3.out.alloc (.cells #[.int .i64 (0 : Int)] 3))
                have HSR := hide (built_srcI wr [(0 : Int)])
                go_wp2_with (at_builtin; refine wpList_appI rfl _ _ 70 rfl w.heap.size _ _ E [(0 : Int)] rfl HALC.out rfl HSR.out (by simp; omega) (by simp; omega) ?_)
                intro v6 w6 ho6 hgr6
                have HN : Hid (OI w6 w.heap.size v6 (D ++ List.replicate (j + 1) (0 : Int)) ∧ Below w.heap.size w w6) := ⟨by rw [HLM.out]; exact ho6, grow_one7 HB3.out (Nat.le_refl _) HO3.out hgr6⟩
                have HG6 := hide (box_keep HO3.out HG3.out hgr6)
                clear ho6 hgr6
                go_wp2
                go_roundw
                case rel => exact ⟨j + 1, by omega, by go_num, HN.out.1, HG6, HN.out.2⟩
                case measure => simp [intOf]; omega
              · obtain rfl : j = c := by omega
                have hjc' : ¬ (j : Int) < (j : Int) := by omega
                have HF : Hid (OI wr w.heap.size u4 (lays [] (R.take (k + 1)))) := by show OI _ _ _ _; rw [HSN.out, HLAY.out, ← HV.out]; exact HO3.out
                have hln : (lays [] (R.take (k + 1))).length ≤ 138 * (k + 1) := by rw [HSN.out, lay_len]; have := HDL.out; simp only [Int.toNat_natCast]; omega
                go_wp2
                go_roundw
                case rel => exact ⟨k + 1, by omega, by go_num, hln, HXN, HF, HB3⟩
                case measure => simp [intOf]; omega
      · have HE := hide (x1 ok)
        have HLL : Hid (xpL R = []) := by show _ = _; unfold xpL; rw [HE.out]; rfl
        clear x1 x2 x3 HO ht
        by_cases n1 : s < 0
        · go_wp2
          go_ret2
          rw [HE.out, HLL.out]
          exact ⟨_, rfl, World.ownsRow_nil _ _ _ _, HBX.out⟩
        · by_cases n2 : 18 < s
          · go_wp2
            go_ret2
            rw [HE.out, HLL.out]
            exact ⟨_, rfl, World.ownsRow_nil _ _ _ _, HBX.out⟩
          · obtain ⟨s, rfl⟩ := Int.eq_ofNat_of_zero_le (show 0 ≤ s by omega)
            have hs : s < 19 := by omega
            have HFU := hide (fun W => xfurther_any s W hs)
            have hbad : c < lst s ∨ mst s < c := by
              by_cases q1 : c < lst s
              · exact .inl q1
              · by_cases q2 : mst s < c
                · exact .inr q2
                · exact absurd ⟨by simp only; omega, by simp only; omega, by simp only; omega, by simp only; omega⟩ ok
            clear ok
            go_wp2_with fail
            refine (HFU.out _).mono ?_
            rintro e w2 ⟨rfl, hw2⟩
            subst hw2
            have HCall : Hid (∀ n, Calls Tryz.prog 105 #[.int .i64 s] (w2.drewN n) fun e w'' => e = .returned (.int .i64 (mst s)) ∧ ∃ m, w'' = w2.drewN m) := fun n => (xmost_any s (w2.drewN n) hs).mono fun e w' ⟨he, q, hw⟩ => ⟨he, n + q, by rw [hw, World.drewN_drewN]⟩
            have HBD : Hid (∀ q, Below w.heap.size w (w2.drewN q)) := fun q => below_drewN HBX.out q
            obtain ⟨L, hL⟩ : ∃ L, L = lst s := ⟨_, rfl⟩
            obtain ⟨M, hM⟩ : ∃ M, M = mst s := ⟨_, rfl⟩
            rw [← hL] at hbad ⊢
            rw [← hM] at HCall hbad
            clear hL hM hwx
            by_cases q1 : c < L
            · have g3 : decide (c < L) = true := decide_eq_true q1
              go_wp2
              go_quiet (first | (go_at_call 105; exact HCall.out _))
              go_wp2
              go_ret2
              rw [HE.out, HLL.out]
              exact ⟨_, rfl, World.ownsRow_nil _ _ _ _, HBD.out _⟩
            · have g3 : decide (c < L) = false := decide_eq_false q1
              have q2 : M < c := by omega
              have g4 : decide (M < c) = true := decide_eq_true q2
              go_wp2
              go_quiet (first | (go_at_call 105; exact HCall.out _))
              go_wp2
              go_ret2
              rw [HE.out, HLL.out]
              exact ⟨_, rfl, World.ownsRow_nil _ _ _ _, HBD.out _⟩
    · obtain rfl : k = R.length := by omega
      have hlt' : ¬ (R.length : Int) < (R.length : Int) := by omega
      have HE : Hid (xpE [] R = 0) := by have := HX.out; rwa [List.take_of_length_le (Nat.le_refl _)] at this
      have HF : Hid (OI wr w.heap.size u4 (xpL R)) := by
        have := HO.out
        rw [List.take_of_length_le (Nat.le_refl _)] at this
        show OI _ _ _ _
        unfold xpL
        rw [HE.out]
        exact this
      go_wp2
      go_ret2
      rw [HE.out]
      exact ⟨_, rfl, HF.out, HB.out⟩
end Go.Proofs.YtdpoggapenjjfaaGreatDoor

