import Derived.Test.YtmjdpfigkojolaaGreatDoorG26Mk5
import Derived.Test.YtmjdpfigkojolaaGreatDoorG24Rx1
import Derived.Test.YtmjdpfigkojolaaGreatDoorG25Mx1
import Derived.Test.YtmjdpfigkojolaaGreatDoorG06Rhl
import Derived.Test.YtmjdpfigkojolaaGreatDoorG16Rdw
import Derived.Test.YtmjdpfigkojolaaGreatDoorG08Ifa
namespace Go.Proofs.YtmjdpfigkojolaaGreatDoor
open Go.RowKit Go.Maps
set_option maxRecDepth 20000
set_option linter.unusedVariables false

end Go.Proofs.YtmjdpfigkojolaaGreatDoor

namespace Go.Proofs.YtmjdpfigkojolaaGreatDoor
open Go.RowKit Go.Maps
set_option maxRecDepth 20000
set_option linter.unusedVariables false

end Go.Proofs.YtmjdpfigkojolaaGreatDoor

namespace Go.Proofs.YtmjdpfigkojolaaGreatDoor
open Go.RowKit Go.Maps
set_option maxRecDepth 20000
set_option linter.unusedVariables false

end Go.Proofs.YtmjdpfigkojolaaGreatDoor

namespace Go.Proofs.YtmjdpfigkojolaaGreatDoor
open Go.RowKit Go.Maps
set_option maxRecDepth 20000
set_option linter.unusedVariables false

end Go.Proofs.YtmjdpfigkojolaaGreatDoor

namespace Go.Proofs.YtmjdpfigkojolaaGreatDoor
open Go.RowKit Go.Maps
set_option maxRecDepth 20000
set_option linter.unusedVariables false

end Go.Proofs.YtmjdpfigkojolaaGreatDoor

namespace Go.Proofs.YtmjdpfigkojolaaGreatDoor
open Go.RowKit Go.Maps
set_option maxRecDepth 20000
set_option linter.unusedVariables false

set_option maxHeartbeats 1000000 in
theorem zcodes_any (v1 v2 : Value) (l1 l2 : List Int) (w : World) (s1 : SI w v1 l1) (s2 : SI w v2 l2) (hl : 257 ≤ l1.length) :
    Calls Tryz.prog 125 #[v1, v2] w fun e w' => e = .returned (.int .i64 (hck l1 l2)) ∧ w' = w := by
  have H1 := hide s1
  have H2 := hide s2
  obtain ⟨a1, c1, rfl, hc1, hd1⟩ := s1.open
  obtain ⟨a2, c2, rfl, hc2, hd2⟩ := s2.open
  clear s1 s2
  have hl' : (256 : Int) < (l1.length : Int) := by omega
  have hl2 : ¬ (l1.length : Int) < 257 := by omega
  have hl3 : decide ((l1.length : Int) < 257) = false := decide_eq_false hl2
  obtain ⟨b, o, rfl, hc⟩ := H1.out.get (Below.refl _ _) (k := 256) (by omega)
  have HC1 := hide (xcheck_any _ l1 w H1.out)
  have HC2 := hide (xcheck_any _ l2 w H2.out)
  have HK : Hid (hck l1 l2 = if l1.getD 256 0 = 0 ∨ (chkS l1 ≠ 4 ∧ chkS l1 ≠ 1) then 75 else if chkS l2 ≠ 4 ∧ chkS l2 ≠ 1 ∧ chkS l2 ≠ 0 then 76 else 0) := rfl
  obtain ⟨y, HY⟩ : ∃ y, Hid (y = l1.getD 256 0) := ⟨_, rfl⟩
  obtain ⟨S, HSS⟩ : ∃ S, Hid (S = chkS l1) := ⟨_, rfl⟩
  obtain ⟨U, HU⟩ : ∃ U, Hid (U = chkS l2) := ⟨_, rfl⟩
  rw [← HY.out] at hc HK
  rw [← HSS.out] at HK HC1
  rw [← HU.out] at HK HC2
  go_enter Tryz.func125, Tryz.ntmps125
  go_wp2_with fail
  refine HC1.out.mono ?_
  rintro e w1 ⟨rfl, hw1⟩
  rw [hw1]
  clear hw1
  by_cases y0 : y = 0
  · have HR : Hid (hck l1 l2 = 75) := by show _ = _; rw [HK.out, if_pos (.inl y0)]
    subst y0
    go_wp2
    go_ret
    rw [HR.out]
    exact ⟨rfl, rfl⟩
  · have y0' : (y == 0) = false := by simpa using y0
    by_cases sok : S = 4 ∨ S = 1
    · have HK2 : Hid (hck l1 l2 = if U ≠ 4 ∧ U ≠ 1 ∧ U ≠ 0 then 76 else 0) := by show _ = _; rw [HK.out, if_neg (by omega)]
      rcases sok with rfl | rfl
      all_goals
        go_wp2_with fail
        refine HC2.out.mono ?_
        rintro e w2 ⟨rfl, hw2⟩
        rw [hw2]
        clear hw2
        by_cases u4 : U = 4
        · have HR : Hid (hck l1 l2 = 0) := by show _ = _; rw [HK2.out, if_neg (by omega)]
          subst u4
          go_wp2
          go_ret
          rw [HR.out]
          exact ⟨rfl, rfl⟩
        · have u4' : (U != 4) = true := by simpa using u4
          by_cases u1 : U = 1
          · have HR : Hid (hck l1 l2 = 0) := by show _ = _; rw [HK2.out, if_neg (by omega)]
            subst u1
            go_wp2
            go_ret
            rw [HR.out]
            exact ⟨rfl, rfl⟩
          · have u1' : (U != 1) = true := by simpa using u1
            by_cases u0 : U = 0
            · have HR : Hid (hck l1 l2 = 0) := by show _ = _; rw [HK2.out, if_neg (by omega)]
              subst u0
              go_wp2
              go_ret
              rw [HR.out]
              exact ⟨rfl, rfl⟩
            · have u0' : (U != 0) = true := by simpa using u0
              have HR : Hid (hck l1 l2 = 76) := by show _ = _; rw [HK2.out, if_pos ⟨u4, u1, u0⟩]
              go_wp2
              go_ret
              rw [HR.out]
              exact ⟨rfl, rfl⟩
    · have s4 : (S != 4) = true := by simp; omega
      have s1 : (S != 1) = true := by simp; omega
      have HR : Hid (hck l1 l2 = 75) := by show _ = _; rw [HK.out, if_pos (.inr (by omega))]
      go_wp2
      go_ret
      rw [HR.out]
      exact ⟨rfl, rfl⟩

structure Xodr (w : World) : Prop where
  get : ∀ i : Nat, i < 19 → w.cell? ⟨3, i, none⟩ = some (.int .i64 (zor.getD i 0))

theorem Xodr.mono {w w' : World} (h : Xodr w) (hb : Below w.heap.size w w') : Xodr w' := ⟨fun i hi => (hb.cell (World.block_lt_of_cell? w _ (h.get i hi))).trans (h.get i hi)⟩

end Go.Proofs.YtmjdpfigkojolaaGreatDoor

namespace Go.Proofs.YtmjdpfigkojolaaGreatDoor
open Go.RowKit Go.Maps
set_option maxRecDepth 20000
set_option linter.unusedVariables false

theorem box_keep {wr w3 : World} {B g : Nat} {u v3 : Value} {D : List Int} {o : Obj} {cs : Array Value} {fr : Nat × Nat} (hO : OI wr B u D) (hg : wr.heap[g]? = some (.cells cs 175 fr)) (hgr : Grew (wr.alloc o) w3 u v3) : w3.heap[g]? = some (.cells cs 175 fr) := by
  have hlt : g < wr.heap.size := by
    rcases Nat.lt_or_ge g wr.heap.size with h | h
    · exact h
    · rw [Array.getElem?_eq_none h] at hg; cases hg
  have hne : u.ownBlock ≠ some g := by
    intro he
    rcases hO.2 with ⟨rfl, _⟩ | ⟨g', cap, cur, rfl, _, hg', _⟩
    · simp [Value.ownBlock] at he
    · simp only [Value.ownBlock, Option.some.injEq] at he
      subst he
      rw [hg'] at hg
      simp at hg
  rw [hgr.by.block g (by simp; omega) (fun e => hne e.symm), Below.heap_alloc wr o g hlt]
  exact hg

set_option maxHeartbeats 4000000 in
theorem xexpand_any (v : Value) (R : List Rn) (w : World) (h : SR w v R) (hn : R.length ≤ 1048576) :
    Calls Tryz.prog 143 #[v] w fun e w' => ∃ u, e = .returned (.tuple #[u, .int .i64 (xpE [] R)]) ∧ OI w' w.heap.size u (xpL R) ∧ Below w.heap.size w w' := by
  have HS := hide h
  obtain ⟨ao, cap, rfl, hlc, hcm⟩ := h.open
  clear h
  go_enter Tryz.func143, Tryz.ntmps143
  go_wp2
  go_loopw [4, 5] (fun u i wr => ∃ k : Nat, k ≤ R.length ∧ i = .int .i64 k ∧ (lays [] (R.take k)).length ≤ 138 * k ∧ Hid (xpE [] (R.take k) = 0) ∧ Hid (OI wr w.heap.size u (lays [] (R.take k))) ∧ Hid (Below w.heap.size w wr)) (fun _ i _ => R.length - (intOf i).toNat)
  case atStart => exact ⟨0, Nat.zero_le _, rfl, by simp [lays], rfl, World.ownsRow_nil _ _ _ _, Below.refl _ _⟩
  case round =>
    obtain ⟨k, hk, rfl, ht, HX, HO, HB⟩ := hrel
    by_cases hlt : k < R.length
    · have hlt' : (k : Int) < (R.length : Int) := by omega
      obtain ⟨b, o, rfl, c1, c2⟩ := HS.out.get HB.out hlt
      obtain ⟨x1, x2, x3⟩ := xpE_at hlt HX.out
      have HSN : Hid (lays [] (R.take (k + 1)) = lay (lays [] (R.take k)) (R.getD k rn0)) := by show _ = _; rw [rn_snoc hlt, lays_snoc]
      have hto : tot (R.take k) = (lays [] (R.take k)).length := rfl
      obtain ⟨r, hr⟩ : ∃ r, r = R.getD k rn0 := ⟨_, rfl⟩
      rw [← hr] at c1 c2 x1 x2 x3 HSN
      obtain ⟨s, c⟩ := r
      clear hr
      simp only at c1 c2 x2 x3
      obtain ⟨D, HD⟩ : ∃ D, Hid (D = lays [] (R.take k)) := ⟨_, rfl⟩
      rw [hto] at x2 x3
      rw [← HD.out] at HSN HO ht x2 x3
      obtain ⟨a1, p1, hu⟩ := HO.out.shape
      subst hu
      obtain ⟨wx, hwx⟩ : ∃ wx, wr.alloc (.cells #[.int .i64 s, .int .i64 c] 175) = wx := ⟨_, rfl⟩
      have HBX : Hid (Below w.heap.size w wx) := by rw [← hwx]; exact hide (HB.out.alloc HB.out.size _)
      have HOX : Hid (OI wx w.heap.size (.slice a1 D.length p1) D) := by rw [← hwx]; exact hide (HO.out.alloc _)
      have hgx : wx.heap[wr.heap.size]? = some (.cells #[.int .i64 s, .int .i64 c] 175 (0, 0)) := by rw [← hwx]; exact heap_alloc_new wr _
      obtain ⟨z0, z1⟩ := boxOf hgx
      have HGX := hide hgx
      have hDs := HD.out
      clear hgx hto hDs
      by_cases ok : Okr (s, c)
      · obtain ⟨s, c, e, hs, hc1, hc2, hc3, hc4⟩ := okr_parts ok
        simp only [Prod.mk.injEq] at e
        obtain ⟨rfl, rfl⟩ := e
        have HFU := hide (fun W => xfurther_any s W hs)
        have HX2 := hide (x2 ok)
        have HX3 := hide (x3 ok)
        have HLAY : Hid (lay D ((s : Int), (c : Int)) = D ++ List.replicate c (mnt s D)) := rfl
        have HDL := hide ht
        clear x1 x2 x3 ok
        have g1 : ¬ (s : Int) < 0 := by omega
        have g2 : ¬ (18 : Int) < (s : Int) := by omega
        go_wp2_with fail
        refine (HFU.out _).mono ?_
        rintro e w2 ⟨rfl, hw2⟩
        subst hw2
        have HCall : Hid (∀ n, Calls Tryz.prog 148 #[.int .i64 s] (w2.drewN n) fun e w'' => e = .returned (.int .i64 (mst s)) ∧ ∃ m, w'' = w2.drewN m) := fun n => (xmost_any s (w2.drewN n) hs).mono fun e w' ⟨he, q, hw⟩ => ⟨he, n + q, by rw [hw, World.drewN_drewN]⟩
        have g3 : decide ((c : Int) < lst s) = false := decide_eq_false (by omega)
        have g4 : decide (mst s < (c : Int)) = false := decide_eq_false (by omega)
        obtain ⟨L, hL⟩ : ∃ L, L = lst s := ⟨_, rfl⟩
        obtain ⟨M, hM⟩ : ∃ M, M = mst s := ⟨_, rfl⟩
        rw [← hL] at g3 hc1 ⊢
        rw [← hM] at HCall g4 hc2
        clear hL hM
        have HBD : Hid (∀ q, Below w.heap.size w (w2.drewN q)) := fun q => below_drewN HBX.out q
        have HOD : Hid (∀ q, OI (w2.drewN q) w.heap.size (.slice a1 D.length p1) D) := fun q => HOX.out.move fun _ _ => rfl
        have HGD : Hid (∀ q, (w2.drewN q).heap[wr.heap.size]? = some (.cells #[.int .i64 s, .int .i64 c] 175 (0, 0))) := fun q => HGX.out
        clear hwx
        by_cases e16 : s = 16
        · have g5 : ((s : Int) == 16) = true := by simp; omega
          have g6 : ¬ (16 : Int) < (s : Int) := by omega
          by_cases dz : D.length = 0
          · have g7 : ((D.length : Int) == 0) = true := by simp; exact List.length_eq_zero_iff.1 dz
            have HE := hide (HX2.out (by omega) dz)
            have HLL : Hid (xpL R = []) := by show _ = _; unfold xpL; rw [HE.out]; rfl
            clear e16 dz
            go_wp2
            go_quiet (first | (go_at_call 148; exact HCall.out _))
            obtain ⟨wq, hwq⟩ : ∃ wq, w2.drewN nq = wq := ⟨_, rfl⟩
            have HOQ := hide (HOD.out nq)
            have hgq := HGD.out nq
            have HBQ := hide (HBD.out nq)
            rw [hwq] at HOQ hgq HBQ ⊢
            obtain ⟨bx, hbx⟩ : ∃ bx, wr.heap.size = bx := ⟨_, rfl⟩
            rw [hbx] at hgq ⊢
            obtain ⟨y0, y1⟩ := boxOf hgq
            have HGQ := hide hgq
            clear hgq hwq hbx HGX HGD z0 z1
            go_wp2
            go_ret2
            rw [HE.out, HLL.out]
            exact ⟨_, rfl, World.ownsRow_nil _ _ _ _, HBQ.out⟩
          · have HXN := hide (HX3.out (fun _ => dz))
            obtain ⟨g, cc, hv, _, _, _, _⟩ := HO.out.form (by omega)
            simp only [Value.slice.injEq, true_and] at hv
            obtain ⟨rfl, rfl⟩ := hv
            have HVM : Hid (mnt s D = D.getD (D.length - 1) 0) := by show _ = _; rw [e16]; rfl
            obtain ⟨V, HV⟩ : ∃ V, Hid (V = mnt s D) := ⟨_, rfl⟩
            have HCD : Hid (∀ q, (w2.drewN q).cell? ⟨g, D.length - 1, none⟩ = some (.int .i64 V)) := fun q => by
              rw [HV.out, HVM.out]
              exact (HOD.out q).get rfl (by omega)
            obtain ⟨dl, hdl⟩ : ∃ dl, D.length = dl + 1 := ⟨D.length - 1, by omega⟩
            have g7 : ((dl : Int) + 1 == 0) = false := by simp; omega
            have hdb : dl ≤ 1000000000 := by have := HDL.out; omega
            rw [hdl, Nat.add_sub_cancel] at HCD
            rw [hdl] at HOD HOX ⊢
            clear e16 dz HO ht hdl HVM
            go_wp2
            go_quiet (first | (go_at_call 148; exact HCall.out _))
            obtain ⟨wq, hwq⟩ : ∃ wq, w2.drewN nq = wq := ⟨_, rfl⟩
            have HOQ := hide (HOD.out nq)
            have hgq := HGD.out nq
            have HBQ := hide (HBD.out nq)
            have cq := HCD.out nq
            rw [hwq] at HOQ hgq HBQ cq ⊢
            obtain ⟨bx, hbx⟩ : ∃ bx, wr.heap.size = bx := ⟨_, rfl⟩
            rw [hbx] at hgq ⊢
            obtain ⟨y0, y1⟩ := boxOf hgq
            have HGQ := hide hgq
            clear hgq hwq hbx HGX HGD z0 z1
            go_wp2
            go_loopw [4, 10] (fun u i wr2 => ∃ j : Nat, j ≤ c ∧ i = .int .i64 j ∧ Hid (OI wr2 w.heap.size u (D ++ List.replicate j V)) ∧ Hid (wr2.heap[bx]? = some (.cells #[.int .i64 s, .int .i64 c] 175 (0, 0))) ∧ Hid (Below w.heap.size w wr2)) (fun _ i _ => c - (intOf i).toNat)
            case atStart => exact ⟨0, Nat.zero_le _, rfl, by show OI _ _ _ _; simp only [List.replicate_zero, List.append_nil]; exact HOQ.out, HGQ.out, HBQ.out⟩
            case round =>
              obtain ⟨j, hj, rfl, HO3, HG3, HB3⟩ := hrel
              obtain ⟨y3, y4⟩ := boxOf HG3.out
              by_cases hjc : j < c
              · have hjc' : (j : Int) < (c : Int) := by omega
                have HLM := hide (lay_more D j V)
                obtain ⟨E, HE3⟩ : ∃ E : List Int, Hid (E = D ++ List.replicate j V) := ⟨_, hide rfl⟩
                have hEl : E.length ≤ 2000000000 := by rw [HE3.out, List.length_append, List.length_replicate]; have := HDL.out; omega
                rw [← HE3.out] at HO3 HLM
                have hBw := HB3.out.size
                obtain ⟨a5, p5, hu5⟩ := HO3.out.shape
                subst hu5
                have HALC := hide (HO3.out.alloc (.cells #[.int .i64 V] 3))
                have HSR := hide (built_srcI wr [V])
                go_wp2_with (at_builtin; refine wpList_appI rfl _ _ 113 rfl w.heap.size _ _ E [V] rfl HALC.out rfl HSR.out (by simp; omega) (by simp; omega) ?_)
                intro v6 w6 ho6 hgr6
                have HN : Hid (OI w6 w.heap.size v6 (D ++ List.replicate (j + 1) V) ∧ Below w.heap.size w w6) := ⟨by rw [HLM.out]; exact ho6, grow_one7 HB3.out (Nat.le_refl _) HO3.out hgr6⟩
                have HG6 := hide (box_keep HO3.out HG3.out hgr6)
                clear ho6 hgr6
                go_wp2
                go_roundw
                case rel => exact ⟨j + 1, by omega, by go_num, HN.out.1, HG6, HN.out.2⟩
                case measure => simp [intOf]; omega
              · obtain rfl : j = c := by omega
                have hjc' : ¬ (j : Int) < (j : Int) := by omega
                have HF : Hid (OI wr w.heap.size u4 (lays [] (R.take (k + 1)))) := by show OI _ _ _ _; rw [HSN.out, HLAY.out, ← HV.out]; exact HO3.out
                have hln : (lays [] (R.take (k + 1))).length ≤ 138 * (k + 1) := by rw [HSN.out, lay_len]; have := HDL.out; simp only [Int.toNat_natCast]; omega
                go_wp2
                go_roundw
                case rel => exact ⟨k + 1, by omega, by go_num, hln, HXN, HF, HB3⟩
                case measure => simp [intOf]; omega
        · have HXN := hide (HX3.out (fun q => absurd (by omega) e16))
          have g5 : ((s : Int) == 16) = false := by simp; omega
          by_cases l16 : s < 16
          · have g6 : ¬ (16 : Int) < (s : Int) := by omega
            obtain ⟨V, hV⟩ : ∃ V : Int, V = s := ⟨_, rfl⟩
            have HV : Hid (V = mnt s D) := by show _ = _; unfold mnt; rw [if_pos (by omega)]; exact hV
            clear e16 HO ht
            go_wp2
            go_quiet (first | (go_at_call 148; exact HCall.out _))
            obtain ⟨wq, hwq⟩ : ∃ wq, w2.drewN nq = wq := ⟨_, rfl⟩
            have HOQ := hide (HOD.out nq)
            have hgq := HGD.out nq
            have HBQ := hide (HBD.out nq)
            rw [hwq] at HOQ hgq HBQ ⊢
            obtain ⟨bx, hbx⟩ : ∃ bx, wr.heap.size = bx := ⟨_, rfl⟩
            rw [hbx] at hgq ⊢
            obtain ⟨y0, y1⟩ := boxOf hgq
            have HGQ := hide hgq
            clear hgq hwq hbx HGX HGD z0 z1
            go_wp2
            rw [← hV]
            clear hV
            go_loopw [4, 10] (fun u i wr2 => ∃ j : Nat, j ≤ c ∧ i = .int .i64 j ∧ Hid (OI wr2 w.heap.size u (D ++ List.replicate j V)) ∧ Hid (wr2.heap[bx]? = some (.cells #[.int .i64 s, .int .i64 c] 175 (0, 0))) ∧ Hid (Below w.heap.size w wr2)) (fun _ i _ => c - (intOf i).toNat)
            case atStart => exact ⟨0, Nat.zero_le _, rfl, by show OI _ _ _ _; simp only [List.replicate_zero, List.append_nil]; exact HOQ.out, HGQ.out, HBQ.out⟩
            case round =>
              obtain ⟨j, hj, rfl, HO3, HG3, HB3⟩ := hrel
              obtain ⟨y3, y4⟩ := boxOf HG3.out
              by_cases hjc : j < c
              · have hjc' : (j : Int) < (c : Int) := by omega
                have HLM := hide (lay_more D j V)
                obtain ⟨E, HE3⟩ : ∃ E : List Int, Hid (E = D ++ List.replicate j V) := ⟨_, hide rfl⟩
                have hEl : E.length ≤ 2000000000 := by rw [HE3.out, List.length_append, List.length_replicate]; have := HDL.out; omega
                rw [← HE3.out] at HO3 HLM
                have hBw := HB3.out.size
                obtain ⟨a5, p5, hu5⟩ := HO3.out.shape
                subst hu5
                have HALC := hide (HO3.out.alloc (.cells #[.int .i64 V] 3))
                have HSR := hide (built_srcI wr [V])
                go_wp2_with (at_builtin; refine wpList_appI rfl _ _ 113 rfl w.heap.size _ _ E [V] rfl HALC.out rfl HSR.out (by simp; omega) (by simp; omega) ?_)
                intro v6 w6 ho6 hgr6
                have HN : Hid (OI w6 w.heap.size v6 (D ++ List.replicate (j + 1) V) ∧ Below w.heap.size w w6) := ⟨by rw [HLM.out]; exact ho6, grow_one7 HB3.out (Nat.le_refl _) HO3.out hgr6⟩
                have HG6 := hide (box_keep HO3.out HG3.out hgr6)
                clear ho6 hgr6
                go_wp2
                go_roundw
                case rel => exact ⟨j + 1, by omega, by go_num, HN.out.1, HG6, HN.out.2⟩
                case measure => simp [intOf]; omega
              · obtain rfl : j = c := by omega
                have hjc' : ¬ (j : Int) < (j : Int) := by omega
                have HF : Hid (OI wr w.heap.size u4 (lays [] (R.take (k + 1)))) := by show OI _ _ _ _; rw [HSN.out, HLAY.out, ← HV.out]; exact HO3.out
                have hln : (lays [] (R.take (k + 1))).length ≤ 138 * (k + 1) := by rw [HSN.out, lay_len]; have := HDL.out; simp only [Int.toNat_natCast]; omega
                go_wp2
                go_roundw
                case rel => exact ⟨k + 1, by omega, by go_num, hln, HXN, HF, HB3⟩
                case measure => simp [intOf]; omega
          · have g6 : (16 : Int) < (s : Int) := by omega
            obtain ⟨V, hV⟩ : ∃ V : Int, V = 0 := ⟨_, rfl⟩
            have HV : Hid (V = mnt s D) := by show _ = _; unfold mnt; rw [if_neg (by omega), if_neg (by omega)]; exact hV
            have HVZ := hide hV
            clear e16 hV HO ht
            go_wp2
            go_quiet (first | (go_at_call 148; exact HCall.out _))
            obtain ⟨wq, hwq⟩ : ∃ wq, w2.drewN nq = wq := ⟨_, rfl⟩
            have HOQ := hide (HOD.out nq)
            have hgq := HGD.out nq
            have HBQ := hide (HBD.out nq)
            rw [hwq] at HOQ hgq HBQ ⊢
            obtain ⟨bx, hbx⟩ : ∃ bx, wr.heap.size = bx := ⟨_, rfl⟩
            rw [hbx] at hgq ⊢
            obtain ⟨y0, y1⟩ := boxOf hgq
            have HGQ := hide hgq
            clear hgq hwq hbx HGX HGD z0 z1
            go_wp2
            obtain rfl : V = 0 := HVZ.out
            go_loopw [4, 10] (fun u i wr2 => ∃ j : Nat, j ≤ c ∧ i = .int .i64 j ∧ Hid (OI wr2 w.heap.size u (D ++ List.replicate j (0 : Int))) ∧ Hid (wr2.heap[bx]? = some (.cells #[.int .i64 s, .int .i64 c] 175 (0, 0))) ∧ Hid (Below w.heap.size w wr2)) (fun _ i _ => c - (intOf i).toNat)
            case atStart => exact ⟨0, Nat.zero_le _, rfl, by show OI _ _ _ _; simp only [List.replicate_zero, List.append_nil]; exact HOQ.out, HGQ.out, HBQ.out⟩
            case round =>
              obtain ⟨j, hj, rfl, HO3, HG3, HB3⟩ := hrel
              obtain ⟨y3, y4⟩ := boxOf HG3.out
              by_cases hjc : j < c
              · have hjc' : (j : Int) < (c : Int) := by omega
                have HLM := hide (lay_more D j (0 : Int))
                obtain ⟨E, HE3⟩ : ∃ E : List Int, Hid (E = D ++ List.replicate j (0 : Int)) := ⟨_, hide rfl⟩
                have hEl : E.length ≤ 2000000000 := by rw [HE3.out, List.length_append, List.length_replicate]; have := HDL.out; omega
                rw [← HE3.out] at HO3 HLM
                have hBw := HB3.out.size
                obtain ⟨a5, p5, hu5⟩ := HO3.out.shape
                subst hu5
                have HALC := hide (HO3.out.alloc (.cells #[.int .i64 (0 : Int)] 3))
                have HSR := hide (built_srcI wr [(0 : Int)])
                go_wp2_with (at_builtin; refine wpList_appI rfl _ _ 113 rfl w.heap.size _ _ E [(0 : Int)] rfl HALC.out rfl HSR.out (by simp; omega) (by simp; omega) ?_)
                intro v6 w6 ho6 hgr6
                have HN : Hid (OI w6 w.heap.size v6 (D ++ List.replicate (j + 1) (0 : Int)) ∧ Below w.heap.size w w6) := ⟨by rw [HLM.out]; exact ho6, grow_one7 HB3.out (Nat.le_refl _) HO3.out hgr6⟩
                have HG6 := hide (box_keep HO3.out HG3.out hgr6)
                clear ho6 hgr6
                go_wp2
                go_roundw
                case rel => exact ⟨j + 1, by omega, by go_num, HN.out.1, HG6, HN.out.2⟩
                case measure => simp [intOf]; omega
              · obtain rfl : j = c := by omega
                have hjc' : ¬ (j : Int) < (j : Int) := by omega
                have HF : Hid (OI wr w.heap.size u4 (lays [] (R.take (k + 1)))) := by show OI _ _ _ _; rw [HSN.out, HLAY.out, ← HV.out]; exact HO3.out
                have hln : (lays [] (R.take (k + 1))).length ≤ 138 * (k + 1) := by rw [HSN.out, lay_len]; have := HDL.out; simp only [Int.toNat_natCast]; omega
                go_wp2
                go_roundw
                case rel => exact ⟨k + 1, by omega, by go_num, hln, HXN, HF, HB3⟩
                case measure => simp [intOf]; omega
      · have HE := hide (x1 ok)
        have HLL : Hid (xpL R = []) := by show _ = _; unfold xpL; rw [HE.out]; rfl
        clear x1 x2 x3 HO ht
        by_cases n1 : s < 0
        · go_wp2
          go_ret2
          rw [HE.out, HLL.out]
          exact ⟨_, rfl, World.ownsRow_nil _ _ _ _, HBX.out⟩
        · by_cases n2 : 18 < s
          · go_wp2
            go_ret2
            rw [HE.out, HLL.out]
            exact ⟨_, rfl, World.ownsRow_nil _ _ _ _, HBX.out⟩
          · obtain ⟨s, rfl⟩ := Int.eq_ofNat_of_zero_le (show 0 ≤ s by omega)
            have hs : s < 19 := by omega
            have HFU := hide (fun W => xfurther_any s W hs)
            have hbad : c < lst s ∨ mst s < c := by
              by_cases q1 : c < lst s
              · exact .inl q1
              · by_cases q2 : mst s < c
                · exact .inr q2
                · exact absurd ⟨by simp only; omega, by simp only; omega, by simp only; omega, by simp only; omega⟩ ok
            clear ok
            go_wp2_with fail
            refine (HFU.out _).mono ?_
            rintro e w2 ⟨rfl, hw2⟩
            subst hw2
            have HCall : Hid (∀ n, Calls Tryz.prog 148 #[.int .i64 s] (w2.drewN n) fun e w'' => e = .returned (.int .i64 (mst s)) ∧ ∃ m, w'' = w2.drewN m) := fun n => (xmost_any s (w2.drewN n) hs).mono fun e w' ⟨he, q, hw⟩ => ⟨he, n + q, by rw [hw, World.drewN_drewN]⟩
            have HBD : Hid (∀ q, Below w.heap.size w (w2.drewN q)) := fun q => below_drewN HBX.out q
            obtain ⟨L, hL⟩ : ∃ L, L = lst s := ⟨_, rfl⟩
            obtain ⟨M, hM⟩ : ∃ M, M = mst s := ⟨_, rfl⟩
            rw [← hL] at hbad ⊢
            rw [← hM] at HCall hbad
            clear hL hM hwx
            by_cases q1 : c < L
            · have g3 : decide (c < L) = true := decide_eq_true q1
              go_wp2
              go_quiet (first | (go_at_call 148; exact HCall.out _))
              go_wp2
              go_ret2
              rw [HE.out, HLL.out]
              exact ⟨_, rfl, World.ownsRow_nil _ _ _ _, HBD.out _⟩
            · have g3 : decide (c < L) = false := decide_eq_false q1
              have q2 : M < c := by omega
              have g4 : decide (M < c) = true := decide_eq_true q2
              go_wp2
              go_quiet (first | (go_at_call 148; exact HCall.out _))
              go_wp2
              go_ret2
              rw [HE.out, HLL.out]
              exact ⟨_, rfl, World.ownsRow_nil _ _ _ _, HBD.out _⟩
    · obtain rfl : k = R.length := by omega
      have hlt' : ¬ (R.length : Int) < (R.length : Int) := by omega
      have HE : Hid (xpE [] R = 0) := by have := HX.out; rwa [List.take_of_length_le (Nat.le_refl _)] at this
      have HF : Hid (OI wr w.heap.size u4 (xpL R)) := by
        have := HO.out
        rw [List.take_of_length_le (Nat.le_refl _)] at this
        show OI _ _ _ _
        unfold xpL
        rw [HE.out]
        exact this
      go_wp2
      go_ret2
      rw [HE.out]
      exact ⟨_, rfl, HF.out, HB.out⟩
end Go.Proofs.YtmjdpfigkojolaaGreatDoor

namespace Go.Proofs.YtmjdpfigkojolaaGreatDoor
open Go.RowKit Go.Maps
set_option maxRecDepth 20000
set_option linter.unusedVariables false

set_option maxHeartbeats 4000000 in
theorem hxsmall {W w : World} {xs : List ((Nat → Nat) × Thing)} (H : Herd W w xs) (i : Nat) {K : Nat → Nat} {g : Nat} {row : List Int} {p : Nat} (hi : xs[i]? = some (K, tq g row p)) (n : Nat) (hn : n ≤ 19) (hpl : p ≤ row.length) (hbt : Bit row) (O : Xodr W) :
    Calls Tryz.prog 123 #[.pointer (some ⟨g, 0, none⟩), .int .i64 n] w fun e w' => (smE row p n ≠ 0 ∧ e = .returned (.tuple #[.slice none 0 0, .int .i64 (smE row p n)]) ∧ ∃ q, Herd W w' (xs.set i (K, tq g row q))) ∨ (smE row p n = 0 ∧ ∃ b Kc, e = .returned (.tuple #[.slice (some ⟨b, 0, none⟩) 19 19, .int .i64 0]) ∧ Herd W w' (xs.set i (K, tq g row (p + 3 * n)) ++ [(Kc, ti (.slice (some ⟨b, 0, none⟩) 19 19) (smC row p n))])) := by
  have HBT := hide hbt
  have HLOW := hide H.low
  have hsz := H.bel.size
  have HI := hide hi
  have HO := hide O
  have HH := hide H
  clear H hi O hbt
  go_enter Tryz.func123, Tryz.ntmps123
  go_wp2_with (at_make; refine wpList_mkI rfl _ _ rfl _ _ _ _ 19 19 rfl rfl rfl rfl (Nat.le_refl _) (by omega) ?_)
  intro w1 hg1 hb1
  have ho1 : OI w1 w.heap.size (.slice (some ⟨w.heap.size, 0, none⟩) 19 19) (smC row p 0) := OI.of_full (l := List.replicate 19 0) (by rw [hg1]; rfl) (Nat.le_refl _) (by unfold maxLen; simp)
  obtain ⟨Kc, hc0⟩ := (HH.out.below hb1).tibs HLOW.out hsz ho1
  have HX0 : Hid (Herd W w1 (xs.set i (K, tq g row (p + 3 * 0)) ++ [(Kc, tib w.heap.size (.slice (some ⟨w.heap.size, 0, none⟩) 19 19) (smC row p 0))])) := by
    have := hc0.same (get_front HI.out)
    rw [setf HI.out] at this
    exact hide this
  clear hg1 hb1 ho1 hc0
  go_wp2
  go_loopw [7] (fun x wr => ∃ (k : Nat) (Kc : Nat → Nat), k ≤ n ∧ x = .int .i64 k ∧ p + 3 * k ≤ row.length ∧ Hid (Herd W wr (xs.set i (K, tq g row (p + 3 * k)) ++ [(Kc, tib w.heap.size (.slice (some ⟨w.heap.size, 0, none⟩) 19 19) (smC row p k))]))) (fun x _ => n - (intOf x).toNat)
  case atStart => exact ⟨0, Kc, Nat.zero_le _, rfl, hpl, HX0⟩
  case round =>
    obtain ⟨k, Kc, hk, rfl, hkl, HX⟩ := hrel
    by_cases hlt : k < n
    · have hlt' : (k : Int) < (n : Int) := by omega
      have HTK := hide (hqtake HX.out i (get_front (getset HI.out)) 3)
      rw [setf (getset HI.out), List.set_set] at HTK
      have hab := ahead_bound HBT.out (p + 3 * k) 3
      go_wp2_with fail
      refine HTK.out.mono ?_
      rintro e w2 ⟨rfl, h2⟩
      have HX2 := hide h2
      by_cases hl : row.length < p + 3 * k + 3
      · have HF : Hid (smE row p n = 70) := by show _ = _; unfold smE; rw [if_pos (by omega)]
        have e30 : takeE row (p + 3 * k) 3 = 30 := by unfold takeE; rw [if_pos ⟨by omega, by omega⟩, if_neg (by omega)]
        rw [e30]
        clear h2 hab
        go_wp2
        go_ret2
        refine .inl ⟨by rw [HF.out]; decide, by rw [HF.out]; rfl, _, HX2.out.front⟩
      · obtain ⟨t1, t2, t3⟩ := take_ok (takeOk_of (row := row) (p := p + 3 * k) (n := 3) (by omega) (by omega))
        have t1' : takeE row (p + 3 * k) 3 = 0 := t1
        have t2' : takeV row (p + 3 * k) 3 = ahead row (p + 3 * k) 3 := t2
        have t3' : takeP row (p + 3 * k) 3 = p + 3 * (k + 1) := t3.trans (by omega)
        rw [t1', t2']
        rw [t3'] at HX2
        have o1 := (HO.out.mono h2.bel).get k (by omega)
        have o2 := zor_at k (by omega)
        have HST : Hid (smC row p (k + 1) = (smC row p k).set (zor.getD k 0).toNat (ahead row (p + 3 * k) 3)) := rfl
        obtain ⟨V, HV⟩ : ∃ V, Hid (V = ahead row (p + 3 * k) 3) := ⟨_, rfl⟩
        rw [← HV.out] at hab HST ⊢
        have hv1 := hab.1
        have hv2 : V < 8 := hab.2
        obtain ⟨z', hz⟩ : ∃ z', z' = zor.getD k 0 := ⟨_, rfl⟩
        rw [← hz] at o1 o2 HST
        obtain ⟨z, rfl⟩ := Int.eq_ofNat_of_zero_le o2.1
        rw [Int.toNat_natCast] at HST
        have hz19 : (z : Int) < 19 := o2.2
        have hk19 : (k : Int) < 19 := by omega
        obtain ⟨⟨u, hu⟩, hfz, hput⟩ := HX2.out.tibput (k := z) (by rw [smC_len19]; omega) V
        rw [← HST.out] at hput
        have HP := hide hput
        clear h2 hab t1 t2 t3 t1' t2' t3' hz o2 hput HTK
        go_wp2
        go_roundw
        case rel => exact ⟨k + 1, Kc, by omega, by go_num, by omega, HP⟩
        case measure => simp [intOf]; omega
    · obtain rfl : k = n := by omega
      have hlt' : ¬ (k : Int) < (k : Int) := by omega
      have hsi := (HX.out.tibo _ (get_last _ _)).sb
      have HCK := hide (xcheck_any _ (smC row p k) _ hsi)
      clear hsi
      go_wp2_with fail
      refine HCK.out.mono ?_
      rintro e w2 ⟨rfl, hw2⟩
      rw [hw2]
      clear hw2
      have HSE : Hid (smE row p k = if chkS (smC row p k) ≠ 4 then 72 else 0) := by show _ = _; unfold smE; rw [if_neg (by omega)]
      obtain ⟨S, HS⟩ : ∃ S, Hid (S = chkS (smC row p k)) := ⟨_, rfl⟩
      rw [← HS.out] at HSE ⊢
      by_cases s4 : S = 4
      · subst s4
        have HF : Hid (smE row p k = 0) := by show _ = _; rw [HSE.out]; rfl
        have HN := hide HX.out.tibi
        go_wp2
        go_ret2
        exact .inr ⟨HF.out, _, _, rfl, HN.out⟩
      · have s4' : (S != 4) = true := by simpa using s4
        have HF : Hid (smE row p k = 72) := by show _ = _; rw [HSE.out, if_pos s4]
        go_wp2
        go_ret2
        exact .inl ⟨by rw [HF.out]; decide, by rw [HF.out]; rfl, _, HX.out.front⟩

def trb (B : Nat) (v : Value) (R : List Rn) : Thing :=
  ⟨fun w K => OR w B v R ∧ (∀ k, v.ownBlock = some k → K k ≠ 0) ∧ ∀ k, K k ≠ 0 → k < w.heap.size,
   fun h a b => ⟨rown_move h.1 fun k hk => b k (h.2.1 k hk), h.2.1, fun k hk => Nat.lt_of_lt_of_le (h.2.2 k hk) a⟩, fun h => h.2.2⟩

theorem Herd.trbs {W w : World} {xs : List ((Nat → Nat) × Thing)} (H : Herd W w xs) {B : Nat} (hN : Low B xs) (hW : W.heap.size ≤ B) {v : Value} {R : List Rn} (ho : OR w B v R) : ∃ K, Herd W w (xs ++ [(K, trb B v R)]) := by
  refine ⟨fun k => if v.ownBlock = some k then 1 else 0, H.bel, fun i d hd => ?_, fun i d hd k hk => ?_, fun i j d e hd he hij k hk => ?_⟩
  · rcases get_snoc hd with hd | ⟨_, rfl⟩
    · exact H.rep i d hd
    · refine ⟨ho, fun k hk => by simp [hk], fun k hk => ?_⟩
      by_cases e : v.ownBlock = some k
      · exact (ho.lt k e).2
      · simp [e] at hk
  · rcases get_snoc hd with hd | ⟨_, rfl⟩
    · exact H.up i d hd k hk
    · by_cases e : v.ownBlock = some k
      · have := (ho.lt k e).1; omega
      · simp [e] at hk
  · rcases get_snoc hd with hd | ⟨e1, rfl⟩
    · rcases get_snoc he with he | ⟨e2, rfl⟩
      · exact H.sep i j d e hd he hij k hk
      · have h1 := hN i d hd k hk
        by_cases q : v.ownBlock = some k
        · have := (ho.lt k q).1; omega
        · simp [q]
    · rcases get_snoc he with he | ⟨e2, rfl⟩
      · by_cases q : v.ownBlock = some k
        · have h2 := (ho.lt k q).1
          by_cases z : e.1 k = 0
          · exact z
          · have := hN j e he k z; omega
        · simp [q] at hk
      · omega

theorem Herd.trbo {W w : World} {xs : List ((Nat → Nat) × Thing)} (H : Herd W w xs) (i : Nat) {B : Nat} {K : Nat → Nat} {v : Value} {R : List Rn} (hi : xs[i]? = some (K, trb B v R)) : OR w B v R := by
  have h : (trb B v R).P w K := H.rep i _ hi
  exact h.1
end Go.Proofs.YtmjdpfigkojolaaGreatDoor

namespace Go.Proofs.YtmjdpfigkojolaaGreatDoor
open Go.RowKit Go.Maps
set_option maxRecDepth 20000
set_option linter.unusedVariables false

def tsz (B : Nat) : Thing := ⟨fun w K => B ≤ w.heap.size ∧ ∀ k, K k = 0, fun h a b => ⟨Nat.le_trans h.1 a, h.2⟩, fun h k hk => absurd (h.2 k) hk⟩

theorem Herd.ghost {W w : World} {xs : List ((Nat → Nat) × Thing)} (H : Herd W w xs) : Herd W w (xs ++ [(fun _ => 0, tsz w.heap.size)]) :=
  H.push (Below.refl _ _) ⟨Nat.le_refl _, fun _ => rfl⟩ fun k hk => absurd rfl hk

theorem Herd.gsz {W w : World} {xs : List ((Nat → Nat) × Thing)} (H : Herd W w xs) (i : Nat) {K : Nat → Nat} {B : Nat} (hi : xs[i]? = some (K, tsz B)) : B ≤ w.heap.size := by
  have h : (tsz B).P w K := H.rep i _ hi
  exact h.1

theorem okr_of {s : Nat} {v : Int} (hs : s < 19) (h0 : 0 ≤ v) (h1 : v < 2 ^ frt s) : Okr ((s : Int), lst s + v) := by
  refine ⟨by simp only; omega, by simp only; omega, by simp only; omega, ?_⟩
  simp only
  by_cases q : s < 16
  · have e1 : lst s = 1 := by unfold lst; rw [if_pos (by omega)]
    have e2 : frt s = 0 := by unfold frt; rw [if_pos (by omega)]
    have e3 : mst s = 1 := by unfold mst; rw [if_pos (by omega)]
    rw [e2] at h1
    have : v < 1 := h1
    omega
  · obtain q | q | q : s = 16 ∨ s = 17 ∨ s = 18 := by omega
    · subst q
      have h1' : v < 4 := h1
      show 3 + v ≤ 6
      omega
    · subst q
      have h1' : v < 8 := h1
      show 3 + v ≤ 10
      omega
    · subst q
      have h1' : v < 128 := h1
      show 11 + v ≤ 138
      omega

set_option maxHeartbeats 8000000 in
theorem hxlists {W w : World} {xs : List ((Nat → Nat) × Thing)} (H : Herd W w xs) (i : Nat) {K : Nat → Nat} {g : Nat} {row : List Int} {p : Nat} (hi : xs[i]? = some (K, tq g row p)) (vC : Value) (C : List Int) (hC : SI w vC C) (h19 : C.length = 19) (hdc : dcE C = 0) (hbt : Bit row) (want : Nat) (hw : want ≤ 316) :
    Calls Tryz.prog 124 #[.pointer (some ⟨g, 0, none⟩), vC, .int .i64 want] w fun e w' => ((rl C row want want [] p).1 ≠ 0 ∧ e = .returned (.tuple #[.slice none 0 0, .int .i64 (rl C row want want [] p).1]) ∧ ∃ q, Herd W w' (xs.set i (K, tq g row q))) ∨ ((rl C row want want [] p).1 = 0 ∧ ∃ a c Kl, e = .returned (.tuple #[.slice a (rl C row want want [] p).2.1.length c, .int .i64 0]) ∧ Herd W w' (xs.set i (K, tq g row (rl C row want want [] p).2.2) ++ [(Kl, ti (.slice a (rl C row want want [] p).2.1.length c) (rl C row want want [] p).2.1)])) := by
  have HBT := hide hbt
  have hsz := H.bel.size
  have HI := hide hi
  have H19 := hide h19
  have HLN := hide (dcE_zero hdc).1
  have HDC := hide hdc
  have HIL := hide (List.getElem?_eq_some_iff.1 hi).1
  have HND := hide (hxdecode H vC C hC)
  obtain ⟨aC, cC, rfl, -, -⟩ := hC.open
  obtain ⟨E0, HE0⟩ : ∃ E0, Hid (E0 = rl C row want want [] p) := ⟨_, rfl⟩
  rw [← HE0.out]
  clear hi hC h19 hdc hbt
  have HWW := hide H.bel
  clear H
  go_enter Tryz.func124, Tryz.ntmps124
  go_wp2_with fail
  refine HND.out.mono ?_
  rintro e w1 (⟨hne, _⟩ | ⟨_, gd, Kd, rfl, h1⟩)
  · exact absurd HDC.out hne
  obtain ⟨zs, HZ⟩ : ∃ zs : List ((Nat → Nat) × Thing), Hid (zs = xs ++ [(Kd, tdx gd C)] ++ [((fun _ => 0 : Nat → Nat), tsz w1.heap.size)]) := ⟨_, hide rfl⟩
  have hgh := h1.ghost
  rw [← HZ.out] at hgh
  have HLOW := hide hgh.low
  have hB := hgh.bel.size
  have hzi : zs[i]? = some (K, tq g row p) := by rw [HZ.out]; exact get_front (get_front HI.out)
  have hzd : zs[xs.length]? = some (Kd, tdx gd C) := by rw [HZ.out]; exact get_front (get_last _ _)
  have hzs : zs[xs.length + 1]? = some (fun _ => 0, tsz w1.heap.size) := by rw [HZ.out]; simp
  have hne1 : i ≠ xs.length := by have := HIL.out; omega
  have hne2 : i ≠ xs.length + 1 := by have := HIL.out; omega
  have HZI := hide hzi
  have HZD : Hid (∀ q, (zs.set i (K, tq g row q))[xs.length]? = some (Kd, tdx gd C)) := fun q => by rw [List.getElem?_set_ne hne1]; exact hzd
  have HZS : Hid (∀ q, (zs.set i (K, tq g row q))[xs.length + 1]? = some (fun _ => 0, tsz w1.heap.size)) := fun q => by rw [List.getElem?_set_ne hne2]; exact hzs
  have HOUT : Hid (∀ (w' : World) (q : Nat), Herd W w' (zs.set i (K, tq g row q)) → Herd W w' (xs.set i (K, tq g row q))) := fun w' q h => by
    rw [HZ.out, setf (get_front HI.out), setf HI.out] at h
    exact h.front.front
  have HOUT2 : Hid (∀ (w' : World) (q : Nat) (z : (Nat → Nat) × Thing), Herd W w' (zs.set i (K, tq g row q) ++ [z]) → Herd W w' (xs.set i (K, tq g row q) ++ [z])) := fun w' q z h => by
    rw [HZ.out, setf (get_front HI.out), setf HI.out] at h
    exact h.mid.mid
  obtain ⟨KR, h2⟩ := (hgh.same hzi).trbs (HLOW.out.set hzi) hB (OR.nil w1 w1.heap.size)
  have HX0 := hide h2.nilI
  clear h1 hgh hzi hzd hzs hne1 hne2 h2
  go_wp2
  go_loopw [10, 11] (fun x y wr => ∃ (R : List Rn) (q f : Nat) (KR KO : Nat → Nat) (aR : Option Addr) (cR : Nat) (aO : Option Addr) (cO : Nat), x = .slice aR R.length cR ∧ y = .slice aO (lays [] R).length cO ∧ (lays [] R).length ≤ want ∧ want - (lays [] R).length ≤ f ∧ R.length ≤ (lays [] R).length ∧ Hid (xpE [] R = 0) ∧ Hid (rl C row want f (lays [] R) q = E0) ∧ Hid (Herd W wr (zs.set i (K, tq g row q) ++ [(KR, trb w1.heap.size (.slice aR R.length cR) R)] ++ [(KO, ti (.slice aO (lays [] R).length cO) (lays [] R))]))) (fun _ y _ => want - lenV y)
  case atStart => exact ⟨[], p, want, KR, fun _ => 0, none, 0, none, 0, rfl, rfl, Nat.zero_le _, by simp, Nat.le_refl _, rfl, HE0.out.symm, HX0⟩
  case round =>
    obtain ⟨R, q, f, KR, KO, aR, cR, aO, cO, rfl, rfl, hal, hf, hRl, HXP, HRL, HX⟩ := hrel
    obtain ⟨acc, HAC⟩ : ∃ acc, Hid (acc = lays [] R) := ⟨_, rfl⟩
    rw [← HAC.out] at hal hf hRl HRL HX ⊢
    by_cases hlt : acc.length < want
    · have hlt' : (acc.length : Int) < (want : Int) := by omega
      obtain ⟨f, rfl⟩ : ∃ f', f = f' + 1 := ⟨f - 1, by omega⟩
      have HNX := hide (hxnext HX.out xs.length i (get_front (get_front (HZD.out q))) (get_front (get_front (getset HZI.out))))
      rw [setf (get_front (getset HZI.out)), setf (getset HZI.out), List.set_set] at HNX
      have HST : Hid (E0 = if trE C row q ≠ 0 then (70, [], q) else if nxS C row q = 16 ∧ acc = [] then (73, [], q) else if (want : Int) < acc.length + trC C row q then (74, [], q) else rl C row want f (lay acc ((nxS C row q : Nat), trC C row q)) (trP C row q)) := by
        show _ = _
        rw [← HRL.out, rl, if_pos hlt]
      have HTR : Hid (trE C row q = if nxE C row q ≠ 0 then 70 else if row.length < nxP C row q + frt (nxS C row q : Nat) then 70 else 0) := rfl
      have HTC : Hid (trC C row q = lst (nxS C row q : Nat) + ahead row (nxP C row q) (frt (nxS C row q : Nat))) := rfl
      have HTP : Hid (trP C row q = nxP C row q + frt (nxS C row q : Nat)) := rfl
      have HSL : Hid (nxE C row q = 0 → nxS C row q < 19) := fun h => by have := nxS_lt HLN.out h; rwa [H19.out] at this
      clear HRL
      go_wp2_with fail
      refine HNX.out.mono ?_
      rintro e w2 ⟨rfl, h2⟩
      have HX2 := hide h2
      clear h2 HNX
      obtain ⟨E, HE⟩ : ∃ E, Hid (E = nxE C row q) := ⟨_, rfl⟩
      obtain ⟨s, HS⟩ : ∃ s, Hid (s = nxS C row q) := ⟨_, rfl⟩
      obtain ⟨p1, HP⟩ : ∃ p1, Hid (p1 = nxP C row q) := ⟨_, rfl⟩
      rw [← HE.out, ← HS.out, ← HP.out] at HTR
      rw [← HS.out, ← HP.out] at HTC HTP
      rw [← HE.out, ← HS.out] at HSL
      rw [← HS.out] at HST
      rw [← HP.out] at HX2
      rw [← HE.out, ← HS.out]
      by_cases e0 : E = 0
      case neg =>
        have e0' : (E != 0) = true := by simpa using e0
        have HF : Hid (E0 = (70, [], q)) := by show _ = _; rw [HST.out, HTR.out, if_pos e0, if_pos (by decide)]
        have HN := hide (HOUT.out _ _ HX2.out.front.front)
        go_wp2
        go_ret2
        rw [HF.out]
        exact .inl ⟨by show (70 : Int) ≠ 0; decide, rfl, _, HN.out⟩
      subst e0
      have hs := HSL.out rfl
      have hF := frt_le (s : Nat)
      have hA := lst_pos (s : Nat)
      have HFU := hide (xfurther_any s w2 hs)
      obtain ⟨A, HA⟩ : ∃ A, Hid (A = lst s) := ⟨_, rfl⟩
      obtain ⟨F, HFF⟩ : ∃ F, Hid (F = frt s) := ⟨_, rfl⟩
      rw [← HA.out, ← HFF.out] at HFU
      rw [← HA.out] at hA HTC
      rw [← HFF.out] at hF HTC HTR HTP
      have HTK := hide (hqtake HX2.out i (get_front (get_front (getset HZI.out))) (F : Nat))
      rw [setf (get_front (getset HZI.out)), setf (getset HZI.out), List.set_set] at HTK
      have hab := ahead_bound HBT.out p1 F
      have hpw : (2 : Int) ^ F ≤ 128 := by
        have := pow_le hF
        have e : (2 : Int) ^ 7 = 128 := by decide
        omega
      clear HSL
      go_wp2_with fail
      refine HFU.out.mono ?_
      rintro e w9 ⟨rfl, hw9⟩
      rw [hw9]
      clear hw9
      go_wp2_with fail
      refine HTK.out.mono ?_
      rintro e w3 ⟨rfl, h3⟩
      have HX3 := hide h3
      clear h3 HTK HFU
      by_cases hl : row.length < p1 + F
      · have ht7 : trE C row q = 70 := by rw [HTR.out, if_neg (by simp), if_pos hl]
        have HF : Hid (E0 = (70, [], q)) := by show _ = _; rw [HST.out, if_pos (by rw [ht7]; decide)]
        clear ht7
        have e30 : takeE row p1 (F : Nat) = 30 := by unfold takeE; rw [if_pos ⟨by omega, by omega⟩, if_neg (by omega)]
        rw [e30]
        have HN := hide (HOUT.out _ _ HX3.out.front.front)
        go_wp2
        go_ret2
        rw [HF.out]
        exact .inl ⟨by show (70 : Int) ≠ 0; decide, rfl, _, HN.out⟩
      have HTZ : Hid (trE C row q = 0) := by show _ = _; rw [HTR.out, if_neg (by simp), if_neg hl]
      obtain ⟨t1, t2, t3⟩ := take_ok (takeOk_of (row := row) (p := p1) (n := F) (by omega) (by omega))
      rw [t1, t2]
      rw [t3, ← HTP.out] at HX3
      have HOKR : Hid (Okr ((s : Int), trC C row q)) := by rw [HTC.out, HA.out]; exact hide (okr_of hs hab.1 (by rw [← HFF.out]; exact hab.2))
      obtain ⟨V, HV⟩ : ∃ V, Hid (V = ahead row p1 F) := ⟨_, rfl⟩
      rw [← HV.out] at hab HTC ⊢
      have hv1 := hab.1
      have hv2 : V < 128 := by omega
      clear hab t1 t2 t3 hpw
      obtain ⟨cn, hcn⟩ : ∃ cn : Nat, A + V = (cn : Int) := ⟨(A + V).toNat, by omega⟩
      rw [hcn] at HTC
      have hcb : (cn : Int) ≤ 139 := by omega
      rw [HTC.out] at HST HOKR
      have hB3 : w1.heap.size ≤ w3.heap.size := HX3.out.gsz (xs.length + 1) (get_front (get_front (HZS.out _)))
      have HOR : Hid (OR w3 w1.heap.size (.slice aR R.length cR) R) := HX3.out.front.trbo _ (get_last _ _)
      have HFRO := hide HX3.out.front.front
      go_wp2_with (at_builtin; refine wpRun rfl _ _ rfl w1.heap.size (.slice aR R.length cR) R (s : Int) (cn : Int) rfl HOR.out _ rfl (by omega) hB3 ?_)
      intro v4 w4 ho4 hg4
      have hb4 : Below w1.heap.size w3 w4 := grow_run (Below.refl _ _) hB3 HOR.out hg4
      obtain ⟨S, HSS⟩ : ∃ S, Hid (S = R ++ [((s : Int), (cn : Int))]) := ⟨_, rfl⟩
      rw [← HSS.out] at ho4
      have hSl : S.length = R.length + 1 := by rw [HSS.out, List.length_append]; rfl
      have HSL2 := hide hSl
      have hSb : S.length ≤ 1048576 := by omega
      obtain ⟨aS, cS, rfl, -, -⟩ := ho4.shape
      obtain ⟨K4, h4⟩ := (HFRO.out.keep (HLOW.out.set HZI.out) hB hb4).trbs (HLOW.out.set HZI.out) hB ho4
      have HX4 := hide h4
      have HEX := hide (xexpand_any _ S w4 ho4.sr hSb)
      have hxe : xpE [] S = if (s : Int) = 16 ∧ acc = [] then 73 else 0 := by rw [HSS.out, xpE_snoc R [] _ HXP.out, if_pos HOKR.out, ← HAC.out]
      have hlay : lays [] S = lay acc ((s : Int), (cn : Int)) := by rw [HSS.out, lays_snoc, ← HAC.out]
      have HLY := hide hlay
      have hll : (lay acc ((s : Int), (cn : Int))).length = acc.length + cn := by rw [lay_len]; rfl
      have HLL := hide hll
      have h1c : 1 ≤ cn := by have := HTC.out; have := HOKR.out.2.2.1; simp only at this; have := lst_pos (s : Nat); omega
      clear ho4 hg4 hb4 hSl h4 hlay hll HOR HFRO HX3 HX2 HX
      by_cases c16 : s = 16 ∧ acc = []
      · have HXE : Hid (xpE [] S = 73) := by show _ = _; rw [hxe, if_pos ⟨by omega, c16.2⟩]
        have HF : Hid (E0 = (73, [], q)) := by show _ = _; rw [HST.out, if_neg (by simp [HTZ.out]), if_pos c16]
        rw [HXE.out] at HEX
        clear hxe c16
        go_wp2_with fail
        refine HEX.out.mono ?_
        rintro e w5 ⟨u, rfl, ho5, hb5⟩
        obtain ⟨aO', cO', rfl⟩ := ho5.shape
        have HN := hide (HOUT.out _ _ (HX4.out.below hb5).front)
        clear ho5 hb5
        go_wp2
        go_ret2
        rw [HF.out]
        exact .inl ⟨by show (73 : Int) ≠ 0; decide, rfl, _, HN.out⟩
      · have HXE : Hid (xpE [] S = 0) := by show _ = _; rw [hxe, if_neg (fun h => c16 ⟨by omega, h.2⟩)]
        have HXL : Hid (xpL S = lay acc ((s : Int), (cn : Int))) := by show _ = _; unfold xpL; rw [if_pos HXE.out, HLY.out]
        rw [HXE.out, HXL.out] at HEX
        have HST2 : Hid (E0 = if (want : Int) < acc.length + (cn : Int) then (74, [], q) else rl C row want f (lay acc ((s : Nat), (cn : Int))) (trP C row q)) := by show _ = _; rw [HST.out, if_neg (by simp [HTZ.out]), if_neg c16]
        clear hxe c16
        go_wp2_with fail
        refine HEX.out.mono ?_
        rintro e w5 ⟨u, rfl, ho5, hb5⟩
        obtain ⟨aO', cO', hu⟩ := ho5.shape
        rw [HLL.out] at hu
        subst hu
        obtain ⟨K5, h5⟩ := HX4.out.ilist hb5 ho5
        have HX5 := hide h5
        clear ho5 hb5 h5
        by_cases hov : (want : Int) < (acc.length : Int) + (cn : Int)
        · have HF : Hid (E0 = (74, [], q)) := by show _ = _; rw [HST2.out, if_pos hov]
          have HN := hide (HOUT.out _ _ HX5.out.front.front)
          go_wp2
          go_ret2
          rw [HF.out]
          exact .inl ⟨by show (74 : Int) ≠ 0; decide, rfl, _, HN.out⟩
        · have HF : Hid (E0 = rl C row want f (lay acc ((s : Nat), (cn : Int))) (trP C row q)) := by show _ = _; rw [HST2.out, if_neg hov]
          have HFIN : Hid (∃ (R : List Rn) (q f : Nat) (KR KO : Nat → Nat) (aR : Option Addr) (cR : Nat) (aO : Option Addr) (cO : Nat), Value.slice aS S.length cS = .slice aR R.length cR ∧ Value.slice aO' (acc.length + cn) cO' = .slice aO (lays [] R).length cO ∧ (lays [] R).length ≤ want ∧ want - (lays [] R).length ≤ f ∧ R.length ≤ (lays [] R).length ∧ Hid (xpE [] R = 0) ∧ Hid (rl C row want f (lays [] R) q = E0) ∧ Hid (Herd W w5 (zs.set i (K, tq g row q) ++ [(KR, trb w1.heap.size (.slice aR R.length cR) R)] ++ [(KO, ti (.slice aO (lays [] R).length cO) (lays [] R))]))) := by
            refine ⟨S, trP C row q, f, K4, K5, aS, cS, aO', cO', rfl, ?_, ?_, ?_, ?_, HXE, ?_, ?_⟩
            · rw [HLY.out, HLL.out]
            · rw [HLY.out, HLL.out]; omega
            · rw [HLY.out, HLL.out]; omega
            · rw [HLY.out, HLL.out, HSL2.out]; omega
            · rw [HLY.out]; exact HF.out.symm
            · rw [HLY.out, HLL.out]; exact HX5
          go_wp2
          go_roundw
          case rel => exact HFIN.out
          case measure => simp only [lenV]; omega
    · have hlt' : ¬ (acc.length : Int) < (want : Int) := by omega
      have HF : Hid (E0 = (0, acc, q)) := by
        show _ = _
        rw [← HRL.out]
        cases f with
        | zero => rfl
        | succ f => rw [rl, if_neg hlt]
      have HN := hide (HOUT2.out _ _ _ HX.out.mid)
      go_wp2
      go_ret2
      rw [HF.out]
      exact .inr ⟨rfl, aO, cO, rfl, KO, HN.out⟩
end Go.Proofs.YtmjdpfigkojolaaGreatDoor

