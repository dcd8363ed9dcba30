import Derived.Test.YtcgeaidegppiaaaDoorGIfg
namespace Go.Proofs.YtcgeaidegppiaaaDoor
open Go.RowKit Go.Maps
set_option maxRecDepth 20000
set_option linter.unusedVariables false

theorem TX.push {W w : World} {g r : Nat} {row : List Int} {p L : Nat} {out : List Int} {dn : Bool} {ys : List ((Nat → Nat) × Thing)} (H : TX W w g r row p L out dn ys) (o : Obj) : ∃ K, TX W (w.alloc o) g r row p L out dn (ys ++ [(K, tb w.heap.size o)]) := by
  obtain ⟨Kt, Kr, Ko, a, c, fl, fd, HH, hfx, hk⟩ := H
  obtain ⟨K, h⟩ := HH.box1 o
  exact ⟨K, Kt, Kr, Ko, a, c, fl, fd, h, hfx.app, hk⟩

theorem TX.box {W w : World} {g r : Nat} {row : List Int} {p L : Nat} {out : List Int} {dn : Bool} {ys zs : List ((Nat → Nat) × Thing)} {K : Nat → Nat} {b : Nat} {o : Obj} (H : TX W w g r row p L out dn (ys ++ (K, tb b o) :: zs)) : w.heap[b]? = some o := by
  obtain ⟨Kt, Kr, Ko, a, c, fl, fd, HH, hfx, hk⟩ := H
  exact HH.tbat _ (at_3 _ _ _ _ _ _)

theorem TX.at {W w : World} {g r : Nat} {row : List Int} {p L : Nat} {out : List Int} {dn : Bool} {ys : List ((Nat → Nat) × Thing)} (H : TX W w g r row p L out dn ys) : w.cell? ⟨r, 1, none⟩ = some (.int .i64 p) := by
  obtain ⟨Kt, Kr, Ko, a, c, fl, fd, HH, hfx, hk⟩ := H
  have hR : Rp w Kr r row p := HH.rep 1 _ rfl
  obtain ⟨v, d, h1, _⟩ := hR
  exact h1.cell 1

theorem TX.lit {W w w1 w6 : World} {g r : Nat} {row : List Int} {p L : Nat} {out : List Int} {dn : Bool} {ys : List ((Nat → Nat) × Thing)} (H : TX W w g r row p L out dn ys) : ∃ a c, w.cell? ⟨g, 1, none⟩ = some (.slice a out.length c) ∧ OB w 0 (.slice a out.length c) out ∧ out.length ≤ L ∧ L ≤ 16777216 ∧
    ∀ (w1 w6 : World) (v' : Value) (out' : List Int), Below w.heap.size w w1 → OB w6 0 v' out' → Grew w1 w6 (.slice a out.length c) v' → w6.cell? ⟨g, 1, none⟩ = some (.slice a out.length c) ∧ (∀ k, w6.frozen? ⟨g, k, none⟩ = false) ∧ (out'.length ≤ L → TX W (w6.setCell ⟨g, 1, none⟩ v') g r row p L out' dn ys) := by
  obtain ⟨Kt, Kr, Ko, a, c, fl, fd, HH, hfx, hoL, hL⟩ := H
  have h0 : (tb g (txO r a out.length c L dn fl fd)).P w Kt := HH.rep 0 _ rfl
  have h2 : (tl (.slice a out.length c) out).P w Ko := HH.rep 2 _ rfl
  refine ⟨a, c, (txO_cells h0.1).2.1, h2.1, hoL, hL, fun w1 w6 v' out' hb ho hg => ?_⟩
  have hgs := h0.2.2 g h0.2.1
  have e1 : w6.heap[g]? = w1.heap[g]? := hg.by.block g (Nat.lt_of_lt_of_le hgs hb.size) (fun e => by
    have := HH.sep 0 2 _ _ rfl rfl (by decide) g h0.2.1
    exact h2.2.1 g e.symm this)
  have e2 : w6.heap[g]? = some (txO r a out.length c L dn fl fd) := e1.trans ((hb.block g hgs).trans h0.1)
  exact ⟨(txO_cells e2).2.1, txO_free e2, fun hL' => tx_app HH hb hfx hL' hL ho hg⟩

theorem sy1_bad {l d row : List Int} {L p : Nat} {out : List Int} (h : syE l row p ≠ 0) : sy1 l d row L p out = (syE l row p, false, p, out) := by unfold sy1; rw [if_pos h]
theorem sy1_lit {l d row : List Int} {L p : Nat} {out : List Int} (h : syE l row p = 0) (hs : nxS l row p < 256) : sy1 l d row L p out = if L < out.length + 1 then (85, false, p, out) else (0, false, nxP l row p, out ++ [(nxS l row p : Int)]) := by
  unfold sy1; rw [if_neg (by simp [h]), if_pos hs]
theorem sy1_end {l d row : List Int} {L p : Nat} {out : List Int} (h : syE l row p = 0) (hs : nxS l row p = 256) : sy1 l d row L p out = (0, true, nxP l row p, out) := by
  unfold sy1; rw [if_neg (by simp [h]), if_neg (by omega), if_pos hs]
theorem sy1_copy {l d row : List Int} {L p : Nat} {out : List Int} (h : syE l row p = 0) (hs : 256 < nxS l row p) : sy1 l d row L p out =
  if lgE (nxS l row p) row (nxP l row p) ≠ 0 then (lgE (nxS l row p) row (nxP l row p), false, p, out)
  else if dtE d row (lgP (nxS l row p) (nxP l row p)) ≠ 0 then (dtE d row (lgP (nxS l row p) (nxP l row p)), false, p, out)
  else if agE L out (lgV (nxS l row p) row (nxP l row p)) (dtV d row (lgP (nxS l row p) (nxP l row p))) ≠ 0 then (agE L out (lgV (nxS l row p) row (nxP l row p)) (dtV d row (lgP (nxS l row p) (nxP l row p))), false, p, out)
  else (0, false, dtP d row (lgP (nxS l row p) (nxP l row p)), cpy (dtV d row (lgP (nxS l row p) (nxP l row p))) (lgV (nxS l row p) row (nxP l row p)) out) := by
  unfold sy1; rw [if_neg (by simp [h]), if_neg (by omega), if_neg (by omega)]

theorem lgV_le {row : List Int} (hb : Bit row) {s q : Nat} (hs : lgE s row q = 0) : lgV s row q ≤ 1000 := by
  have h285 : s ≤ 285 := by
    unfold lgE at hs
    by_cases c : 285 < s
    · rw [if_pos c] at hs; omega
    · omega
  have h1 := lnBle ⟨s, by omega⟩
  have h2 := ahead_le hb q (m := 5) (lnFle h285)
  have h3 := (ahead_bound hb q (lnF s)).1
  unfold lgV
  simp only at h1
  omega

theorem dtV_le {d row : List Int} (hb : Bit row) {q : Nat} (hs : dtE d row q = 0) : dtV d row q ≤ 40000 ∧ 0 < dtV d row q ∧ q < dtP d row q ∧ dtP d row q ≤ row.length := by
  unfold dtE at hs
  by_cases c0 : dcE d ≠ 0
  · rw [if_pos c0] at hs; omega
  rw [if_neg c0] at hs
  by_cases c1 : syE d row q ≠ 0
  · rw [if_pos c1] at hs; omega
  rw [if_neg c1] at hs
  by_cases c2 : 29 < nxS d row q
  · rw [if_pos c2] at hs; omega
  rw [if_neg c2] at hs
  by_cases c3 : row.length < nxP d row q + dsF (nxS d row q)
  · rw [if_pos c3] at hs; omega
  have hn := nx_lt (by omega : dcE d = 0) (sy_nx (by omega : syE d row q = 0))
  have h1 := dsBle ⟨nxS d row q, by omega⟩
  have h2 := ahead_le hb (nxP d row q) (m := 13) (dsFle (by omega : nxS d row q ≤ 29))
  have h3 := (ahead_bound hb (nxP d row q) (dsF (nxS d row q))).1
  unfold dtV dtP
  simp only at h1
  omega

set_option maxHeartbeats 4000000 in
/-- The symbols of a block. -/
theorem hsyms {W w : World} {g r : Nat} {row : List Int} {p L : Nat} {out : List Int} {dn : Bool} {ys : List ((Nat → Nat) × Thing)} (H : TX W w g r row p L out dn ys) {p1 p2 : Option Addr} {l d : List Int} (hc1 : Cd ys p1 l) (hc2 : Cd ys p2 d) (hl0 : dcE l = 0) (hl : l.length ≤ 288) (hd : d.length ≤ 32) :
    Calls Tryd.prog 22 #[.pointer (some ⟨g, 0, none⟩), .agg #[.pointer p1, .pointer p2]] w fun e w' => ∃ E q o, Sys l d row L p out E q o ∧ ((E = 0 ∧ e = .returned (.tuple #[]) ∧ ∃ zs, TX W w' g r row q L o dn (ys ++ zs)) ∨ (E ≠ 0 ∧ Off W E e w')) := by
  have HBT := hide H.rd.1
  obtain ⟨gl, il, Kl, rfl, hyl⟩ : ∃ (gl i : Nat) (K : Nat → Nat), p1 = some ⟨gl, 0, none⟩ ∧ ys[i]? = some (K, td gl l) := Cd.some hc1 hl0
  obtain ⟨KB, HB⟩ := H.push (cdO1 (some ⟨gl, 0, none⟩) p2)
  have HYL : Hid ((ys ++ [(KB, tb w.heap.size (cdO1 (some ⟨gl, 0, none⟩) p2))])[il]? = some (Kl, td gl l)) := get_app hyl
  have HC2 : Hid (Cd (ys ++ [(KB, tb w.heap.size (cdO1 (some ⟨gl, 0, none⟩) p2))]) p2 d) := hc2.app
  have HD0 := hide hl0
  obtain ⟨w0, HW0⟩ : ∃ w0, Hid (w.alloc (cdO1 (some ⟨gl, 0, none⟩) p2) = w0) := ⟨_, rfl⟩
  obtain ⟨B, HBB⟩ : ∃ B, Hid (w.heap.size = B) := ⟨_, rfl⟩
  rw [HW0.out, HBB.out] at HB
  rw [HBB.out] at HYL HC2
  have HTX := hide HB
  obtain ⟨ys', HYS⟩ : ∃ ys', Hid (ys ++ [(KB, tb B (cdO1 (some ⟨gl, 0, none⟩) p2))] = ys') := ⟨_, rfl⟩
  have HEND : Hid (∀ w' q o, TX W w' g r row q L o dn ys' → ∃ zs, TX W w' g r row q L o dn (ys ++ zs)) := fun w' q o h => ⟨_, by rw [HYS.out]; exact h⟩
  have HBOX : Hid (∀ w' q o, TX W w' g r row q L o dn ys' → w'.heap[B]? = some (cdO1 (some ⟨gl, 0, none⟩) p2)) := fun w' q o h => by rw [← HYS.out] at h; exact h.box
  rw [HYS.out] at HYL HC2 HTX
  clear H HB hc1 hc2 hyl hl0 HYS
  go_enter Tryd.func22, Tryd.ntmps22
  go_wp2
  rw [HW0.out, HBB.out]
  clear HW0 HBB
  go_loopw [4, 5] (fun v4 v5 wr => ∃ (p' : Nat) (o' : List Int), Hid (TX W wr g r row p' L o' dn ys') ∧ Hid (∀ E q o, Sys l d row L p' o' E q o → Sys l d row L p out E q o)) (fun _ _ wr => row.length - (intOf ((wr.cell? ⟨r, 1, none⟩).getD undef)).toNat)
  case atStart => exact ⟨p, out, HTX, fun _ _ _ h => h⟩
  case round =>
    obtain ⟨p', o', HX, HSY⟩ := hrel
    clear HTX
    have hms : (intOf ((wr.cell? ⟨r, 1, none⟩).getD undef)).toNat = p' := by rw [HX.out.at]; simp [intOf]
    have HMS := hide hms
    obtain ⟨k0, k1, k2⟩ := cd_cells (HBOX.out _ _ _ HX.out)
    have HS := hide (hsym HX.out il HYL.out)
    clear hms
    go_wp2_with fail
    refine HS.out.mono ?_
    rintro e w1 (⟨hs, rfl, h1⟩ | ⟨hs, rfl, h1⟩)
    case inr =>
      have HX1 := hide h1
      clear h1 k0 k1 k2
      obtain ⟨E, HE⟩ : ∃ E, Hid (E = syE l row p') := ⟨_, rfl⟩
      rw [← HE.out] at hs ⊢
      go_wp2
      have hs' : syE l row p' ≠ 0 := by rw [← HE.out]; exact hs
      have hS : Sys l d row L p' o' E p' o' := by rw [HE.out]; exact Sys.bad (sy1_bad hs') hs'
      exact ⟨rfl, E, p', o', HSY.out _ _ _ hS, .inr ⟨hs, rfl, HX1.out⟩⟩
    obtain ⟨n1, n2, n3⟩ := nx_lt HD0.out (sy_nx hs)
    have HSZ := hide hs
    obtain ⟨S, HSS⟩ : ∃ S : Nat, Hid (S = nxS l row p') := ⟨_, rfl⟩
    obtain ⟨P, HPP⟩ : ∃ P : Nat, Hid (P = nxP l row p') := ⟨_, rfl⟩
    rw [← HSS.out] at n1 ⊢
    rw [← HPP.out] at n2 n3 h1
    have HN2 := hide n2
    have HN3 := hide n3
    have HX1 := hide h1
    have hS : S < 288 := by omega
    obtain ⟨m0, m1, m2⟩ := cd_cells (HBOX.out _ _ _ h1)
    clear h1 hs n1 n2 n3 k0 k1 k2 HS
    rcases Nat.lt_trichotomy S 256 with c | c | c
    · have hc : (S : Int) < 256 := by omega
      have HL1 : Hid (sy1 l d row L p' o' = if L < o'.length + 1 then (85, false, p', o') else (0, false, P, o' ++ [(S : Int)])) := by
        show _ = _
        rw [sy1_lit HSZ.out (by rw [← HSS.out]; exact c), ← HSS.out, ← HPP.out]
      have HRM := hide (hroom HX1.out 1 (by omega))
      go_wp2_with fail
      refine HRM.out.mono ?_
      rintro e w2 (⟨hrm, rfl, qd, rfl⟩ | ⟨hrm, rfl, h2⟩)
      case inr =>
        have HX2 := hide h2
        clear h2 m0 m1 m2
        go_wp2
        have hS2 : Sys l d row L p' o' 85 p' o' := Sys.bad (by rw [HL1.out, if_pos hrm]) (by decide)
        exact ⟨rfl, 85, p', o', HSY.out _ _ _ hS2, .inr ⟨by decide, rfl, HX2.out⟩⟩
      have hx2 := HX1.out.below (below_drewN (Below.refl _ _) qd)
      obtain ⟨w2, hw2⟩ : ∃ w2, w1.drewN qd = w2 := ⟨_, rfl⟩
      rw [hw2] at hx2 ⊢
      obtain ⟨a, cc, t1, hob, hoL, hL, hgo⟩ := TX.lit (w1 := w) (w6 := w) hx2
      have HGO := hide hgo
      have hu8 : IntKind.u8.wrap (S : Int) = (S : Int) := by rw [IntKind.wrap_u8]; omega
      have HOB : Hid (OB (w2.alloc (.cells #[.int .u8 (S : Int)] 5)) 0 (.slice a o'.length cc) o') := hob.alloc _
      have HSR : Hid (Src Tryd.prog 1 22 (.slice (some ⟨w2.heap.size, 0, none⟩) 1 1) ([(S : Int)] : List Int).length (([(S : Int)] : List Int).map (Value.int .u8)) (w2.alloc (.cells #[.int .u8 (S : Int)] 5))) := built_src w2 [(S : Int)]
      have HLB : Hid (o'.length + ([(S : Int)] : List Int).length ≤ 140737488355328) := by show _ ≤ _; simp; omega
      have HHL := hide hrm
      clear hgo hob hx2 hw2 HRM m0 m1 m2 hoL hL hrm
      obtain ⟨N, HN⟩ : ∃ N, Hid (N = o'.length) := ⟨_, rfl⟩
      go_wp2_with (at_builtin; refine wpList_app rfl _ _ 22 rfl 0 _ _ o' [(S : Int)] rfl HOB.out rfl HSR.out HLB.out (Nat.zero_le _) ?_)
      intro v6 w6 ho6 hg6
      obtain ⟨o6, HO6⟩ : ∃ o6, Hid (o6 = o' ++ [(S : Int)]) := ⟨_, rfl⟩
      rw [← HO6.out] at ho6
      obtain ⟨a6, c6, rfl⟩ := ho6.shape
      obtain ⟨t2, t3, t4⟩ := HGO.out _ w6 _ o6 ((Below.refl _ _).alloc (Nat.le_refl _) _) ho6 hg6
      have HT6 := hide (t4 (by rw [HO6.out]; simp; exact HHL.out))
      clear ho6 hg6 t4 t1 hu8
      go_wp2
      go_roundw
      case rel => exact ⟨P, o6, HT6, fun E q o h => HSY.out _ _ _ (Sys.go (by rw [HL1.out, if_neg (by have := HHL.out; omega), ← HO6.out]) h)⟩
      case measure =>
        rw [HMS.out, HT6.out.at]
        simp [intOf]
        have := HN2.out
        have := HN3.out
        omega
    · have HF : Hid (Sys l d row L p' o' 0 P o') := Sys.fin (by rw [sy1_end HSZ.out (by rw [← HSS.out]; exact c), ← HPP.out])
      subst c
      clear m0 m1 m2
      go_wp2
      (try simp only [Exit.inBlock, Exit.then])
      refine bodyPost_ret (results_none rfl _ _ _) rfl ?_
      exact ⟨0, P, o', HSY.out _ _ _ HF.out, .inl ⟨rfl, rfl, HEND.out _ _ _ HX1.out⟩⟩
    · have hc1 : ¬ ((S : Int) < 256) := by omega
      have hc2 : (256 : Int) < (S : Int) := by omega
      have HL1 : Hid (sy1 l d row L p' o' = if lgE S row P ≠ 0 then (lgE S row P, false, p', o')
          else if dtE d row (lgP S P) ≠ 0 then (dtE d row (lgP S P), false, p', o')
          else if agE L o' (lgV S row P) (dtV d row (lgP S P)) ≠ 0 then (agE L o' (lgV S row P) (dtV d row (lgP S P)), false, p', o')
          else (0, false, dtP d row (lgP S P), cpy (dtV d row (lgP S P)) (lgV S row P) o')) := by
        show _ = _
        rw [sy1_copy HSZ.out (by rw [← HSS.out]; exact c), ← HSS.out, ← HPP.out]
      have HLG := hide (hlength HX1.out S (by omega) (by omega))
      go_wp2_with fail
      refine HLG.out.mono ?_
      rintro e w2 (⟨hlg, rfl, h2⟩ | ⟨hlg, rfl, h2⟩)
      case inr =>
        have HX2 := hide h2
        clear h2 m0 m1 m2
        obtain ⟨E, HE⟩ : ∃ E, Hid (E = lgE S row P) := ⟨_, rfl⟩
        have HSB : Hid (Sys l d row L p' o' E p' o') := by rw [HE.out]; exact Sys.bad (by rw [HL1.out, if_pos hlg]) hlg
        rw [← HE.out] at hlg ⊢
        go_wp2
        exact ⟨rfl, E, p', o', HSY.out _ _ _ HSB.out, .inr ⟨hlg, rfl, HX2.out⟩⟩
      obtain ⟨V, HV⟩ : ∃ V : Nat, Hid (V = lgV S row P) := ⟨_, rfl⟩
      have hV : V ≤ 1000 := by rw [HV.out]; exact lgV_le HBT.out hlg
      obtain ⟨Q1, HQ1⟩ : ∃ Q1 : Nat, Hid (Q1 = lgP S P) := ⟨_, rfl⟩
      have HL2 : Hid (sy1 l d row L p' o' = if dtE d row Q1 ≠ 0 then (dtE d row Q1, false, p', o')
          else if agE L o' V (dtV d row Q1) ≠ 0 then (agE L o' V (dtV d row Q1), false, p', o')
          else (0, false, dtP d row Q1, cpy (dtV d row Q1) V o')) := by
        show _ = _
        rw [HL1.out, if_neg (by simp [hlg]), ← HV.out, ← HQ1.out]
      have HQP : Hid (P ≤ Q1) := by show _ ≤ _; rw [HQ1.out]; unfold lgP; omega
      rw [← HV.out]
      rw [← HQ1.out] at h2
      obtain ⟨x0, x1, x2⟩ := cd_cells (HBOX.out _ _ _ h2)
      have HX2 := hide h2
      clear h2 m0 m1 m2 hlg HLG
      rcases HC2.out with ⟨rfl, hdz⟩ | ⟨gd, id, Kd, rfl, hyd⟩
      · have HDN := hide (hdist_no HX2.out hdz)
        go_wp2_with fail
        refine HDN.out.mono ?_
        rintro e w3 ⟨hdt, rfl, h3⟩
        have HX3 := hide h3
        clear h3 x0 x1 x2
        obtain ⟨E, HE⟩ : ∃ E, Hid (E = dtE d row Q1) := ⟨_, rfl⟩
        have HSB : Hid (Sys l d row L p' o' E p' o') := by rw [HE.out]; exact Sys.bad (by rw [HL2.out, if_pos hdt]) hdt
        rw [← HE.out] at hdt ⊢
        go_wp2
        exact ⟨rfl, E, p', o', HSY.out _ _ _ HSB.out, .inr ⟨hdt, rfl, HX3.out⟩⟩
      have HDN := hide (hdist HX2.out id hyd hd)
      go_wp2_with fail
      refine HDN.out.mono ?_
      rintro e w3 (⟨hdt, rfl, h3⟩ | ⟨hdt, rfl, h3⟩)
      case inr =>
        have HX3 := hide h3
        clear h3 x0 x1 x2
        obtain ⟨E, HE⟩ : ∃ E, Hid (E = dtE d row Q1) := ⟨_, rfl⟩
        have HSB : Hid (Sys l d row L p' o' E p' o') := by rw [HE.out]; exact Sys.bad (by rw [HL2.out, if_pos hdt]) hdt
        rw [← HE.out] at hdt ⊢
        go_wp2
        exact ⟨rfl, E, p', o', HSY.out _ _ _ HSB.out, .inr ⟨hdt, rfl, HX3.out⟩⟩
      obtain ⟨v1, v2, v3, v4⟩ := dtV_le HBT.out hdt
      obtain ⟨D, HDD⟩ : ∃ D : Nat, Hid (D = dtV d row Q1) := ⟨_, rfl⟩
      obtain ⟨Q2, HQ2⟩ : ∃ Q2 : Nat, Hid (Q2 = dtP d row Q1) := ⟨_, rfl⟩
      have HL3 : Hid (sy1 l d row L p' o' = if agE L o' V D ≠ 0 then (agE L o' V D, false, p', o') else (0, false, Q2, cpy D V o')) := by
        show _ = _
        rw [HL2.out, if_neg (by simp [hdt]), ← HDD.out, ← HQ2.out]
      rw [← HDD.out] at v1 v2 ⊢
      rw [← HQ2.out] at v3 v4 h3
      have HAG := hide (hagain h3 V D hV v2 v1)
      have HV3 := hide v3
      have HV4 := hide v4
      clear h3 x0 x1 x2 hdt HDN v3 v4
      go_wp2_with fail
      refine HAG.out.mono ?_
      rintro e w4 (⟨hag, rfl, h4⟩ | ⟨hag, rfl, h4⟩)
      case inr =>
        have HX4 := hide h4
        clear h4
        obtain ⟨E, HE⟩ : ∃ E, Hid (E = agE L o' V D) := ⟨_, rfl⟩
        have HSB : Hid (Sys l d row L p' o' E p' o') := by rw [HE.out]; exact Sys.bad (by rw [HL3.out, if_pos hag]) hag
        rw [← HE.out] at hag ⊢
        go_wp2
        exact ⟨rfl, E, p', o', HSY.out _ _ _ HSB.out, .inr ⟨hag, rfl, HX4.out⟩⟩
      have HT6 := hide h4
      have HAG0 := hide hag
      clear h4 hag HAG
      go_wp2
      go_roundw
      case rel => exact ⟨Q2, cpy D V o', HT6, fun E q o h => HSY.out _ _ _ (Sys.go (by rw [HL3.out, if_neg (by simp [HAG0.out])]) h)⟩
      case measure =>
        rw [HMS.out, HT6.out.at]
        simp [intOf]
        have := HN2.out
        have := HN3.out
        have := HQP.out
        have := HV3.out
        have := HV4.out
        omega
end Go.Proofs.YtcgeaidegppiaaaDoor

