import Derived.Test.YtmjdpfigkojolaaGreatDoorG34Sky
namespace Go.Proofs.YtmjdpfigkojolaaGreatDoor
open Go.RowKit Go.Maps
set_option maxRecDepth 20000
set_option linter.unusedVariables false
set_option linter.unusedSimpArgs false

set_option maxHeartbeats 4000000 in
theorem haddMark {w : World} {B g : Nat} {sz : Int} {ms : List Mk} {K pl : List Int} {mv kv pv : Value} (h : Ix w B g sz ms K mv kv) (hp : OB w B pv pl) (x : Pc) (hx : x.to0 = pl.length)
    (hl : ms.length ≤ 268435455) (hA : lastA ms ≤ pl.length) (hpl : pl.length ≤ 16777216) (hK : K.length ≤ 70368744177664) (hB : B ≤ w.heap.size)
    (hg : kv.ownBlock ≠ some g) (hmg : mv.ownBlock ≠ some g) (hmk : ∀ b, mv.ownBlock = some b → kv.ownBlock ≠ some b) :
    Calls Tryz.prog 28 #[.pointer (some ⟨g, 0, none⟩), .agg #[.int .i64 x.kind, .bool x.fin, .int .i64 (x.at0 : Nat), .int .i64 (x.at1 : Nat), .int .i64 (x.to0 : Nat), .int .i64 (x.to1 : Nat)], pv] w fun e w' =>
      e = .returned (.tuple #[]) ∧ ∃ mv' kv', Added w w' B g sz ms K mv kv (addM pl (ms, K) x).1 (addM pl (ms, K) x).2 mv' kv' := by
  obtain ⟨N, HN⟩ : ∃ N : Nat, Hid (N = pl.length) := ⟨_, rfl⟩
  rw [hx, ← HN.out]
  obtain ⟨wa, HWA⟩ : ∃ wa, Hid (w.alloc (pcO x.kind x.fin x.at0 x.at1 N x.to1) = wa) := ⟨_, rfl⟩
  have lg := (Array.getElem?_eq_some_iff.1 h.box).1
  have hbx : wa.heap[w.heap.size]? = some (pcO x.kind x.fin x.at0 x.at1 N x.to1) := by rw [← HWA.out]; exact heap_alloc_new _ _
  have hia : Ix wa B g sz ms K mv kv := by
    rw [← HWA.out]
    exact ⟨(Below.heap_alloc _ _ _ lg).trans h.box, h.marks.alloc _, h.kept.alloc _⟩
  have hpa : OB wa B pv pl := by rw [← HWA.out]; exact hp.alloc _
  have hsz : wa.heap.size = w.heap.size + 1 := by rw [← HWA.out]; exact size_alloc' _ _
  obtain ⟨ap, cp, rfl⟩ := hp.shape
  obtain ⟨A, HAA⟩ : ∃ A : Nat, Hid (A = lastA ms) := ⟨_, rfl⟩
  obtain ⟨X, HX⟩ : ∃ X : Nat, Hid (X = max (N - 32768) A) := ⟨_, rfl⟩
  have hXN : X ≤ N := by rw [HX.out, HAA.out, HN.out]; omega
  have hN : N ≤ 16777216 := by rw [HN.out]; exact hpl
  have hAN : A ≤ N := by rw [HN.out, HAA.out]; exact hA
  have hw1 : IntKind.i64.wrap ((N : Int) - 32768) = (N : Int) - 32768 := by rw [IntKind.wrap_i64]; omega
  have HLA : Hid (∀ W' : World, W'.heap = wa.heap → Calls Tryz.prog 48 #[.pointer (some ⟨g, 0, none⟩)] W' fun e w' => ∃ u, e = .returned u ∧ (u = .int .i64 A ∧ (∃ n, w' = W'.drewN n))) := fun W' hW' => by
    rw [HAA.out]
    exact (hlastAt (hia.heap hW') (by omega)).mono fun e w' h => ⟨_, h.1, rfl, h.2⟩
  obtain ⟨c0, c1, c2, cf⟩ := ixO_cells hia.box
  obtain ⟨p0, p1, p2, p3, p4, p5, pf⟩ := xpc_cells hbx
  have HF : Hid (∀ W' : World, W'.heap = wa.heap → W'.cell? ⟨g, 2, none⟩ = some kv ∧ W'.cell? ⟨w.heap.size, 4, none⟩ = some (.int .i64 (N : Nat)) ∧ W'.frozen? ⟨g, 2, none⟩ = false) := fun W' e => by
    refine ⟨?_, ?_, ?_⟩
    · rw [← c2]; simp only [World.cell?, e]
    · rw [← p4]; simp only [World.cell?, e]
    · rw [← cf 2]; simp only [World.frozen?, e]
  have HROW : Hid (∀ W' : World, W'.heap = wa.heap → OB W' 0 kv K) := fun W' e => (hia.kept.base (Nat.zero_le _)).move fun k _ => by rw [e]
  have hmx : (if (N : Int) - 32768 < (A : Int) then (A : Int) else (N : Int) - 32768) = (X : Int) := by have := HX.out; split <;> omega
  rw [← HN.out] at hpa ⊢
  have hxi : (X : Int) ≤ (N : Int) := by omega
  obtain ⟨ax, hax⟩ : ∃ ax, (if cp = X then ap else Option.map (fun x => x.add X) ap) = ax := ⟨_, rfl⟩
  have hsf := hpa.suffix2 HN.out hXN
  rw [hax] at hsf
  have HSRC : Hid (∀ W' : World, W'.heap = wa.heap → Src Tryz.prog 1 22 (.slice ax (N - X) (cp - X)) (pl.drop X).length ((pl.drop X).map (Value.int .u8)) W') := fun W' e => (hsf.heap e).src
  obtain ⟨M, HM⟩ : ∃ M : Nat, Hid (M = (K ++ pl.drop X).length) := ⟨_, rfl⟩
  have HKL : Hid (K.length + (pl.drop X).length ≤ 140737488355328) := hide (by rw [List.length_drop]; omega)
  have HG6 : Hid (∀ (w1 w6 : World) (v' : Value), w1.heap = wa.heap → Grew w1 w6 kv v' → w6.cell? ⟨g, 2, none⟩ = some kv ∧ w6.frozen? ⟨g, 2, none⟩ = false) := fun w1 w6 v' e hgr => by
    have hb : w6.heap[g]? = wa.heap[g]? := by
      rcases hgr with ⟨-, rfl⟩ | ⟨-, hb⟩ | ⟨-, -, hgw⟩
      · rw [e]
      · exact (hb.block g (by rw [e]; omega)).trans (by rw [e])
      · exact (hgw.block g (by rw [e]; omega) (fun r => hg r.symm)).trans (by rw [e])
    obtain ⟨-, -, d2, df⟩ := ixO_cells (hb.trans hia.box)
    exact ⟨d2, df 2⟩
  have HFIN : Hid (∀ (w1 w6 : World) (v' : Value), w1.heap = wa.heap → w1.os = wa.os → w1.tape = wa.tape → w1.output = wa.output → OB w6 0 v' (K ++ pl.drop X) → Grew w1 w6 kv v' → Gkp wa B g w.heap.size sz ms K mv kv x (K ++ pl.drop X) (w6.setCell ⟨g, 2, none⟩ v')) := fun w1 w6 v' e e1 e2 e3 ho hgr => by
    refine Gkp.of hia ?_ (by omega) hg hmg hmk (fun q => ?_) w1 e e1 e2 e3 ho.shape ho hgr (by omega)
    · rw [hx, ← HN.out]; exact hbx
    · have := (h.kept.lt _ q).2; omega
  clear hpa hp
  obtain ⟨ww, HWW⟩ : ∃ ww, Hid (w = ww) := ⟨_, rfl⟩
  go_enter Tryz.func28, Tryz.ntmps28
  go_wp2_with fail
  rw [HWA.out]
  go_cut [] (fun wx => Hid (Gkp wa B g w.heap.size sz ms K mv kv x (K ++ pl.drop X) wx))
  case first =>
    go_region_law (first
      | (refine step_call1 rfl _ _ 48 rfl Tryz.call48 (.pointer (some ⟨g, 0, none⟩)) ?_ (HLA.out _ (by rfl)) ?_; (focus (simp [Act.eval, Act.put]; done)); rintro v9 w9 ⟨rfl, n9, hw9⟩; have HW9 : Hid (w9.heap = wa.heap) := (by rw [hw9]; rfl); have HE9 : Hid (w9.os = wa.os ∧ w9.tape = wa.tape ∧ w9.output = wa.output) := (by rw [hw9]; exact ⟨rfl, rfl, rfl⟩); clear hw9; obtain ⟨f1, f2, f3⟩ := HF.out w9 HW9.out)
      | (refine step_appE (by rfl) _ _ (by rfl) kv (.slice ax (N - X) (cp - X)) K (pl.drop X) (by simp [Act.eval, Act.put]) (by simp [Act.eval, Act.put]) (HROW.out _ HW9.out) (HSRC.out _ HW9.out) HKL.out ?_; intro v6 w6 ho6 hg6; obtain ⟨a6, c6, hv6⟩ := ho6.shape; rw [← HM.out] at hv6; subst hv6; obtain ⟨t1, tf⟩ := HG6.out _ w6 _ HW9.out hg6; have HF6 := hide (HFIN.out _ w6 _ HW9.out HE9.out.1 HE9.out.2.1 HE9.out.2.2 ho6 hg6); clear ho6 hg6))
    all_goals
      go_wp2_with fail
      go_meet
      exact HF6
  case rest =>
    have hG := hcut.out
    obtain ⟨⟨ak, ck, hbk, hok, hkk⟩, hmx2, hpb2, hmv⟩ := hG
    rw [← HM.out] at hbk hok hkk
    obtain ⟨d0, d1, d2, df⟩ := ixO_cells hbk
    obtain ⟨q0, q1, q2, q3, q4, q5, qf⟩ := xpc_cells hpb2
    rw [hx, ← HN.out] at q4
    have lgx := (Array.getElem?_eq_some_iff.1 hbk).1
    have lpx := (Array.getElem?_eq_some_iff.1 hpb2).1
    obtain ⟨SS, HSS⟩ : ∃ SS : World → Prop, SS = fun W => W.cell? ⟨g, 2, none⟩ = some (.slice ak M ck) ∧ W.cell? ⟨w.heap.size, 2, none⟩ = some (.int .i64 (x.at0 : Nat)) ∧ W.cell? ⟨w.heap.size, 4, none⟩ = some (.int .i64 (N : Nat)) := ⟨_, rfl⟩
    have HSM : Hid (∀ W : World, W.heap[g]? = wc.heap[g]? → W.heap[w.heap.size]? = wc.heap[w.heap.size]? → SS W) := fun W r1 r2 => by
      rw [HSS]
      refine ⟨?_, ?_, ?_⟩
      · rw [← d2]; simp only [World.cell?, r1]
      · rw [← q2]; simp only [World.cell?, r2]
      · rw [← q4]; simp only [World.cell?, r2]
    have HS0 := hide (HSM.out wc rfl rfl)
    have HS1 := hide (HSM.out (wc.alloc (.cells #[.int .i64 (x.at0 : Nat), .int .i64 (N : Nat), .int .i64 (M : Nat)] 70)) (Below.heap_alloc _ _ _ lgx) (Below.heap_alloc _ _ _ lpx))
    have d1' : (wc.alloc (.cells #[.int .i64 (x.at0 : Nat), .int .i64 (N : Nat), .int .i64 (M : Nat)] 70)).cell? ⟨g, 1, none⟩ = some mv := by rw [((Below.refl wc.heap.size wc).alloc (Nat.le_refl _) _).cell lgx]; exact d1
    have HROW2 : Hid (∀ W' : World, W'.heap = (wc.alloc (.cells #[.int .i64 (x.at0 : Nat), .int .i64 (N : Nat), .int .i64 (M : Nat)] 70)).heap → ORp 70 3 W' 0 mv (ms.map mkc) ∧ W'.heap[wc.heap.size]? = some (.cells #[.int .i64 (x.at0 : Nat), .int .i64 (N : Nat), .int .i64 (M : Nat)] 70 (0, 0))) := fun W' hW => ⟨(hmx2.base (Nat.zero_le _)).move fun k hk => by rw [hW]; exact Below.heap_alloc _ _ k (hmx2.lt k hk).2, by rw [hW]; exact heap_alloc_new _ _⟩
    have HML : Hid ((ms.map mkc).length ≤ 268435456) := hide (by rw [List.length_map]; omega)
    have HFI2 : Hid (∀ (w1 w8 : World) (v' : Value), w1.heap = (wc.alloc (.cells #[.int .i64 (x.at0 : Nat), .int .i64 (N : Nat), .int .i64 (M : Nat)] 70)).heap → w1.os = wc.os → w1.tape = wc.tape → w1.output = wc.output → ORp 70 3 w8 0 v' (ms.map mkc ++ [#[.int .i64 (x.at0 : Nat), .int .i64 (N : Nat), .int .i64 (M : Nat)]]) → w1.grownBy w8 mv.ownBlock → (mv.ownBlock = v'.ownBlock ∨ v'.ownBlock = some w1.heap.size) →
        (w8.cell? ⟨g, 1, none⟩ = some mv ∧ w8.frozen? ⟨g, 1, none⟩ = false) ∧ (∃ a c, v' = .slice a (ms.length + 1) c) ∧ (∃ mv' kv', Added w (w8.setCell ⟨g, 1, none⟩ v') B g sz ms K mv kv (addM pl (ms, K) x).1 (addM pl (ms, K) x).2 mv' kv') ∧ SS w8 ∧ SS (w8.setCell ⟨g, 1, none⟩ v')) := fun w1 w8 v' e e1 e2 e3 ho hgr hat => by
      refine ⟨?_, ?_, ⟨v', ?_⟩, ?_⟩
      · have hb : w8.heap[g]? = wc.heap[g]? := (hgr.block g (by rw [e]; exact Nat.lt_of_lt_of_le lgx ((Below.refl wc.heap.size wc).alloc (Nat.le_refl _) _).size) (fun r => hmg r.symm)).trans (by rw [e]; exact Below.heap_alloc _ _ _ lgx)
        obtain ⟨-, z1, -, zf⟩ := ixO_cells (hb.trans hbk)
        exact ⟨z1, zf 1⟩
      · obtain ⟨a, c, hh, -, -⟩ := ho.shape
        exact ⟨a, c, by rw [hh]; simp⟩
      · have hG := hcut.out
        obtain ⟨kv', q⟩ := hG.added (m := (x.at0, N, M)) hia hg hmg hmk (by omega) e e1 e2 e3 ho hgr hat
        have e5 : K ++ pl.drop X = (addM pl (ms, K) x).2 := by rw [addM, HX.out, HAA.out, HN.out, hx]
        have e6 : ms ++ [(x.at0, N, M)] = (addM pl (ms, K) x).1 := by rw [HM.out, addM, HX.out, HAA.out, HN.out, hx]
        rw [e6, e5] at q
        refine ⟨kv', q.ix, ⟨?_, ?_, ?_, ?_, ?_⟩, fun b r => ?_, fun b r => ?_, q.kg, q.mg, q.sep⟩
        · exact q.mv2.os.trans (by rw [← HWA.out]; rfl)
        · exact q.mv2.tape.trans (by rw [← HWA.out]; rfl)
        · exact q.mv2.output.trans (by rw [← HWA.out]; rfl)
        · have := q.mv2.size; omega
        · exact fun b r n => (q.mv2.blk b (by omega) n).trans (by rw [← HWA.out]; exact Below.heap_alloc _ _ _ r)
        · exact (q.kb b r).imp_right fun t => by omega
        · exact (q.mb b r).imp_right fun t => by omega
      · have hz1 : wc.heap.size < w1.heap.size := by rw [e, size_alloc']; omega
        have hb : ∀ b, b < wc.heap.size → mv.ownBlock ≠ some b → w8.heap[b]? = wc.heap[b]? := fun b q n => (hgr.block b (by omega) (fun r => n r.symm)).trans (by rw [e]; exact Below.heap_alloc _ _ _ q)
        have h8g := (hb g lgx hmg).trans hbk
        have h8p := (hb _ lpx (fun q => by have := (h.marks.lt _ q).2; omega)).trans hpb2
        refine ⟨HSM.out w8 (hb g lgx hmg) (hb _ lpx (fun q => by have := (h.marks.lt _ q).2; omega)), ?_⟩
        obtain ⟨-, -, z2, -⟩ := ixO_cells (ix_set1 h8g v')
        obtain ⟨-, -, y2, -, y4, -, -⟩ := xpc_cells ((setCell_others w8 g 1 v' _ (by omega : w.heap.size ≠ g)).trans h8p)
        rw [hx, ← HN.out] at y4
        rw [HSS]
        exact ⟨z2, y2, y4⟩
    obtain ⟨Y, HY⟩ : ∃ Y : Nat, Hid (Y = ms.length) := ⟨_, rfl⟩
    subst HSS
    go_wp2_with fail
    refine wp_region_held_drew (S := (fun W => W.cell? ⟨g, 2, none⟩ = some (.slice ak M ck) ∧ W.cell? ⟨w.heap.size, 2, none⟩ = some (.int .i64 (x.at0 : Nat)) ∧ W.cell? ⟨w.heap.size, 4, none⟩ = some (.int .i64 (N : Nat)))) (by kernel_rfl) HS0.out (fun hHeld => ?_)
    refine wpAnyH_take (i := 0) (v := .pointer (some ⟨g, 0, none⟩)) rfl (by kernel_rfl) (by kernel_rfl) (by kernel_rfl) (fun _ _ _ h => h) (Or.inl ⟨by kernel_rfl, ?_⟩) hHeld ?_
    · intro W hSw
      have s1 := hSw.1
      have s2 := hSw.2.1
      have s3 := hSw.2.2
      go_simp
    show wpAnyH _ _ _ _ _ _ _ (Act.put _ (some 22) _) _
    simp only [Act.put, List.setIfInBounds_toArray, List.set_cons_zero, List.set_cons_succ]
    refine wpAnyH_take (i := 1) (v := .pointer (some ⟨g, 0, none⟩)) rfl (by kernel_rfl) (by kernel_rfl) (by kernel_rfl) (fun _ _ _ h => h) (Or.inl ⟨by kernel_rfl, ?_⟩) hHeld ?_
    · intro W hSw
      have s1 := hSw.1
      have s2 := hSw.2.1
      have s3 := hSw.2.2
      go_simp
    show wpAnyH _ _ _ _ _ _ _ (Act.put _ (some 23) _) _
    simp only [Act.put, List.setIfInBounds_toArray, List.set_cons_zero, List.set_cons_succ]
    refine wpAnyH_take (i := 2) (v := .pointer (some ⟨g, 0, none⟩)) rfl (by kernel_rfl) (by kernel_rfl) (by kernel_rfl) (fun _ _ _ h => h) (Or.inl ⟨by kernel_rfl, ?_⟩) hHeld ?_
    · intro W hSw
      have s1 := hSw.1
      have s2 := hSw.2.1
      have s3 := hSw.2.2
      go_simp
    show wpAnyH _ _ _ _ _ _ _ (Act.put _ (some 24) _) _
    simp only [Act.put, List.setIfInBounds_toArray, List.set_cons_zero, List.set_cons_succ]
    refine wpAnyH_take (i := 3) (v := .pointer (some ⟨g, 1, none⟩)) rfl (by kernel_rfl) (by kernel_rfl) (by kernel_rfl) (fun _ _ _ h => h) (Or.inl ⟨by kernel_rfl, ?_⟩) hHeld ?_
    · intro W hSw
      have s1 := hSw.1
      have s2 := hSw.2.1
      have s3 := hSw.2.2
      go_simp
    show wpAnyH _ _ _ _ _ _ _ (Act.put _ (some 25) _) _
    simp only [Act.put, List.setIfInBounds_toArray, List.set_cons_zero, List.set_cons_succ]
    refine wpAnyH_take (i := 5) (v := .pointer (some ⟨w.heap.size, 2, none⟩)) rfl (by kernel_rfl) (by kernel_rfl) (by kernel_rfl) (fun _ _ _ h => h) (Or.inl ⟨by kernel_rfl, ?_⟩) hHeld ?_
    · intro W hSw
      have s1 := hSw.1
      have s2 := hSw.2.1
      have s3 := hSw.2.2
      go_simp
    show wpAnyH _ _ _ _ _ _ _ (Act.put _ (some 27) _) _
    simp only [Act.put, List.setIfInBounds_toArray, List.set_cons_zero, List.set_cons_succ]
    refine wpAnyH_take (i := 6) (v := .int .i64 (x.at0 : Nat)) rfl (by kernel_rfl) (by kernel_rfl) (by kernel_rfl) (fun _ _ _ h => h) (Or.inl ⟨by kernel_rfl, ?_⟩) hHeld ?_
    · intro W hSw
      have s1 := hSw.1
      have s2 := hSw.2.1
      have s3 := hSw.2.2
      go_simp
    show wpAnyH _ _ _ _ _ _ _ (Act.put _ (some 28) _) _
    simp only [Act.put, List.setIfInBounds_toArray, List.set_cons_zero, List.set_cons_succ]
    refine wpAnyH_take (i := 7) (v := .pointer (some ⟨w.heap.size, 4, none⟩)) rfl (by kernel_rfl) (by kernel_rfl) (by kernel_rfl) (fun _ _ _ h => h) (Or.inl ⟨by kernel_rfl, ?_⟩) hHeld ?_
    · intro W hSw
      have s1 := hSw.1
      have s2 := hSw.2.1
      have s3 := hSw.2.2
      go_simp
    show wpAnyH _ _ _ _ _ _ _ (Act.put _ (some 29) _) _
    simp only [Act.put, List.setIfInBounds_toArray, List.set_cons_zero, List.set_cons_succ]
    refine wpAnyH_take (i := 8) (v := .int .i64 (N : Nat)) rfl (by kernel_rfl) (by kernel_rfl) (by kernel_rfl) (fun _ _ _ h => h) (Or.inl ⟨by kernel_rfl, ?_⟩) hHeld ?_
    · intro W hSw
      have s1 := hSw.1
      have s2 := hSw.2.1
      have s3 := hSw.2.2
      go_simp
    show wpAnyH _ _ _ _ _ _ _ (Act.put _ (some 30) _) _
    simp only [Act.put, List.setIfInBounds_toArray, List.set_cons_zero, List.set_cons_succ]
    refine wpAnyH_take (i := 9) (v := .agg #[.int .i64 (x.at0 : Nat), .int .i64 (N : Nat)]) rfl (by kernel_rfl) (by kernel_rfl) (by kernel_rfl) (fun _ _ _ h => h) (Or.inl ⟨by kernel_rfl, ?_⟩) hHeld ?_
    · intro W hSw
      have s1 := hSw.1
      have s2 := hSw.2.1
      have s3 := hSw.2.2
      go_simp
    show wpAnyH _ _ _ _ _ _ _ (Act.put _ (some 31) _) _
    simp only [Act.put, List.setIfInBounds_toArray, List.set_cons_zero, List.set_cons_succ]
    refine wpAnyH_take (i := 10) (v := .pointer (some ⟨g, 0, none⟩)) rfl (by kernel_rfl) (by kernel_rfl) (by kernel_rfl) (fun _ _ _ h => h) (Or.inl ⟨by kernel_rfl, ?_⟩) hHeld ?_
    · intro W hSw
      have s1 := hSw.1
      have s2 := hSw.2.1
      have s3 := hSw.2.2
      go_simp
    show wpAnyH _ _ _ _ _ _ _ (Act.put _ (some 32) _) _
    simp only [Act.put, List.setIfInBounds_toArray, List.set_cons_zero, List.set_cons_succ]
    refine wpAnyH_take (i := 11) (v := .pointer (some ⟨g, 0, none⟩)) rfl (by kernel_rfl) (by kernel_rfl) (by kernel_rfl) (fun _ _ _ h => h) (Or.inl ⟨by kernel_rfl, ?_⟩) hHeld ?_
    · intro W hSw
      have s1 := hSw.1
      have s2 := hSw.2.1
      have s3 := hSw.2.2
      go_simp
    show wpAnyH _ _ _ _ _ _ _ (Act.put _ (some 33) _) _
    simp only [Act.put, List.setIfInBounds_toArray, List.set_cons_zero, List.set_cons_succ]
    refine wpAnyH_take (i := 12) (v := .pointer (some ⟨g, 2, none⟩)) rfl (by kernel_rfl) (by kernel_rfl) (by kernel_rfl) (fun _ _ _ h => h) (Or.inl ⟨by kernel_rfl, ?_⟩) hHeld ?_
    · intro W hSw
      have s1 := hSw.1
      have s2 := hSw.2.1
      have s3 := hSw.2.2
      go_simp
    show wpAnyH _ _ _ _ _ _ _ (Act.put _ (some 34) _) _
    simp only [Act.put, List.setIfInBounds_toArray, List.set_cons_zero, List.set_cons_succ]
    refine wpAnyH_take (i := 13) (v := .slice ak M ck) rfl (by kernel_rfl) (by kernel_rfl) (by kernel_rfl) (fun _ _ _ h => h) (Or.inl ⟨by kernel_rfl, ?_⟩) hHeld ?_
    · intro W hSw
      have s1 := hSw.1
      have s2 := hSw.2.1
      have s3 := hSw.2.2
      go_simp
    show wpAnyH _ _ _ _ _ _ _ (Act.put _ (some 35) _) _
    simp only [Act.put, List.setIfInBounds_toArray, List.set_cons_zero, List.set_cons_succ]
    refine wpAnyH_take (i := 14) (v := .int .i64 (M : Nat)) rfl (by kernel_rfl) (by kernel_rfl) (by kernel_rfl) (fun _ _ _ h => h) (Or.inl ⟨by kernel_rfl, ?_⟩) hHeld ?_
    · intro W hSw
      have s1 := hSw.1
      have s2 := hSw.2.1
      have s3 := hSw.2.2
      go_simp
    show wpAnyH _ _ _ _ _ _ _ (Act.put _ (some 36) _) _
    simp only [Act.put, List.setIfInBounds_toArray, List.set_cons_zero, List.set_cons_succ]
    refine wpAnyH_take (i := 15) (v := .agg #[.int .i64 (x.at0 : Nat), .int .i64 (N : Nat), .int .i64 (M : Nat)]) rfl (by kernel_rfl) (by kernel_rfl) (by kernel_rfl) (fun _ _ _ h => h) (Or.inl ⟨by kernel_rfl, ?_⟩) hHeld ?_
    · intro W hSw
      have s1 := hSw.1
      have s2 := hSw.2.1
      have s3 := hSw.2.2
      go_simp
    show wpAnyH _ _ _ _ _ _ _ (Act.put _ (some 37) _) _
    simp only [Act.put, List.setIfInBounds_toArray, List.set_cons_zero, List.set_cons_succ]
    have HS1d : Hid (((wc.drew.alloc (.cells #[.int .i64 (x.at0 : Nat), .int .i64 (N : Nat), .int .i64 (M : Nat)] 70))).cell? ⟨g, 2, none⟩ = some (.slice ak M ck) ∧ ((wc.drew.alloc (.cells #[.int .i64 (x.at0 : Nat), .int .i64 (N : Nat), .int .i64 (M : Nat)] 70))).cell? ⟨w.heap.size, 2, none⟩ = some (.int .i64 (x.at0 : Nat)) ∧ ((wc.drew.alloc (.cells #[.int .i64 (x.at0 : Nat), .int .i64 (N : Nat), .int .i64 (M : Nat)] 70))).cell? ⟨w.heap.size, 4, none⟩ = some (.int .i64 (N : Nat))) := HS1.out
    have e1 : wc.drew.cell? ⟨g, 1, none⟩ = some mv := d1
    have e2 : (wc.drew.alloc (.cells #[.int .i64 (x.at0 : Nat), .int .i64 (N : Nat), .int .i64 (M : Nat)] 70)).cell? ⟨g, 1, none⟩ = some mv := d1'
    refine wpAnyH_ready (rs := [4, 16]) (by kernel_rfl) (by simp) ?_
    refine AllReadyH.cons rfl (fun K hK => ?_) (AllReadyH.cons rfl (fun K hK => ?_) AllReadyH.nil)
    · go_simp
      refine hK.out _ _ HS0.out (fun hHeld1 => ?_)
      clear hK K
      try simp only [Act.put, List.setIfInBounds_toArray, List.set_cons_zero, List.set_cons_succ]
      refine wpAnyH_ready (rs := [16]) (by kernel_rfl) (by simp) ?_
      refine AllReadyH.cons rfl (fun K hK => ?_) AllReadyH.nil
      go_simp
      refine hK.out _ _ HS1d.out (fun hHeld2 => ?_)
      clear hK K
      try simp only [Act.put, List.setIfInBounds_toArray, List.set_cons_zero, List.set_cons_succ]
      refine wpAnyH_ready (rs := [17]) (by kernel_rfl) (by simp) ?_
      refine AllReadyH.cons rfl (fun K hK => ?_) AllReadyH.nil
      refine stepRowk (by rfl) _ _ (by rfl) 0 mv (ms.map mkc) #[.int .i64 (x.at0 : Nat), .int .i64 (N : Nat), .int .i64 (M : Nat)] wc.heap.size 1 (0, 0) (by simp [Act.eval, Act.put]) (HROW2.out _ (by rfl)).1 (by simp [Act.eval, Act.put]) (HROW2.out _ (by rfl)).2 rfl (by simp [Value.oneCell']) HML.out (Nat.zero_le _) ?_
      intro v8 w8 ho8 hg8 hat8
      obtain ⟨⟨t6, t7⟩, ⟨a8, c8, hv8⟩, hfin, hs2⟩ := HFI2.out _ w8 _ (by rfl) (by rfl) (by rfl) (by rfl) ho8 hg8 hat8
      rw [← HY.out] at hv8
      subst hv8
      have HT8 := hide hfin
      have HS2 := hide hs2
      clear hfin hs2 ho8 hg8 hat8
      refine hK.out _ _ HS2.out.1 (fun hHeld3 => ?_)
      clear hK K
      try simp only [Act.put, List.setIfInBounds_toArray, List.set_cons_zero, List.set_cons_succ]
      refine wpAnyH_take (i := 18) (v := .pointer (some ⟨g, 0, none⟩)) rfl (by kernel_rfl) (by kernel_rfl) (by kernel_rfl) (fun _ _ _ h => h) (Or.inl ⟨by kernel_rfl, ?_⟩) hHeld3 ?_
      · intro W hSw
        have s1 := hSw.1
        have s2 := hSw.2.1
        have s3 := hSw.2.2
        go_simp
      show wpAnyH _ _ _ _ _ _ _ (Act.put _ (some 40) _) _
      simp only [Act.put, List.setIfInBounds_toArray, List.set_cons_zero, List.set_cons_succ]
      refine wpAnyH_take (i := 19) (v := .pointer (some ⟨g, 1, none⟩)) rfl (by kernel_rfl) (by kernel_rfl) (by kernel_rfl) (fun _ _ _ h => h) (Or.inl ⟨by kernel_rfl, ?_⟩) hHeld3 ?_
      · intro W hSw
        have s1 := hSw.1
        have s2 := hSw.2.1
        have s3 := hSw.2.2
        go_simp
      show wpAnyH _ _ _ _ _ _ _ (Act.put _ (some 41) _) _
      simp only [Act.put, List.setIfInBounds_toArray, List.set_cons_zero, List.set_cons_succ]
      refine wpAnyH_ready (rs := [20]) (by kernel_rfl) (by simp) ?_
      refine AllReadyH.cons rfl (fun K hK => ?_) AllReadyH.nil
      go_simp
      refine hK.out _ _ HS2.out.2 (fun hHeld4 => ?_)
      clear hK K
      try simp only [Act.put, List.setIfInBounds_toArray, List.set_cons_zero, List.set_cons_succ]
      refine wpAnyH_done (by kernel_rfl) ?_ _
      have HT9 := hide HT8.out
      clear HT8 HS2 HROW2 HML HFI2 HSM HS0 HS1 hcut
      go_wp2
      go_end0
      exact ⟨rfl, HT9.out⟩
    · go_simp
      refine hK.out _ _ HS1d.out (fun hHeld1 => ?_)
      clear hK K
      try simp only [Act.put, List.setIfInBounds_toArray, List.set_cons_zero, List.set_cons_succ]
      refine wpAnyH_ready (rs := [4]) (by kernel_rfl) (by simp) ?_
      refine AllReadyH.cons rfl (fun K hK => ?_) AllReadyH.nil
      go_simp
      refine hK.out _ _ HS1d.out (fun hHeld2 => ?_)
      clear hK K
      try simp only [Act.put, List.setIfInBounds_toArray, List.set_cons_zero, List.set_cons_succ]
      refine wpAnyH_ready (rs := [17]) (by kernel_rfl) (by simp) ?_
      refine AllReadyH.cons rfl (fun K hK => ?_) AllReadyH.nil
      refine stepRowk (by rfl) _ _ (by rfl) 0 mv (ms.map mkc) #[.int .i64 (x.at0 : Nat), .int .i64 (N : Nat), .int .i64 (M : Nat)] wc.heap.size 1 (0, 0) (by simp [Act.eval, Act.put]) (HROW2.out _ (by rfl)).1 (by simp [Act.eval, Act.put]) (HROW2.out _ (by rfl)).2 rfl (by simp [Value.oneCell']) HML.out (Nat.zero_le _) ?_
      intro v8 w8 ho8 hg8 hat8
      obtain ⟨⟨t6, t7⟩, ⟨a8, c8, hv8⟩, hfin, hs2⟩ := HFI2.out _ w8 _ (by rfl) (by rfl) (by rfl) (by rfl) ho8 hg8 hat8
      rw [← HY.out] at hv8
      subst hv8
      have HT8 := hide hfin
      have HS2 := hide hs2
      clear hfin hs2 ho8 hg8 hat8
      refine hK.out _ _ HS2.out.1 (fun hHeld3 => ?_)
      clear hK K
      try simp only [Act.put, List.setIfInBounds_toArray, List.set_cons_zero, List.set_cons_succ]
      refine wpAnyH_take (i := 18) (v := .pointer (some ⟨g, 0, none⟩)) rfl (by kernel_rfl) (by kernel_rfl) (by kernel_rfl) (fun _ _ _ h => h) (Or.inl ⟨by kernel_rfl, ?_⟩) hHeld3 ?_
      · intro W hSw
        have s1 := hSw.1
        have s2 := hSw.2.1
        have s3 := hSw.2.2
        go_simp
      show wpAnyH _ _ _ _ _ _ _ (Act.put _ (some 40) _) _
      simp only [Act.put, List.setIfInBounds_toArray, List.set_cons_zero, List.set_cons_succ]
      refine wpAnyH_take (i := 19) (v := .pointer (some ⟨g, 1, none⟩)) rfl (by kernel_rfl) (by kernel_rfl) (by kernel_rfl) (fun _ _ _ h => h) (Or.inl ⟨by kernel_rfl, ?_⟩) hHeld3 ?_
      · intro W hSw
        have s1 := hSw.1
        have s2 := hSw.2.1
        have s3 := hSw.2.2
        go_simp
      show wpAnyH _ _ _ _ _ _ _ (Act.put _ (some 41) _) _
      simp only [Act.put, List.setIfInBounds_toArray, List.set_cons_zero, List.set_cons_succ]
      refine wpAnyH_ready (rs := [20]) (by kernel_rfl) (by simp) ?_
      refine AllReadyH.cons rfl (fun K hK => ?_) AllReadyH.nil
      go_simp
      refine hK.out _ _ HS2.out.2 (fun hHeld4 => ?_)
      clear hK K
      try simp only [Act.put, List.setIfInBounds_toArray, List.set_cons_zero, List.set_cons_succ]
      refine wpAnyH_done (by kernel_rfl) ?_ _
      have HT9 := hide HT8.out
      clear HT8 HS2 HROW2 HML HFI2 HSM HS0 HS1 hcut
      go_wp2
      go_end0
      exact ⟨rfl, HT9.out⟩
end Go.Proofs.YtmjdpfigkojolaaGreatDoor

