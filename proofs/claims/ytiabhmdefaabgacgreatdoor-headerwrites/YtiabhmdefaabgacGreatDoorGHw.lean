import Derived.Test.YtiabhmdefaabgacGreatDoorGZpt
import Derived.Test.YtiabhmdefaabgacGreatDoorGMx3
import Derived.Test.YtiabhmdefaabgacGreatDoorGRn
import Derived.Deep.RegionHeld3
import Derived.Test.YtiabhmdefaabgacGreatDoorGXw
import Derived.Test.YtiabhmdefaabgacGreatDoorGNlh
import Derived.Test.YtiabhmdefaabgacGreatDoorGLw
namespace Go.Proofs.YtiabhmdefaabgacGreatDoor
open Go.RowKit Go.Maps
set_option maxRecDepth 20000
set_option linter.unusedVariables false

set_option maxHeartbeats 8000000 in
theorem hzwrite {W w : World} {xs : List ((Nat → Nat) × Thing)} (H : Herd W w xs) (i : Nat) {K : Nat → Nat} {g : Nat} {row : List Int} (hi : xs[i]? = some (K, tx g row)) (v1 v2 : Value) (l d : List Int) (s1 : SI w v1 l) (s2 : SI w v2 d) (X : Xodr W) (hrow : row.length ≤ 100) :
    Calls Tryz.prog 7 #[.pointer (some ⟨g, 0, none⟩), v1, v2] w fun e w' => e = .returned (.int .i64 (mkE l d)) ∧ ∃ K', Herd W w' (xs.set i (K', tx g (if mkE l d = 0 then row ++ mkB l d else row))) := by
  have HI := hide hi
  have HH := hide H
  have HX := hide X
  have HIL := hide (List.getElem?_eq_some_iff.1 hi).1
  have HMK := hide (xmake_any v1 v2 l d w s1 s2 (X.mono H.bel))
  obtain ⟨a1, c1, rfl, -, -⟩ := s1.open
  obtain ⟨a2, c2, rfl, -, -⟩ := s2.open
  clear H hi s1 s2 X
  go_enter Tryz.func7, Tryz.ntmps7
  go_wp2_with fail
  refine HMK.out.mono ?_
  rintro e w1 ⟨hyn, b1⟩
  rcases hyn with ⟨hne, hno⟩ | ⟨h0, vL, vD, vC, vR, rfl, hmk⟩
  · unfold MkNo at hno
    subst hno
    have g0 : (mkE l d != 0) = true := by simpa using hne
    have HN := hide (((HH.out.below b1).below ((Below.refl _ _).alloc (Nat.le_refl _) (.cells #[.slice none 0 0, .slice none 0 0, .slice none 0 0, .slice none 0 0, .int .i64 0] 45))).same HI.out)
    have HNE := hide hne
    clear b1 hne
    go_wp2
    go_ret
    (try rw [if_neg HNE.out])
    exact ⟨rfl, K, HN.out⟩
  · obtain ⟨f1, f2, f3, f4, f5, f6, f7, f8, f9, f10⟩ := mk_facts h0
    obtain ⟨k1, k2, k3, k4, k5⟩ := mk_small h0
    have HB : Hid (mkB l d = hdB (mkL l) (mkD d) (mkC l d) (mkR l d)) := rfl
    have HM0 := hide h0
    obtain ⟨L, HL⟩ : ∃ L, Hid (L = mkL l) := ⟨_, rfl⟩
    obtain ⟨D, HD⟩ : ∃ D, Hid (D = mkD d) := ⟨_, rfl⟩
    obtain ⟨C, HC⟩ : ∃ C, Hid (C = mkC l d) := ⟨_, rfl⟩
    obtain ⟨R, HR⟩ : ∃ R, Hid (R = mkR l d) := ⟨_, rfl⟩
    obtain ⟨Z, HZ⟩ : ∃ Z, Hid (Z = mkZ l d) := ⟨_, rfl⟩
    rw [← HL.out, ← HD.out, ← HC.out, ← HR.out] at hmk HB
    rw [← HZ.out]
    rw [← HL.out] at f3 f4
    rw [← HD.out] at f5 f6
    rw [← HC.out] at k1 k2 k3 k5
    rw [← HR.out] at k3 f8 f9
    obtain ⟨aL, cL, rfl⟩ := hmk.l.shape
    obtain ⟨aD, cD, rfl⟩ := hmk.d.shape
    obtain ⟨aC, cC, rfl⟩ := hmk.c.shape
    obtain ⟨aR, cR, rfl, -, -⟩ := hmk.r.shape
    rw [k1] at hmk ⊢
    obtain ⟨KC, hcr⟩ := HH.out.crs b1 hmk.c hmk.r
    obtain ⟨wb, hwb⟩ : ∃ wb, w1.alloc (.cells #[.slice aL L.length cL, .slice aD D.length cD, .slice aC 19 cC, .slice aR R.length cR, .int .i64 Z] 45) = wb := ⟨_, rfl⟩
    have hb0 : Below w1.heap.size w1 wb := by rw [← hwb]; exact (Below.refl _ _).alloc (Nat.le_refl _) _
    have hbx : Hbox wb w1.heap.size (.slice aL L.length cL) (.slice aD D.length cD) (.slice aC 19 cC) (.slice aR R.length cR) (.int .i64 Z) := by rw [← hwb]; exact heap_alloc_new w1 _
    obtain ⟨x0, x1, x2, x3, x4⟩ := hbx.cells
    obtain ⟨ob, hob⟩ : ∃ ob : Obj, ob = .cells #[.slice aL L.length cL, .slice aD D.length cD, .slice aC 19 cC, .slice aR R.length cR, .int .i64 Z] 45 (0, 0) := ⟨_, rfl⟩
    have hbo : wb.heap[w1.heap.size]? = some ob := by rw [hob, ← hwb]; exact heap_alloc_new w1 _
    obtain ⟨KB, hKB⟩ : ∃ KB : Nat → Nat, KB = fun k => if k = w1.heap.size then 1 else 0 := ⟨_, rfl⟩
    have hcb : Herd W wb ((xs ++ [(KC, tcr (.slice aC 19 cC) C (.slice aR R.length cR) R)]) ++ [(KB, tb w1.heap.size ob)]) := by
      refine hcr.push hb0 (x := tb w1.heap.size ob) ⟨hbo, by simp [hKB], fun k hk => ?_⟩ fun k hk => ?_
      · by_cases e : k = w1.heap.size
        · rw [e, ← hwb]; simp
        · simp [hKB, e] at hk
      · by_cases e : k = w1.heap.size
        · omega
        · simp [hKB, e] at hk
    have hx2 := hcb.drewN 1
    have HPT := hide (hzput hx2 i xs.length (by have := HIL.out; omega) aC aR cC cR L D C R (get_front (get_front HI.out)) (get_front (get_last _ _)) HX.out k1 k2 f8 k3 (dc_bk k5) f9 f3 f4 f5 f6 hrow)
    have HPT2 : Hid (Calls Tryz.prog 23 #[.pointer (some ⟨g, 0, none⟩), .int .i64 L.length, .int .i64 D.length, .slice aC 19 cC, .int .i64 (wrt C : Nat), .slice aR R.length cR] wb.drew fun e w' => e = .returned (.int .i64 0) ∧ (∃ K', Herd W w' (xs.set i (K', tx g (row ++ hdB L D C R)))) ∧ w'.cell? ⟨w1.heap.size, 0, none⟩ = some (.slice aL L.length cL) ∧ w'.cell? ⟨w1.heap.size, 1, none⟩ = some (.slice aD D.length cD) ∧ w'.cell? ⟨w1.heap.size, 2, none⟩ = some (.slice aC 19 cC) ∧ w'.cell? ⟨w1.heap.size, 3, none⟩ = some (.slice aR R.length cR)) := HPT.out.mono fun e w' ⟨he, K', h6⟩ => by
      have hil := HIL.out
      have hb6 : (tb w1.heap.size ob).P w' KB := h6.rep (xs.length + 1) (KB, tb w1.heap.size ob) (by rw [List.getElem?_set_ne (by omega)]; simp)
      have hh : w'.heap[w1.heap.size]? = some (.cells #[.slice aL L.length cL, .slice aD D.length cD, .slice aC 19 cC, .slice aR R.length cR, .int .i64 Z] 45 (0, 0)) := by rw [← hob]; exact hb6.1
      have hc : ∀ (q : Nat) (u : Value), (#[.slice aL L.length cL, .slice aD D.length cD, .slice aC 19 cC, .slice aR R.length cR, .int .i64 Z] : Array Value)[q]? = some u → w'.cell? ⟨w1.heap.size, q, none⟩ = some u := fun q u hq => by
        unfold World.cell?
        simp only [hh]
        exact hq
      refine ⟨he, ⟨K', ?_⟩, hc 0 _ rfl, hc 1 _ rfl, hc 2 _ rfl, hc 3 _ rfl⟩
      rw [setf (get_front HI.out), setf HI.out] at h6
      exact h6.front.front
    have hsc : SI wb.drew (.slice aC 19 cC) C := (hx2.crc xs.length (get_front (get_last _ _))).1
    have HWT0 := hide (xwritten_any _ C wb.drew hsc (HX.out.mono hx2.bel) k1 (fun s => (k2 s).1))
    have HWB := hide hwb
    clear hwb hb0 hbx hcr hcb hbo hob hKB hmk b1 h0 f1 f2 f3 f4 f5 f6 f7 f8 f9 f10 k1 k2 k3 k4 k5 HPT hx2 hsc HMK
    go_wp2
    rw [HWB.out]
    go_region_held3 (fun w' => w'.cell? ⟨w1.heap.size, 0, none⟩ = some (.slice aL L.length cL) ∧ w'.cell? ⟨w1.heap.size, 1, none⟩ = some (.slice aD D.length cD) ∧ w'.cell? ⟨w1.heap.size, 2, none⟩ = some (.slice aC 19 cC) ∧ w'.cell? ⟨w1.heap.size, 3, none⟩ = some (.slice aR R.length cR)) (first | exact ⟨x0, x1, x2, x3⟩ | exact HCE.out) (first
      | (go_at_call 24
         with_reducible refine HWT0.out.mono ?_
         rintro e w5 ⟨rfl, hw5⟩
         subst hw5)
      | (go_at_call 23
         with_reducible refine HPT2.out.mono ?_
         rintro e w6 ⟨rfl, ⟨K6, h6⟩, hce⟩
         have HX6 := hide h6
         have HCE := hide hce
         clear h6 hce))
    all_goals
      have HF : Hid (Herd W w6 (xs.set i (K6, tx g (row ++ mkB l d)))) := by
        have h := HX6.out
        rw [← HB.out] at h
        exact hide h
      clear HX6
      go_wp2
      go_ret
      (try rw [HM0.out])
      exact ⟨rfl, K6, HF.out⟩
end Go.Proofs.YtiabhmdefaabgacGreatDoor

namespace Go.Proofs.YtiabhmdefaabgacGreatDoor
open Go.RowKit Go.Maps
set_option maxRecDepth 20000
set_option linter.unusedVariables false

theorem eqB_refl (l : List Int) : eqB l l = true := by simp [eqB]

theorem put_short {v n : Int} : (putRow [] v n).length ≤ 32 := by
  unfold putRow
  by_cases h : putOk [] v n
  · rw [if_pos h, List.nil_append, length_bts]
    have := h.1.1
    unfold Cnt at this
    omega
  · rw [if_neg h]; simp

set_option maxHeartbeats 2000000 in
theorem lead_any (f n : Int) (w : World) (hf0 : 0 ≤ f) (hf1 : f < 4294967296) :
    Calls Tryz.prog 4 #[.int .u32 f, .int .i64 n] w fun e w' => ∃ g K gx Kx, e = .returned (.tuple #[.pointer (some ⟨g, 0, none⟩), .pointer (some ⟨gx, 0, none⟩), .bool true]) ∧ Herd w w' [(K, tw g (putRow [] f n)), (Kx, tx gx (putRow [] f n))] := by
  have HNW := hide (hnewW (Herd.nil w))
  go_enter Tryz.func4, Tryz.ntmps4
  go_wp2_with fail
  refine HNW.out.mono ?_
  rintro e w1 ⟨g, K, rfl, h1⟩
  have HNX := hide (hxnew h1)
  clear h1
  go_wp2_with fail
  refine HNX.out.mono ?_
  rintro e w2 ⟨gx, Kx, rfl, h2⟩
  have HX2 : Hid (Herd w w2 [(K, tw g []), (Kx, tx gx [])]) := h2
  have HP := hide (hput HX2.out 0 rfl f n hf0 hf1)
  clear h2
  obtain ⟨E, HE⟩ : ∃ E, Hid (E = putE [] f n) := ⟨_, rfl⟩
  rw [← HE.out] at HP
  go_wp2_with fail
  refine HP.out.mono ?_
  rintro e w3 ⟨rfl, K3, h3⟩
  have HX3 : Hid (Herd w w3 [(K3, tw g (putRow [] f n)), (Kx, tx gx [])]) := h3
  have HPX := hide (hxput HX3.out 1 rfl f n hf0 hf1)
  rw [← HE.out] at HPX
  clear h3
  go_wp2_with fail
  refine HPX.out.mono ?_
  rintro e w4 ⟨rfl, K4, h4⟩
  have HX4 : Hid (Herd w w4 [(K3, tw g (putRow [] f n)), (K4, tx gx (putRow [] f n))]) := h4
  clear h4
  go_wp2_with fail
  refine (nnum_any w4 E).mono ?_
  rintro e w5 ⟨rfl, hw5⟩
  rw [hw5]
  clear hw5
  go_wp2
  refine bodyPost_ret (v := .tuple #[.pointer (some ⟨g, 0, none⟩), .pointer (some ⟨gx, 0, none⟩), .bool true]) (by simp [results, Tryz.results4, go_sem]) rfl ?_
  exact ⟨g, K3, gx, K4, rfl, HX4.out⟩
end Go.Proofs.YtiabhmdefaabgacGreatDoor

namespace Go.Proofs.YtiabhmdefaabgacGreatDoor
open Go.RowKit Go.Maps
set_option maxRecDepth 20000
set_option linter.unusedVariables false

theorem wr_short {l d row : List Int} (hr : row.length ≤ 1000000) : wrE l d row = mkE l d ∧ wrR l d row = if mkE l d = 0 then row ++ mkB l d else row := by
  by_cases h : mkE l d = 0
  · obtain ⟨f1, f2, f3, f4, f5, f6, f7, f8, f9, f10⟩ := mk_facts h
    obtain ⟨c1, c2, c3, c4, c5⟩ := mk_small h
    have h1 := hdB_len (L := mkL l) (D := mkD d) (C := mkC l d) (R := mkR l d) (fun s => (c2 s).1)
    have h2 := rsz_bound (C := mkC l d) (fun s => ⟨(c2 s).1, by have := (c2 s).2; omega⟩) (mkR l d)
    have h3 := wrt_le (mkC l d)
    have h4 : ((mkB l d).length : Int) = hsz (mkC l d) (mkR l d) := h1
    unfold hsz at h4
    have hj : joinE row (mkB l d) = 0 ∧ joinRow row (mkB l d) = row ++ mkB l d := ⟨if_neg (by omega), if_neg (by omega)⟩
    exact ⟨by unfold wrE; rw [if_neg (by simp [h]), hj.1, h], by unfold wrR; rw [if_neg (by simp [h]), hj.2, if_pos h]⟩
  · exact ⟨if_pos h, by unfold wrR; rw [if_pos h, if_neg h]⟩

set_option maxHeartbeats 8000000 in
theorem headerWrites_walk (f n : Int) (v1 v2 : Value) (l d : List Int) (w : World) (s1 : SI w v1 l) (s2 : SI w v2 d) (hf0 : 0 ≤ f) (hf1 : f < 4294967296) (T : Tab w) (O : Odr w) (X : Xodr w) (n1 : l.length ≤ 17592186044416) (n2 : d.length ≤ 17592186044416) :
    Calls Tryz.prog 3 #[.int .u32 f, .int .i64 n, v1, v2] w fun e w' => e = .returned (.bool true) ∧ Below w.heap.size w w' := by
  have H1 := hide s1
  have H2 := hide s2
  have HT := hide T
  have HO := hide O
  have HX := hide X
  obtain ⟨a1, c1, rfl, -, -⟩ := s1.open
  obtain ⟨a2, c2, rfl, -, -⟩ := s2.open
  clear s1 s2 T O X
  have HLD := hide (lead_any f n w hf0 hf1)
  obtain ⟨r, HR⟩ : ∃ r, Hid (r = putRow [] f n) := ⟨_, rfl⟩
  have HRS : Hid (r.length ≤ 32) := by rw [HR.out]; exact hide put_short
  rw [← HR.out] at HLD
  go_enter Tryz.func3, Tryz.ntmps3
  go_wp2_with fail
  refine HLD.out.mono ?_
  rintro e w1 ⟨g, K, gx, Kx, rfl, h1⟩
  have HX1 := hide h1
  clear h1 HLD
  go_wp2_with fail
  refine (ints_any _ l w1 (H1.out.below HX1.out.bel) n1).mono ?_
  rintro e w2 ⟨v4, rfl, hv4, o4, b4⟩
  obtain ⟨K2, h2⟩ := HX1.out.ilist b4 o4
  have HX2 : Hid (Herd w w2 [(K, tw g r), (Kx, tx gx r), (K2, ti v4 l)]) := h2
  subst hv4
  clear o4 b4 h2
  go_wp2_with fail
  refine (ints_any _ d w2 (H2.out.below HX2.out.bel) n2).mono ?_
  rintro e w3 ⟨v5, rfl, hv5, o5, b5⟩
  obtain ⟨K3, h3⟩ := HX2.out.ilist b5 o5
  have HX3 : Hid (Herd w w3 [(K, tw g r), (Kx, tx gx r), (K2, ti (.slice (some ⟨w1.heap.size, 0, none⟩) l.length l.length) l), (K3, ti v5 d)]) := h3
  subst hv5
  clear o5 b5 h3
  have HWR := hide (hwrite HX3.out 0 rfl _ _ l d (HX3.out.isi 2 rfl) (HX3.out.isi 3 rfl) HT.out HO.out)
  obtain ⟨ws1, ws2⟩ := wr_short (l := l) (d := d) (row := r) (by have := HRS.out; omega)
  rw [ws1, ws2] at HWR
  clear ws1 ws2
  obtain ⟨E, HE⟩ : ∃ E, Hid (E = mkE l d) := ⟨_, rfl⟩
  obtain ⟨Q, HQ⟩ : ∃ Q, Hid (Q = if mkE l d = 0 then r ++ mkB l d else r) := ⟨_, rfl⟩
  rw [← HQ.out, ← HE.out] at HWR
  go_wp2_with fail
  refine HWR.out.mono ?_
  rintro e w4 ⟨rfl, K4, h4⟩
  have HX4 : Hid (Herd w w4 [(K4, tw g Q), (Kx, tx gx r), (K2, ti (.slice (some ⟨w1.heap.size, 0, none⟩) l.length l.length) l), (K3, ti (.slice (some ⟨w2.heap.size, 0, none⟩) d.length d.length) d)]) := h4
  have HZW := hide (hzwrite HX4.out 1 rfl _ _ l d (H1.out.below h4.bel) (H2.out.below h4.bel) HX.out (by have := HRS.out; omega))
  rw [← HQ.out, ← HE.out] at HZW
  clear h4 HWR HX3 HX2 HX1
  go_wp2_with fail
  refine HZW.out.mono ?_
  rintro e w5 ⟨rfl, K5, h5⟩
  have HX5 : Hid (Herd w w5 [(K4, tw g Q), (K5, tx gx Q), (K2, ti (.slice (some ⟨w1.heap.size, 0, none⟩) l.length l.length) l), (K3, ti (.slice (some ⟨w2.heap.size, 0, none⟩) d.length d.length) d)]) := h5
  have HQ1 := hide (isame_any _ _ l l w5 (HX5.out.isi 2 rfl) (H1.out.below h5.bel))
  rw [show eqI l l = true by simp [eqI]] at HQ1
  clear h5 HZW HX4
  go_wp2_with fail
  refine (nnum_any w5 E).mono ?_
  rintro e w9 ⟨rfl, hw9⟩
  rw [hw9]
  clear hw9
  go_wp2_with fail
  refine HQ1.out.mono ?_
  rintro e w6 ⟨rfl, n6, hw6⟩
  have HX6 := hide (HX5.out.drewN n6)
  rw [← hw6] at HX6
  have HQ2 := hide (isame_any _ _ d d w6 (HX6.out.isi 3 rfl) (H2.out.below HX6.out.bel))
  rw [show eqI d d = true by simp [eqI]] at HQ2
  clear hw6 HX5
  go_wp2_with fail
  refine HQ2.out.mono ?_
  rintro e w7 ⟨rfl, n7, hw7⟩
  have HX7 := hide (HX6.out.drewN n7)
  rw [← hw7] at HX7
  have HL1 := hide (hlen HX7.out 0 rfl)
  clear hw7 HX6
  go_wp2_with fail
  refine HL1.out.mono ?_
  rintro e w8 ⟨rfl, h8⟩
  have HX8 := hide h8
  have HL2 := hide (hxlen HX8.out 1 rfl)
  clear h8 HX7
  go_wp2_with fail
  refine HL2.out.mono ?_
  rintro e w9 ⟨rfl, h9⟩
  have HX9 := hide h9
  have HBS := hide (hbytes HX9.out 0 rfl)
  clear h9 HX8
  obtain ⟨P, HP⟩ : ∃ P, Hid (P = pack Q) := ⟨_, rfl⟩
  rw [← HP.out] at HBS
  go_wp2_with fail
  refine HBS.out.mono ?_
  rintro e w10 ⟨aA, cA, KA, rfl, h10⟩
  have HXA : Hid (Herd w w10 [(K4, tw g Q), (K5, tx gx Q), (K2, ti (.slice (some ⟨w1.heap.size, 0, none⟩) l.length l.length) l), (K3, ti (.slice (some ⟨w2.heap.size, 0, none⟩) d.length d.length) d), (KA, tl (.slice aA P.length cA) P)]) := h10
  have HBX := hide (hxbytes HXA.out 1 rfl)
  rw [← HP.out] at HBX
  clear h10 HX9
  go_wp2_with fail
  refine HBX.out.mono ?_
  rintro e w11 ⟨aB, cB, KB, rfl, h11⟩
  have HXB : Hid (Herd w w11 [(K4, tw g Q), (K5, tx gx Q), (K2, ti (.slice (some ⟨w1.heap.size, 0, none⟩) l.length l.length) l), (K3, ti (.slice (some ⟨w2.heap.size, 0, none⟩) d.length d.length) d), (KA, tl (.slice aA P.length cA) P), (KB, tl (.slice aB P.length cB) P)]) := h11
  have HSM := hide (same_any _ _ P P w11 (HXB.out.sb 4 rfl) (HXB.out.sb 5 rfl))
  rw [eqB_refl] at HSM
  clear h11 HXA
  go_wp2_with fail
  refine HSM.out.mono ?_
  rintro e w12 ⟨rfl, n12, hw12⟩
  have HBD := hide HXB.out.bel
  have HBE : Hid (Below w.heap.size w w12) := by rw [hw12]; exact hide (below_drewN HBD.out n12)
  clear hw12
  go_wp2_with fail
  refine (write_nil _ _ w12).mono ?_
  rintro e w13 ⟨rfl, hw13⟩
  rw [hw13]
  clear hw13
  go_wp2_with fail
  refine (nnum_any w12 1).mono ?_
  rintro e w14 ⟨rfl, hw14⟩
  rw [hw14]
  clear hw14
  go_wp2
  go_ret
  exact ⟨rfl, HBE.out⟩
end Go.Proofs.YtiabhmdefaabgacGreatDoor

