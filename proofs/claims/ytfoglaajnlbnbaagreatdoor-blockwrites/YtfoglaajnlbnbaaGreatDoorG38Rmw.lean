import Derived.Test.YtfoglaajnlbnbaaGreatDoorG36Zpt
import Derived.Test.YtfoglaajnlbnbaaGreatDoorG37Mx3
import Derived.Test.YtfoglaajnlbnbaaGreatDoorG28Ms5
import Derived.Deep.RegionHeld3
import Derived.Test.YtfoglaajnlbnbaaGreatDoorG32Wbz
import Derived.Test.YtfoglaajnlbnbaaGreatDoorG18Lsd
import Derived.Test.YtfoglaajnlbnbaaGreatDoorG29Wr5
import Derived.Test.YtfoglaajnlbnbaaGreatDoorG03Lsk
import Derived.Test.YtfoglaajnlbnbaaGreatDoorG04OpenA
namespace Go.Proofs.YtfoglaajnlbnbaaGreatDoor
open Go.RowKit Go.Maps
set_option maxRecDepth 20000
set_option linter.unusedVariables false

set_option maxHeartbeats 8000000 in
theorem hzwrite {W w : World} {xs : List ((Nat → Nat) × Thing)} (H : Herd W w xs) (i : Nat) {K : Nat → Nat} {g : Nat} {row : List Int} (hi : xs[i]? = some (K, tx g row)) (v1 v2 : Value) (l d : List Int) (s1 : SI w v1 l) (s2 : SI w v2 d) (X : Xodr W) (hrow : row.length ≤ 100) :
    Calls Tryz.prog 51 #[.pointer (some ⟨g, 0, none⟩), v1, v2] w fun e w' => e = .returned (.int .i64 (mkE l d)) ∧ ∃ K', Herd W w' (xs.set i (K', tx g (if mkE l d = 0 then row ++ mkB l d else row))) := by
  have HI := hide hi
  have HH := hide H
  have HX := hide X
  have HIL := hide (List.getElem?_eq_some_iff.1 hi).1
  have HMK := hide (xmake_any v1 v2 l d w s1 s2 (X.mono H.bel))
  obtain ⟨a1, c1, rfl, -, -⟩ := s1.open
  obtain ⟨a2, c2, rfl, -, -⟩ := s2.open
  clear H hi s1 s2 X
  go_enter Tryz.func51, Tryz.ntmps51
  go_wp2_with fail
  refine HMK.out.mono ?_
  rintro e w1 ⟨hyn, b1⟩
  rcases hyn with ⟨hne, hno⟩ | ⟨h0, vL, vD, vC, vR, rfl, hmk⟩
  · unfold MkNo at hno
    subst hno
    have g0 : (mkE l d != 0) = true := by simpa using hne
    have HN := hide (((HH.out.below b1).below ((Below.refl _ _).alloc (Nat.le_refl _) (.cells #[.slice none 0 0, .slice none 0 0, .slice none 0 0, .slice none 0 0, .int .i64 0] 129))).same HI.out)
    have HNE := hide hne
    clear b1 hne
    go_wp2
    go_ret
    (try rw [if_neg HNE.out])
    exact ⟨rfl, K, HN.out⟩
  · obtain ⟨f1, f2, f3, f4, f5, f6, f7, f8, f9, f10⟩ := mk_facts h0
    obtain ⟨k1, k2, k3, k4, k5⟩ := mk_small h0
    have HB : Hid (mkB l d = hdB (mkL l) (mkD d) (mkC l d) (mkR l d)) := rfl
    have HM0 := hide h0
    obtain ⟨L, HL⟩ : ∃ L, Hid (L = mkL l) := ⟨_, rfl⟩
    obtain ⟨D, HD⟩ : ∃ D, Hid (D = mkD d) := ⟨_, rfl⟩
    obtain ⟨C, HC⟩ : ∃ C, Hid (C = mkC l d) := ⟨_, rfl⟩
    obtain ⟨R, HR⟩ : ∃ R, Hid (R = mkR l d) := ⟨_, rfl⟩
    obtain ⟨Z, HZ⟩ : ∃ Z, Hid (Z = mkZ l d) := ⟨_, rfl⟩
    rw [← HL.out, ← HD.out, ← HC.out, ← HR.out] at hmk HB
    rw [← HZ.out]
    rw [← HL.out] at f3 f4
    rw [← HD.out] at f5 f6
    rw [← HC.out] at k1 k2 k3 k5
    rw [← HR.out] at k3 f8 f9
    obtain ⟨aL, cL, rfl⟩ := hmk.l.shape
    obtain ⟨aD, cD, rfl⟩ := hmk.d.shape
    obtain ⟨aC, cC, rfl⟩ := hmk.c.shape
    obtain ⟨aR, cR, rfl, -, -⟩ := hmk.r.shape
    rw [k1] at hmk ⊢
    obtain ⟨KC, hcr⟩ := HH.out.crs b1 hmk.c hmk.r
    obtain ⟨wb, hwb⟩ : ∃ wb, w1.alloc (.cells #[.slice aL L.length cL, .slice aD D.length cD, .slice aC 19 cC, .slice aR R.length cR, .int .i64 Z] 129) = wb := ⟨_, rfl⟩
    have hb0 : Below w1.heap.size w1 wb := by rw [← hwb]; exact (Below.refl _ _).alloc (Nat.le_refl _) _
    have hbx : Hbox wb w1.heap.size (.slice aL L.length cL) (.slice aD D.length cD) (.slice aC 19 cC) (.slice aR R.length cR) (.int .i64 Z) := by rw [← hwb]; exact heap_alloc_new w1 _
    obtain ⟨x0, x1, x2, x3, x4⟩ := hbx.cells
    obtain ⟨ob, hob⟩ : ∃ ob : Obj, ob = .cells #[.slice aL L.length cL, .slice aD D.length cD, .slice aC 19 cC, .slice aR R.length cR, .int .i64 Z] 129 (0, 0) := ⟨_, rfl⟩
    have hbo : wb.heap[w1.heap.size]? = some ob := by rw [hob, ← hwb]; exact heap_alloc_new w1 _
    obtain ⟨KB, hKB⟩ : ∃ KB : Nat → Nat, KB = fun k => if k = w1.heap.size then 1 else 0 := ⟨_, rfl⟩
    have hcb : Herd W wb ((xs ++ [(KC, tcr (.slice aC 19 cC) C (.slice aR R.length cR) R)]) ++ [(KB, tb w1.heap.size ob)]) := by
      refine hcr.push hb0 (x := tb w1.heap.size ob) ⟨hbo, by simp [hKB], fun k hk => ?_⟩ fun k hk => ?_
      · by_cases e : k = w1.heap.size
        · rw [e, ← hwb]; simp
        · simp [hKB, e] at hk
      · by_cases e : k = w1.heap.size
        · omega
        · simp [hKB, e] at hk
    have hx2 := hcb.drewN 1
    have HPT := hide (hzput hx2 i xs.length (by have := HIL.out; omega) aC aR cC cR L D C R (get_front (get_front HI.out)) (get_front (get_last _ _)) HX.out k1 k2 f8 k3 (dc_bk k5) f9 f3 f4 f5 f6 hrow)
    have HPT2 : Hid (Calls Tryz.prog 85 #[.pointer (some ⟨g, 0, none⟩), .int .i64 L.length, .int .i64 D.length, .slice aC 19 cC, .int .i64 (wrt C : Nat), .slice aR R.length cR] wb.drew fun e w' => e = .returned (.int .i64 0) ∧ (∃ K', Herd W w' (xs.set i (K', tx g (row ++ hdB L D C R)))) ∧ w'.cell? ⟨w1.heap.size, 0, none⟩ = some (.slice aL L.length cL) ∧ w'.cell? ⟨w1.heap.size, 1, none⟩ = some (.slice aD D.length cD) ∧ w'.cell? ⟨w1.heap.size, 2, none⟩ = some (.slice aC 19 cC) ∧ w'.cell? ⟨w1.heap.size, 3, none⟩ = some (.slice aR R.length cR)) := HPT.out.mono fun e w' ⟨he, K', h6⟩ => by
      have hil := HIL.out
      have hb6 : (tb w1.heap.size ob).P w' KB := h6.rep (xs.length + 1) (KB, tb w1.heap.size ob) (by rw [List.getElem?_set_ne (by omega)]; simp)
      have hh : w'.heap[w1.heap.size]? = some (.cells #[.slice aL L.length cL, .slice aD D.length cD, .slice aC 19 cC, .slice aR R.length cR, .int .i64 Z] 129 (0, 0)) := by rw [← hob]; exact hb6.1
      have hc : ∀ (q : Nat) (u : Value), (#[.slice aL L.length cL, .slice aD D.length cD, .slice aC 19 cC, .slice aR R.length cR, .int .i64 Z] : Array Value)[q]? = some u → w'.cell? ⟨w1.heap.size, q, none⟩ = some u := fun q u hq => by
        unfold World.cell?
        simp only [hh]
        exact hq
      refine ⟨he, ⟨K', ?_⟩, hc 0 _ rfl, hc 1 _ rfl, hc 2 _ rfl, hc 3 _ rfl⟩
      rw [setf (get_front HI.out), setf HI.out] at h6
      exact h6.front.front
    have hsc : SI wb.drew (.slice aC 19 cC) C := (hx2.crc xs.length (get_front (get_last _ _))).1
    have HWT0 := hide (xwritten_any _ C wb.drew hsc (HX.out.mono hx2.bel) k1 (fun s => (k2 s).1))
    have HWB := hide hwb
    clear hwb hb0 hbx hcr hcb hbo hob hKB hmk b1 h0 f1 f2 f3 f4 f5 f6 f7 f8 f9 f10 k1 k2 k3 k4 k5 HPT hx2 hsc HMK
    go_wp2
    rw [HWB.out]
    go_region_held3 (fun w' => w'.cell? ⟨w1.heap.size, 0, none⟩ = some (.slice aL L.length cL) ∧ w'.cell? ⟨w1.heap.size, 1, none⟩ = some (.slice aD D.length cD) ∧ w'.cell? ⟨w1.heap.size, 2, none⟩ = some (.slice aC 19 cC) ∧ w'.cell? ⟨w1.heap.size, 3, none⟩ = some (.slice aR R.length cR)) (first | exact ⟨x0, x1, x2, x3⟩ | exact HCE.out) (first
      | (go_at_call 86
         with_reducible refine HWT0.out.mono ?_
         rintro e w5 ⟨rfl, hw5⟩
         subst hw5)
      | (go_at_call 85
         with_reducible refine HPT2.out.mono ?_
         rintro e w6 ⟨rfl, ⟨K6, h6⟩, hce⟩
         have HX6 := hide h6
         have HCE := hide hce
         clear h6 hce))
    all_goals
      have HF : Hid (Herd W w6 (xs.set i (K6, tx g (row ++ mkB l d)))) := by
        have h := HX6.out
        rw [← HB.out] at h
        exact hide h
      clear HX6
      go_wp2
      go_ret
      (try rw [HM0.out])
      exact ⟨rfl, K6, HF.out⟩
end Go.Proofs.YtfoglaajnlbnbaaGreatDoor

namespace Go.Proofs.YtfoglaajnlbnbaaGreatDoor
open Go.RowKit Go.Maps
set_option maxRecDepth 20000
set_option linter.unusedVariables false
set_option linter.unusedSimpArgs false

theorem hxalign10 {W w : World} {xs : List ((Nat → Nat) × Thing)} (H : Herd W w xs) (i : Nat) {K : Nat → Nat} {g : Nat} {row : List Int} (hi : xs[i]? = some (K, tx g row)) :
    Calls Tryz.prog 76 #[.pointer (some ⟨g, 0, none⟩)] w fun e w' => e = .returned (.tuple #[]) ∧ ∃ K', Herd W w' (xs.set i (K', tx g (pad row))) := by
  have hw : Wx w K g row := H.rep i _ hi
  refine (xalign_any hw).mono ?_
  rintro e w1 ⟨rfl, K', h1, h2⟩
  exact ⟨rfl, K', H.op i hi (x' := tx g (pad row)) h1 h2⟩

theorem hxraw10 {W w : World} {xs : List ((Nat → Nat) × Thing)} (H : Herd W w xs) (i : Nat) {K : Nat → Nat} {g : Nat} {row : List Int} (hi : xs[i]? = some (K, tx g row)) (u : Value) (l : List Int) (hB : Byt l) (hS : ∀ wr K1, Fr K K1 w wr → SB wr u l) (hl : l.length ≤ 140737488351232) :
    Calls Tryz.prog 77 #[.pointer (some ⟨g, 0, none⟩), u] w fun e w' => e = .returned (.int .i64 (rawE row l)) ∧ ∃ K', Herd W w' (xs.set i (K', tx g (rawRow row l))) := by
  have hw : Wx w K g row := H.rep i _ hi
  refine (xraw_any hw u l hB hS hl).mono ?_
  rintro e w1 ⟨rfl, K', h1, h2⟩
  exact ⟨rfl, K', H.op i hi (x' := tx g (rawRow row l)) h1 h2⟩

theorem pad10 {row : List Int} {a : Nat} (h : row.length = a + 3) : pad row = row ++ bts 0 ((13 - (a : Int) % 8) % 8).toNat := by
  unfold pad
  rw [bts_zero]
  congr 2
  omega

set_option maxHeartbeats 4000000 in
theorem hcoded {W w : World} {xs : List ((Nat → Nat) × Thing)} {K : Nat → Nat} {g : Nat} {row : List Int} (H : Herd W w (xs ++ [(K, tx g row)])) (v : Value) (R : List Tk) (hR : Rdy W xs v R) (a1 a2 : Option Addr) (n1 c1 n2 c2 : Nat) (P Q : List Int) (sp : SI w (.slice a1 n1 c1) P) (sq : SI w (.slice a2 n2 c2) Q)
    (hn : R.length ≤ 65535) (hs : ∀ t ∈ R, Snd t ∧ Bt t) (hP : ∀ i, 0 ≤ P.getD i 0 ∧ P.getD i 0 ≤ 15) (hQ : ∀ i, 0 ≤ Q.getD i 0 ∧ Q.getD i 0 ≤ 15) (bP : bkE P = 0) (bQ : bkE Q = 0) (hW : Wds P Q R) (hr : row.length ≤ 20000) :
    Calls Tryz.prog 47 #[.pointer (some ⟨g, 0, none⟩), v, .slice a1 n1 c1, .slice a2 n2 c2] w fun e w' => e = .returned (.int .i64 0) ∧ ∃ K', Herd W w' (xs ++ [(K', tx g (row ++ (bodB P Q R ++ wb P 256)))]) := by
  have HRD := hide hR
  have HSN := hide hs
  have HPP := hide hP
  have HQQ := hide hQ
  have HBP := hide bP
  have HBQ := hide bQ
  have HWD := hide hW
  have HLP := hide (bkE_zero bP).1
  have HLQ := hide (bkE_zero bQ).1
  have HSP := hide sp
  have HSQ := hide sq
  have HH := hide H
  obtain ⟨ao, cap, rfl, hlc, hcm⟩ := (hR w _ H).open
  clear hR hs hP hQ bP bQ hW sp sq H
  have HNE := hide (xnewEncoder_any _ P w HSP.out)
  go_enter Tryz.func47, Tryz.ntmps47
  go_wp2_with fail
  refine HNE.out.mono ?_
  rintro e w1 ⟨b1, hen | ⟨-, e1, K1, rfl, hE1, hK1⟩⟩
  · exact absurd HBP.out hen.1
  have HH1 := hide (HH.out.push b1 (x := tex e1 P) hE1 hK1)
  have HNE2 := hide (xnewEncoder_any _ Q w1 (HSQ.out.below b1))
  clear b1 hE1 hK1 HNE
  go_wp2_with fail
  refine HNE2.out.mono ?_
  rintro e w2 ⟨b2, hen | ⟨-, e2, K2, rfl, hE2, hK2⟩⟩
  · exact absurd HBQ.out hen.1
  have HT0 : Hid (∃ K', Herd W w2 (xs ++ [(K', tx g (row ++ bodB P Q (R.take 0))), (K1, tex e1 P), (K2, tex e2 Q)])) := by
    refine ⟨K, ?_⟩
    have h := HH1.out.push b2 (x := tex e2 Q) hE2 hK2
    simpa [bodB] using h
  clear b2 hE2 hK2 HNE2 HH1 HSP HSQ HH
  go_wp2
  go_loopw [13] (fun t wr => ∃ k : Nat, k ≤ R.length ∧ t = .int .i64 (k : Int) ∧ Hid (∃ K', Herd W wr (xs ++ [(K', tx g (row ++ bodB P Q (R.take k))), (K1, tex e1 P), (K2, tex e2 Q)]))) (fun t _ => R.length - (intOf t).toNat)
  case atStart => exact ⟨0, Nat.zero_le _, rfl, HT0⟩
  case round =>
    obtain ⟨k, hk, rfl, HTk⟩ := hrel
    clear HT0
    obtain ⟨K', hh⟩ := HTk.out
    have HHk := hide hh
    clear hh HTk
    by_cases hlt : k < R.length
    · have hlt' : (k : Int) < (R.length : Int) := by omega
      obtain ⟨b, o, hv, x0, x1, x2⟩ := (HRD.out wr _ HHk.out).get (Below.refl _ _) hlt
      subst hv
      have hmem : R.getD k tk0 ∈ R := by rw [List.getD_eq_getElem?_getD, List.getElem?_eq_getElem hlt]; exact List.getElem_mem hlt
      have hsn := HSN.out _ hmem
      have HWT := hide (HWD.out.2 _ hmem)
      have HSC : Hid (bodB P Q (R.take (k + 1)) = bodB P Q (R.take k) ++ tokB P Q (R.getD k tk0)) := by show _ = _; rw [snd_take hlt, bod_snoc]
      have HLE : Hid ((bodB P Q (R.take k)).length ≤ 48 * 65535) := by
        show _ ≤ _
        have := bod_le HPP.out HQQ.out (R.take k) (fun t ht => HSN.out t (List.mem_of_mem_take ht))
        rw [List.length_take] at this
        omega
      obtain ⟨⟨t1, t2, t3⟩, ht⟩ : ∃ t, R.getD k tk0 = t := ⟨_, rfl⟩
      rw [ht] at x0 x1 x2 hsn HWT HSC
      simp only at x0 x1 x2
      clear hmem ht
      obtain ⟨ro, HRO⟩ : ∃ ro, Hid (ro = row ++ bodB P Q (R.take k)) := ⟨_, rfl⟩
      have hrol : ro.length ≤ 3200000 := by rw [HRO.out, List.length_append]; have := HLE.out; omega
      rw [← HRO.out] at HHk
      obtain ⟨w6, hw6⟩ : ∃ w6, wr.alloc (.cells #[.int .i64 t1, .int .i64 t2, .int .u8 t3] 54) = w6 := ⟨_, rfl⟩
      have HN6 : Hid (w6.heap[wr.heap.size]? = some (.cells #[.int .i64 t1, .int .i64 t2, .int .u8 t3] 54 (0, 0))) := by rw [← hw6]; exact heap_alloc_new wr _
      obtain ⟨Kq, h6⟩ := HHk.out.box1 (.cells #[.int .i64 t1, .int .i64 t2, .int .u8 t3] 54)
      rw [hw6] at h6
      obtain ⟨q, hq⟩ : ∃ q, wr.heap.size = q := ⟨_, rfl⟩
      rw [hq] at HN6 h6
      have HH6 : Hid (Herd W w6 (xs ++ [(K', tx g ro), (K1, tex e1 P), (K2, tex e2 Q), (Kq, tb q (.cells #[.int .i64 t1, .int .i64 t2, .int .u8 t3] 54))])) := by
        show Herd _ _ _
        simpa using h6
      clear h6 HHk
      by_cases h0 : t1 = 0
      · obtain ⟨n3, rfl⟩ := Int.eq_ofNat_of_zero_le hsn.2.1
        have b3 : (n3 : Int) < 256 := hsn.2.2
        have e1' : litS (t1, t2, (n3 : Int)) = n3 := by unfold litS; rw [if_pos h0]; simp
        have e2' : tokB P Q (t1, t2, (n3 : Int)) = wb P n3 := by unfold tokB; rw [if_pos h0, e1']
        have hnl := HWT.out.1
        rw [e1'] at hnl
        have HEP := hide (ep_ok hnl (by omega) HLP.out (row := ro))
        have HPT : Hid (Calls Tryz.prog 79 #[.pointer (some ⟨e1, 0, none⟩), .pointer (some ⟨g, 0, none⟩), .int .i64 (n3 : Int)] w6 fun e w' => ∃ x, e = .returned (.int .i64 x) ∧ ∃ K', Herd W w' (xs ++ [(K', tx g (row ++ bodB P Q (R.take (k + 1)))), (K1, tex e1 P), (K2, tex e2 Q)])) := by
          refine (hxeput HH6.out (xs.length + 1) xs.length (at_l1 _ _ _ _) (at_l0 _ _ _) (n3 : Int) (by omega) (by omega)).mono ?_
          rintro e w7 ⟨rfl, K7, h7⟩
          rw [set_l0, HEP.out.2, Int.toNat_natCast] at h7
          refine ⟨_, rfl, K7, ?_⟩
          rw [HSC.out, e2', ← List.append_assoc, ← HRO.out]
          have h8 : Herd W w7 ((xs ++ [(K7, tx g (ro ++ wb P n3)), (K1, tex e1 P), (K2, tex e2 Q)]) ++ [(Kq, tb q (.cells #[.int .i64 t1, .int .i64 t2, .int .u8 (n3 : Int)] 54))]) := by simpa using h7
          exact h8.front
        have y0 : w6.cell? ⟨q, 0, none⟩ = some (.int .i64 t1) := by unfold World.cell?; rw [HN6.out]; rfl
        have y2 : w6.cell? ⟨q, 2, none⟩ = some (.int .u8 (n3 : Int)) := by unfold World.cell?; rw [HN6.out]; rfl
        rw [h0] at y0
        clear hnl HEP e1' e2' hsn HWT HN6 HH6 h0
        go_wp2_with fail
        refine HPT.out.mono ?_
        rintro e w7 ⟨x7, rfl, K7, h7⟩
        have HN := hide h7
        clear h7 HPT y0 y2
        go_wp2
        go_roundw
        case rel => exact ⟨k + 1, by omega, by go_num, K7, HN.out⟩
        case measure => simp [intOf]; omega
      · have hq3 : 3 ≤ t1 ∧ t1 ≤ 258 ∧ 1 ≤ t2 ∧ t2 ≤ 32768 ∧ t3 = 0 := by
          have := hsn.1
          unfold Snd at this
          rw [if_neg h0] at this
          exact this
        obtain ⟨g1, g2, g3, g4, g5⟩ := hq3
        obtain ⟨z1, rfl⟩ := Int.eq_ofNat_of_zero_le (show 0 ≤ t1 by omega)
        obtain ⟨z2, rfl⟩ := Int.eq_ofNat_of_zero_le (show 0 ≤ t2 by omega)
        have e1' : litS ((z1 : Int), (z2 : Int), t3) = 257 + lsy z1 := by unfold litS; rw [if_neg h0]; simp
        have hls : Lsy z1 (lsy z1) := lsy_spec (by omega)
        have hds : Dsy z2 (dsy z2) := dsy_spec (by omega)
        have hn1 := HWT.out.1
        rw [e1'] at hn1
        have hn2 := HWT.out.2 h0
        simp only [Int.toNat_natCast] at hn2
        have f1 := (lfLe _ hls.1).1
        have f2 := (dfLe _ hds.1).1
        have p1 := lsy_bitsW hls (by omega)
        have p2 := dsy_bitsW hds (by omega)
        have q1 := hls.1
        have q2 := hds.1
        have HTB : Hid (tokB P Q ((z1 : Int), (z2 : Int), t3) = wb P (257 + lsy z1) ++ bts ((z1 - LB (lsy z1) : Nat) : Int) (LF (lsy z1)) ++ (wb Q (dsy z2) ++ bts ((z2 - DB (dsy z2) : Nat) : Int) (DF (dsy z2)))) := by
          show _ = _
          unfold tokB
          rw [if_neg h0, e1']
          simp only [Int.toNat_natCast]
          rw [show (z1 : Int) - (LB (lsy z1) : Int) = ((z1 - LB (lsy z1) : Nat) : Int) by have := hls.2.1; omega, show (z2 : Int) - (DB (dsy z2) : Int) = ((z2 - DB (dsy z2) : Nat) : Int) by have := hds.2.1; omega]
        have HLS := hide (fun (wx : World) => xlsymbol_any z1 (lsy z1) wx hls (by omega) (by omega))
        have HDS := hide (fun (wx : World) => xdsymbol_any z2 (dsy z2) wx hds (by omega) (by omega))
        obtain ⟨A, hA⟩ : ∃ A, 257 + lsy z1 = A := ⟨_, rfl⟩
        obtain ⟨F1, hF1⟩ : ∃ A, LF (lsy z1) = A := ⟨_, rfl⟩
        obtain ⟨X1, hX1⟩ : ∃ A, z1 - LB (lsy z1) = A := ⟨_, rfl⟩
        obtain ⟨F2, hF2⟩ : ∃ A, DF (dsy z2) = A := ⟨_, rfl⟩
        obtain ⟨X2, hX2⟩ : ∃ A, z2 - DB (dsy z2) = A := ⟨_, rfl⟩
        obtain ⟨B, hB⟩ : ∃ A, dsy z2 = A := ⟨_, rfl⟩
        rw [hF1] at f1
        rw [hF2] at f2
        rw [hX1, hF1] at p1
        rw [hX2, hF2] at p2
        rw [hA, hF1, hX1] at HLS
        rw [hF2, hX2, hB] at HDS
        rw [hA, hF1, hX1, hF2, hX2, hB] at HTB
        have hA2 : A < 286 := by omega
        have hB2 : B < 30 := by rw [← hB]; exact q2
        rw [hB] at hn2
        have hn1' : lnI P (A : Int) ≠ 0 := by rw [← hA]; exact hn1
        have p1' : X1 < 4294967296 := Nat.lt_of_lt_of_le p1 (Nat.le_trans (Nat.pow_le_pow_right (n := 2) (by decide) f1) (by decide))
        have p2' : X2 < 4294967296 := Nat.lt_of_lt_of_le p2 (Nat.le_trans (Nat.pow_le_pow_right (n := 2) (by decide) f2) (by decide))
        have wx1 : IntKind.u32.wrap (X1 : Int) = (X1 : Int) := by rw [IntKind.wrap_u32]; omega
        have wx2 : IntKind.u32.wrap (X2 : Int) = (X2 : Int) := by rw [IntKind.wrap_u32]; omega
        have hbl : (ro ++ wb P A ++ bts (X1 : Int) F1 ++ wb Q B).length ≤ 3210000 := by
          simp only [List.length_append, wb_len, length_bts]
          have h1 := (HLP.out.ln A).2
          have h2 := (HLQ.out.ln B).2
          omega
        have HBL := hide hbl
        have HW1 : Hid (∀ (wx : World) (Kx : Nat → Nat), Herd W wx (xs ++ [(Kx, tx g ro), (K1, tex e1 P), (K2, tex e2 Q), (Kq, tb q (.cells #[.int .i64 (z1 : Int), .int .i64 (z2 : Int), .int .u8 t3] 54))]) → Calls Tryz.prog 79 #[.pointer (some ⟨e1, 0, none⟩), .pointer (some ⟨g, 0, none⟩), .int .i64 (A : Int)] wx fun e w' => ∃ x, e = .returned (.int .i64 x) ∧ ∃ K', Herd W w' (xs ++ [(K', tx g (ro ++ wb P A)), (K1, tex e1 P), (K2, tex e2 Q), (Kq, tb q (.cells #[.int .i64 (z1 : Int), .int .i64 (z2 : Int), .int .u8 t3] 54))])) := fun wx Kx hx => by
          refine (hxeput hx (xs.length + 1) xs.length (at_l1 _ _ _ _) (at_l0 _ _ _) (A : Int) (by omega) (by omega)).mono ?_
          rintro e w7 ⟨rfl, K7, h7⟩
          rw [set_l0, (ep_ok hn1' (by omega) HLP.out (row := ro)).2, Int.toNat_natCast] at h7
          exact ⟨_, rfl, K7, h7⟩
        have HW2 : Hid (∀ (wx : World) (Kx : Nat → Nat), Herd W wx (xs ++ [(Kx, tx g (ro ++ wb P A)), (K1, tex e1 P), (K2, tex e2 Q), (Kq, tb q (.cells #[.int .i64 (z1 : Int), .int .i64 (z2 : Int), .int .u8 t3] 54))]) → Calls Tryz.prog 18 #[.pointer (some ⟨g, 0, none⟩), .int .u32 (X1 : Int), .int .i64 (F1 : Int)] wx fun e w' => ∃ x, e = .returned (.int .i64 x) ∧ ∃ K', Herd W w' (xs ++ [(K', tx g (ro ++ wb P A ++ bts (X1 : Int) F1)), (K1, tex e1 P), (K2, tex e2 Q), (Kq, tb q (.cells #[.int .i64 (z1 : Int), .int .i64 (z2 : Int), .int .u8 t3] 54))])) := fun wx Kx hx => by
          refine (hxput hx xs.length (at_l0 _ _ _) (X1 : Int) (F1 : Int) (by omega) (by omega)).mono ?_
          rintro e w7 ⟨rfl, K7, h7⟩
          rw [set_l0, put_is (by omega) (by omega) (by rw [Int.toNat_natCast]; exact_mod_cast p1) (by have := HBL.out; simp only [List.length_append, wb_len, length_bts] at this ⊢; omega), Int.toNat_natCast] at h7
          exact ⟨_, rfl, K7, h7⟩
        have HW3 : Hid (∀ (wx : World) (Kx : Nat → Nat), Herd W wx (xs ++ [(Kx, tx g (ro ++ wb P A ++ bts (X1 : Int) F1)), (K1, tex e1 P), (K2, tex e2 Q), (Kq, tb q (.cells #[.int .i64 (z1 : Int), .int .i64 (z2 : Int), .int .u8 t3] 54))]) → Calls Tryz.prog 79 #[.pointer (some ⟨e2, 0, none⟩), .pointer (some ⟨g, 0, none⟩), .int .i64 (B : Int)] wx fun e w' => ∃ x, e = .returned (.int .i64 x) ∧ ∃ K', Herd W w' (xs ++ [(K', tx g (ro ++ wb P A ++ bts (X1 : Int) F1 ++ wb Q B)), (K1, tex e1 P), (K2, tex e2 Q), (Kq, tb q (.cells #[.int .i64 (z1 : Int), .int .i64 (z2 : Int), .int .u8 t3] 54))])) := fun wx Kx hx => by
          refine (hxeput hx (xs.length + 2) xs.length (at_l2 _ _ _ _ _) (at_l0 _ _ _) (B : Int) (by omega) (by omega)).mono ?_
          rintro e w7 ⟨rfl, K7, h7⟩
          rw [set_l0, (ep_ok hn2 (by have := HBL.out; simp only [List.length_append, wb_len, length_bts] at this ⊢; omega) HLQ.out).2, Int.toNat_natCast] at h7
          exact ⟨_, rfl, K7, h7⟩
        have HW4 : Hid (∀ (wx : World) (Kx : Nat → Nat), Herd W wx (xs ++ [(Kx, tx g (ro ++ wb P A ++ bts (X1 : Int) F1 ++ wb Q B)), (K1, tex e1 P), (K2, tex e2 Q), (Kq, tb q (.cells #[.int .i64 (z1 : Int), .int .i64 (z2 : Int), .int .u8 t3] 54))]) → Calls Tryz.prog 18 #[.pointer (some ⟨g, 0, none⟩), .int .u32 (X2 : Int), .int .i64 (F2 : Int)] wx fun e w' => ∃ x, e = .returned (.int .i64 x) ∧ ∃ K', Herd W w' (xs ++ [(K', tx g (row ++ bodB P Q (R.take (k + 1)))), (K1, tex e1 P), (K2, tex e2 Q)])) := fun wx Kx hx => by
          refine (hxput hx xs.length (at_l0 _ _ _) (X2 : Int) (F2 : Int) (by omega) (by omega)).mono ?_
          rintro e w7 ⟨rfl, K7, h7⟩
          rw [set_l0, put_is (by omega) (by omega) (by rw [Int.toNat_natCast]; exact_mod_cast p2) (by have := HBL.out; omega), Int.toNat_natCast] at h7
          refine ⟨_, rfl, K7, ?_⟩
          have h8 : Herd W w7 ((xs ++ [(K7, tx g (ro ++ wb P A ++ bts (X1 : Int) F1 ++ wb Q B ++ bts (X2 : Int) F2)), (K1, tex e1 P), (K2, tex e2 Q)]) ++ [(Kq, tb q (.cells #[.int .i64 (z1 : Int), .int .i64 (z2 : Int), .int .u8 t3] 54))]) := by simpa using h7
          have h9 := h8.front
          rw [HSC.out, HTB.out, ← List.append_assoc, ← HRO.out]
          simpa only [List.append_assoc] using h9
        have y0 : w6.cell? ⟨q, 0, none⟩ = some (.int .i64 (z1 : Int)) := by unfold World.cell?; rw [HN6.out]; rfl
        have y1 : w6.cell? ⟨q, 1, none⟩ = some (.int .i64 (z2 : Int)) := by unfold World.cell?; rw [HN6.out]; rfl
        have HYY : Hid (∀ (wx : World) (Kx : Nat → Nat) (rx : List Int), Herd W wx (xs ++ [(Kx, tx g rx), (K1, tex e1 P), (K2, tex e2 Q), (Kq, tb q (.cells #[.int .i64 (z1 : Int), .int .i64 (z2 : Int), .int .u8 t3] 54))]) → wx.cell? ⟨q, 1, none⟩ = some (.int .i64 (z2 : Int))) := fun wx Kx rx hx => by
          have h8 : Herd W wx ((xs ++ [(Kx, tx g rx), (K1, tex e1 P), (K2, tex e2 Q)]) ++ [(Kq, tb q (.cells #[.int .i64 (z1 : Int), .int .i64 (z2 : Int), .int .u8 t3] 54))]) := by simpa using hx
          unfold World.cell?; rw [h8.tbs]; rfl
        have zz0 : ((z1 : Int) == 0) = false := beq_eq_false_iff_ne.2 (by omega)
        have zz1 : ¬ (z1 : Int) = 0 := by omega
        clear hsn HWT e1' hls hds hA hF1 hX1 hF2 hX2 hB hn1 hn2 hn1' p1 p2 q1 q2 hbl h0 g1 g2 g3 g4 g5 HTB HN6 y1
        go_wp2_with fail
        refine (HLS.out w6).mono ?_
        rintro e w7 ⟨rfl, hw7⟩
        rw [hw7]
        have HC7 := hide (HW1.out w6 _ HH6.out)
        clear hw7 y0 HH6 HLS
        go_wp2_with fail
        refine HC7.out.mono ?_
        rintro e w8 ⟨x8, rfl, K8, h8⟩
        have HC8 := hide (HW2.out w8 _ h8)
        clear h8 HC7
        go_wp2_with fail
        refine HC8.out.mono ?_
        rintro e w9 ⟨x9, rfl, K9, h9⟩
        have HH9 := hide h9
        have y9 := HYY.out w9 _ _ h9
        clear h9 HC8
        go_wp2_with fail
        refine (HDS.out w9).mono ?_
        rintro e w10 ⟨rfl, hw10⟩
        rw [hw10]
        have HC10 := hide (HW3.out w9 _ HH9.out)
        clear hw10 y9 HH9 HDS
        go_wp2_with fail
        refine HC10.out.mono ?_
        rintro e w11 ⟨x11, rfl, K11, h11⟩
        have HC11 := hide (HW4.out w11 _ h11)
        clear h11 HC10
        go_wp2_with fail
        refine HC11.out.mono ?_
        rintro e w12 ⟨x12, rfl, K12, h12⟩
        have HN := hide h12
        clear h12 HC11 HW1 HW2 HW3 HW4 HYY
        go_wp2
        go_roundw
        case rel => exact ⟨k + 1, by omega, by go_num, K12, HN.out⟩
        case measure => simp [intOf]; omega
    · obtain rfl : k = R.length := by omega
      have hlt' : ¬ (R.length : Int) < (R.length : Int) := by omega
      rw [List.take_length] at HHk
      have HPE : Hid (Calls Tryz.prog 79 #[.pointer (some ⟨e1, 0, none⟩), .pointer (some ⟨g, 0, none⟩), .int .i64 256] wr fun e w' => e = .returned (.int .i64 0) ∧ ∃ K', Herd W w' (xs ++ [(K', tx g (row ++ (bodB P Q R ++ wb P 256)))])) := by
        refine (hxeput HHk.out (xs.length + 1) xs.length (at_l1 _ _ _ _) (at_l0 _ _ _) 256 (by omega) (by omega)).mono ?_
        rintro e w7 ⟨rfl, K7, h7⟩
        have hle := bod_le HPP.out HQQ.out R HSN.out
        have hep := ep_ok HWD.out.1 (row := row ++ bodB P Q R) (by rw [List.length_append]; omega) HLP.out
        rw [set_l0, hep.2] at h7
        have h8 : Herd W w7 (((xs ++ [(K7, tx g (row ++ bodB P Q R ++ wb P (256 : Int).toNat))]) ++ [(K1, tex e1 P)]) ++ [(K2, tex e2 Q)]) := by simpa using h7
        refine ⟨by rw [hep.1], K7, ?_⟩
        have h9 := h8.front.front
        rw [← List.append_assoc]
        exact h9
      clear HHk
      go_wp2_with fail
      refine HPE.out.mono ?_
      rintro e w7 ⟨rfl, K7, h7⟩
      have HN := hide h7
      clear h7 HPE
      go_wp2
      go_ret
      exact ⟨rfl, K7, HN.out⟩
end Go.Proofs.YtfoglaajnlbnbaaGreatDoor

namespace Go.Proofs.YtfoglaajnlbnbaaGreatDoor
open Go.RowKit Go.Maps
set_option maxRecDepth 20000
set_option linter.unusedVariables false
set_option linter.unusedSimpArgs false

set_option maxHeartbeats 2000000 in
theorem hplain {W w : World} {xs : List ((Nat → Nat) × Thing)} {K : Nat → Nat} {g : Nat} {row : List Int} (H : Herd W w (xs ++ [(K, tx g row)])) (v : Value) (l : List Int) (hs : Rdb W xs v l) (hB : Byt l) (hl : l.length ≤ 65535) (hr : row.length ≤ 1000) (a : Nat) (ha : row.length = a + 3) :
    Calls Tryz.prog 46 #[.pointer (some ⟨g, 0, none⟩), v] w fun e w' => e = .returned (.int .i64 0) ∧ ∃ K', Herd W w' (xs ++ [(K', tx g (row ++ rawB l a))]) := by
  have HS := hide hs
  have HBY := hide hB
  have HPD := hide (pad10 ha)
  obtain ⟨m, HM⟩ : ∃ m : Nat, Hid ((m : Int) = (13 - (a : Int) % 8) % 8) := ⟨((13 - (a : Int) % 8) % 8).toNat, by show _ = _; omega⟩
  have hm : m ≤ 7 := by have := HM.out; omega
  have hm8 : (row.length + m) % 8 = 0 := by have := HM.out; omega
  rw [← HM.out, Int.toNat_natCast] at HPD
  have HRB : Hid (rawB l a = bts 0 m ++ bts (l.length : Int) 16 ++ bts (65535 - (l.length : Int)) 16 ++ unpack l) := by
    show _ = _
    unfold rawB
    rw [← HM.out]; rfl
  have HH := hide H
  obtain ⟨ao, cap, rfl, hlc, hcm, -⟩ := hs w _ H
  unfold maxLen at hcm
  obtain ⟨N, HN⟩ : ∃ N : Nat, Hid (N = l.length) := ⟨_, rfl⟩
  have hN : N ≤ 65535 := by rw [HN.out]; exact hl
  have HSN : Hid (Rdb W xs (.slice ao N cap) l) := by rw [HN.out]; exact HS
  rw [← HN.out] at hlc ⊢
  have hw1 : IntKind.u32.wrap (N : Int) = (N : Int) := by rw [IntKind.wrap_u32]; omega
  have hw2 : IntKind.u32.wrap (65535 - (N : Int)) = 65535 - (N : Int) := by rw [IntKind.wrap_u32]; omega
  clear hB H HS hl ha hs
  have HP1 : Hid (Calls Tryz.prog 76 #[.pointer (some ⟨g, 0, none⟩)] w fun e w' => e = .returned (.tuple #[]) ∧ ∃ K', Herd W w' (xs ++ [(K', tx g (row ++ bts 0 m))])) := by
    refine (hxalign10 HH.out xs.length (at_l0 _ _ _)).mono ?_
    rintro e w2 ⟨rfl, K', h2⟩
    rw [set_l0, HPD.out] at h2
    exact ⟨rfl, K', h2⟩
  clear HH
  go_enter Tryz.func46, Tryz.ntmps46
  go_wp2_with fail
  refine HP1.out.mono ?_
  rintro e w2 ⟨rfl, K2, h2⟩
  have HP2 : Hid (Calls Tryz.prog 18 #[.pointer (some ⟨g, 0, none⟩), .int .u32 (N : Int), .int .i64 16] w2 fun e w' => ∃ x, e = .returned (.int .i64 x) ∧ ∃ K', Herd W w' (xs ++ [(K', tx g (row ++ bts 0 m ++ bts (N : Int) 16))])) := by
    refine (hxput h2 xs.length (at_l0 _ _ _) (N : Int) 16 (by omega) (by omega)).mono ?_
    rintro e w3 ⟨rfl, K', h3⟩
    rw [set_l0, put_is (by decide) (by decide) (by show (N : Int) < 65536; omega) (by rw [List.length_append, length_bts]; omega)] at h3
    exact ⟨_, rfl, K', h3⟩
  clear h2 HP1
  go_wp2_with fail
  refine HP2.out.mono ?_
  rintro e w3 ⟨x3, rfl, K3, h3⟩
  have HP3 : Hid (Calls Tryz.prog 18 #[.pointer (some ⟨g, 0, none⟩), .int .u32 (65535 - (N : Int)), .int .i64 16] w3 fun e w' => ∃ x, e = .returned (.int .i64 x) ∧ ∃ K', Herd W w' (xs ++ [(K', tx g (row ++ bts 0 m ++ bts (N : Int) 16 ++ bts (65535 - (N : Int)) 16))])) := by
    refine (hxput h3 xs.length (at_l0 _ _ _) (65535 - (N : Int)) 16 (by omega) (by omega)).mono ?_
    rintro e w4 ⟨rfl, K', h4⟩
    rw [set_l0, put_is (by decide) (by decide) (by show 65535 - (N : Int) < 65536; omega) (by rw [List.length_append, List.length_append, length_bts, length_bts]; omega)] at h4
    exact ⟨_, rfl, K', h4⟩
  clear h3 HP2
  go_wp2_with fail
  refine HP3.out.mono ?_
  rintro e w4 ⟨x4, rfl, K4, h4⟩
  have HP5 : Hid (Calls Tryz.prog 77 #[.pointer (some ⟨g, 0, none⟩), .slice ao N cap] w4 fun e w' => e = .returned (.int .i64 0) ∧ ∃ K', Herd W w' (xs ++ [(K', tx g (row ++ rawB l a))])) := by
    refine (hxraw10 h4 xs.length (at_l0 _ _ _) _ l HBY.out (fun wr K1 hF => HSN.out wr [] (by simpa using h4.ahead10 xs.length (at_l0 _ _ _) (Nat.le_refl _) hF)) (by rw [← HN.out]; omega)).mono ?_
    rintro e w6 ⟨rfl, K', h6⟩
    have hlen : (row ++ bts 0 m ++ bts (N : Int) 16 ++ bts (65535 - (N : Int)) 16).length = row.length + m + 32 := by simp only [List.length_append, length_bts]
    have e0 : rawE (row ++ bts 0 m ++ bts (N : Int) 16 ++ bts (65535 - (N : Int)) 16) l = 0 := by
      unfold rawE
      rw [hlen, ← HN.out, if_neg (by omega), if_neg (by omega)]
    have er : rawRow (row ++ bts 0 m ++ bts (N : Int) 16 ++ bts (65535 - (N : Int)) 16) l = row ++ rawB l a := by
      unfold rawRow
      rw [hlen, ← HN.out, if_neg (by omega), if_neg (by omega), HRB.out, ← HN.out]
      simp only [List.append_assoc]
    rw [set_l0, er] at h6
    exact ⟨by rw [e0], K', h6⟩
  clear h4 HP3
  go_wp2_with fail
  refine HP5.out.mono ?_
  rintro e w6 ⟨rfl, K6, h6⟩
  have HF := hide h6
  clear h6 HP5
  go_wp2
  go_ret
  exact ⟨rfl, K6, HF.out⟩
end Go.Proofs.YtfoglaajnlbnbaaGreatDoor

namespace Go.Proofs.YtfoglaajnlbnbaaGreatDoor
open Go.RowKit Go.Maps
set_option maxRecDepth 20000
set_option linter.unusedVariables false
set_option linter.unusedSimpArgs false

theorem wt_gen {R : List Tk} {l : List Int} {k : Int} : wtE R l k = if 16777216 < l.length then 1 else if k < 0 ∨ 2 < k then 103 else if asnd R = false then 100 else if 65535 < lsay R then 102 else if lsay R ≠ (l.length : Int) then 101 else 0 := by
  unfold wtE
  by_cases q : 16777216 < l.length
  · rw [if_pos q, if_pos q]
  rw [if_neg q, if_neg q]
  by_cases c : k < 0 ∨ 2 < k
  · rw [if_pos (by omega), if_pos c]
  · rw [if_neg (by omega), if_neg c]
    unfold sdE sdN
    cases ha : asnd R with
    | false => simp
    | true =>
      simp only [if_true, Bool.true_eq_false, if_false]
      by_cases d : 65535 < lsay R
      · rw [if_pos d, if_pos d]; simp; intro q; omega
      · rw [if_neg d, if_neg d, if_neg d]
        simp only [ne_eq, not_true_eq_false, if_false]
        by_cases e : lsay R = (l.length : Int)
        · rw [if_neg (by simp [e]), if_neg (by simp [e])]
        · rw [if_pos (fun q => e q.symm), if_pos e]

set_option maxHeartbeats 8000000 in
theorem hkWrite {W w : World} {xs : List ((Nat → Nat) × Thing)} {K : Nat → Nat} {g : Nat} {row : List Int} (H : Herd W w (xs ++ [(K, tx g row)])) (v : Value) (R : List Tk) (hR : Rdy W xs v R) (hn : R.length ≤ 5864062014805) (hb : ∀ t ∈ R, Bt t) (vr : Value) (l : List Int) (hl : Rdb W xs vr l) (hB : Byt l) (k : Int) (f : Bool) (hr : row.length ≤ 32) (X : Xodr W) :
    Calls Tryz.prog 20 #[.pointer (some ⟨g, 0, none⟩), v, vr, .int .i64 k, .bool f] w fun e w' => e = .returned (.int .i64 (wtE R l k)) ∧ ∃ K', Herd W w' (xs ++ [(K', tx g (if wtE R l k = 0 then row ++ blkB k.toNat f R l row.length else row))]) := by
  have HH := hide H
  have HRD := hide hR
  have HBT := hide hb
  have HBY := hide hB
  have HX := hide X
  have hSK := hR w _ H
  have HKS := hide (ksound_any v R w hSK)
  have HSY := hide (fun (wx : World) (b : Below w.heap.size w wx) (ha : asnd R = true) => ksays_any v R wx (hSK.below b) hn ha)
  have HW := hide (wt_gen (R := R) (l := l) (k := k))
  obtain ⟨ao, cap, rfl, hlc, hcm⟩ := hSK.open
  have HSR := hide hl
  obtain ⟨ar, cr, rfl, hlr, hcr, -⟩ := hl w _ H
  unfold maxLen at hcr
  obtain ⟨N, HN⟩ : ∃ N : Nat, Hid (N = l.length) := ⟨_, rfl⟩
  have HSN : Hid (Rdb W xs (.slice ar N cr) l) := by rw [HN.out]; exact HSR
  rw [← HN.out] at hlr HW ⊢
  obtain ⟨E, HEE⟩ : ∃ E, Hid (E = wtE R l k) := ⟨_, rfl⟩
  rw [← HEE.out] at HW ⊢
  obtain ⟨RW, HRW⟩ : ∃ r, Hid (r = if E = 0 then row ++ blkB k.toNat f R l row.length else row) := ⟨_, rfl⟩
  rw [← HRW.out]
  clear hSK H hR hb hB X HSR hl
  by_cases c0 : 16777216 < (N : Int)
  · rw [if_pos (by omega)] at HW
    go_enter Tryz.func20, Tryz.ntmps20
    go_wp2
    go_ret
    rw [HRW.out, HW.out, if_neg (by decide)]
    exact ⟨rfl, K, HH.out⟩
  rw [if_neg (by omega)] at HW
  by_cases ck : k = 0 ∨ k = 1 ∨ k = 2
  case neg =>
    have k0 : (k != 0) = true := by simp; omega
    have k1 : (k != 1) = true := by simp; omega
    have k2 : (k != 2) = true := by simp; omega
    rw [if_pos (by omega)] at HW
    clear ck
    go_enter Tryz.func20, Tryz.ntmps20
    go_wp2
    go_ret
    rw [HRW.out, HW.out, if_neg (by decide)]
    exact ⟨rfl, K, HH.out⟩
  rw [if_neg (by omega)] at HW
  cases ha : asnd R with
  | false =>
    rw [ha] at HW HKS
    simp only [if_true] at HW
    rcases ck with rfl | rfl | rfl
    all_goals
      go_enter Tryz.func20, Tryz.ntmps20
      go_wp2_with fail
      refine HKS.out.mono ?_
      rintro e w1 ⟨rfl, b1⟩
      have HB1 := hide b1
      clear b1 HKS
      go_wp2
      go_ret
      rw [HRW.out, HW.out, if_neg (by decide)]
      exact ⟨rfl, K, HH.out.below HB1.out⟩
  | true =>
    rw [ha] at HW HKS
    simp only [Bool.true_eq_false, if_false] at HW
    have HA := hide ha
    obtain ⟨S, HSS⟩ : ∃ S, Hid (S = lsay R) := ⟨_, rfl⟩
    have hin := lsay_in R ha
    rw [← HSS.out] at HW HSY hin
    by_cases c2 : 65535 < S
    · rw [if_pos c2] at HW
      rcases ck with rfl | rfl | rfl
      all_goals
        go_enter Tryz.func20, Tryz.ntmps20
        go_wp2_with fail
        refine HKS.out.mono ?_
        rintro e w1 ⟨rfl, b1⟩
        have HB1 := hide b1
        have HS1 := hide (HSY.out w1 b1 HA.out)
        clear b1 HKS HSY
        go_wp2_with fail
        refine HS1.out.mono ?_
        rintro e w2 ⟨rfl, hw2⟩
        rw [hw2]
        clear hw2 HS1
        go_wp2
        go_ret
        rw [HRW.out, HW.out, if_neg (by decide)]
        exact ⟨rfl, K, HH.out.below HB1.out⟩
    · rw [if_neg c2] at HW
      by_cases c3 : S = (N : Int)
      case neg =>
        have c3' : (S != (N : Int)) = true := by simpa using c3
        rw [if_pos c3] at HW
        rcases ck with rfl | rfl | rfl
        all_goals
          go_enter Tryz.func20, Tryz.ntmps20
          go_wp2_with fail
          refine HKS.out.mono ?_
          rintro e w1 ⟨rfl, b1⟩
          have HB1 := hide b1
          have HS1 := hide (HSY.out w1 b1 HA.out)
          clear b1 HKS HSY
          go_wp2_with fail
          refine HS1.out.mono ?_
          rintro e w2 ⟨rfl, hw2⟩
          rw [hw2]
          clear hw2 HS1
          go_wp2
          go_ret
          rw [HRW.out, HW.out, if_neg (by decide)]
          exact ⟨rfl, K, HH.out.below HB1.out⟩
      rw [if_neg (by simpa using c3)] at HW
      have c3' : (S != (N : Int)) = false := by simpa using c3
      have HC := hide c3
      clear c3
      have hsd : sdE R = 0 := by unfold sdE; rw [if_pos (by rw [ha]), if_neg (by rw [← HSS.out]; exact c2)]
      obtain ⟨d1, d2, d3, d4, d5⟩ := sd_ok hsd
      have HALL := hide (asnd_all10 d1 HBT.out)
      have HR65 : Hid (R.length ≤ 65535) := d5
      clear d1 d2 d3 d4 d5 hsd
      have HPT1 : Hid (∀ (lv : Int), lv = (if f then 1 else 0) → ∀ (wx : World), Below w.heap.size w wx → Calls Tryz.prog 18 #[.pointer (some ⟨g, 0, none⟩), .int .u32 lv, .int .i64 1] wx fun e w' => ∃ x, e = .returned (.int .i64 x) ∧ ∃ K', Herd W w' (xs ++ [(K', tx g (row ++ bts (if f then 1 else 0) 1))])) := fun lv hlv wx b => by
        rw [hlv]
        refine (hxput (HH.out.below b) xs.length (at_l0 _ _ _) (if f then 1 else 0) 1 (by split <;> decide) (by split <;> decide)).mono ?_
        rintro e w2 ⟨rfl, K', h2⟩
        rw [set_l0, put_is (by decide) (by decide) (by split <;> decide) (by omega)] at h2
        exact ⟨_, rfl, K', h2⟩
      have HPT2 : Hid (∀ (wx : World) (Kx : Nat → Nat), Herd W wx (xs ++ [(Kx, tx g (row ++ bts (if f then 1 else 0) 1))]) → ∀ kk : Nat, kk ≤ 2 → Calls Tryz.prog 18 #[.pointer (some ⟨g, 0, none⟩), .int .u32 (kk : Int), .int .i64 2] wx fun e w' => ∃ x, e = .returned (.int .i64 x) ∧ ∃ K', Herd W w' (xs ++ [(K', tx g (row ++ hd3 kk f))])) := fun wx Kx hx kk hkk => by
        refine (hxput hx xs.length (at_l0 _ _ _) (kk : Int) 2 (by omega) (by omega)).mono ?_
        rintro e w3 ⟨rfl, K'', h3⟩
        rw [set_l0, put_is (by decide) (by decide) (by show (kk : Int) < 4; omega) (by rw [List.length_append, length_bts]; omega), List.append_assoc] at h3
        exact ⟨_, rfl, K'', h3⟩
      rcases ck with rfl | rfl | rfl
      · cases f
        all_goals
          go_enter Tryz.func20, Tryz.ntmps20
          go_wp2_with fail
          refine HKS.out.mono ?_
          rintro e w1 ⟨rfl, b1⟩
          have HB1 := hide b1
          have HS1 := hide (HSY.out w1 b1 HA.out)
          clear b1 HKS HSY
          go_wp2_with fail
          refine HS1.out.mono ?_
          rintro e w2 ⟨rfl, hw2⟩
          rw [hw2]
          clear hw2 HS1
          go_wp2_with fail
          refine (HPT1.out _ (by rfl) w1 HB1.out).mono ?_
          rintro e w3 ⟨x3, rfl, K3, h3⟩
          have HPA := hide (HPT2.out w3 K3 h3 0 (by omega))
          clear h3 HPT1
          go_wp2_with fail
          refine HPA.out.mono ?_
          rintro e w4 ⟨x4, rfl, K4, h4⟩
          have HPL := hide (hplain h4 _ l HSN.out HBY.out (by rw [← HN.out]; have := HC.out; omega) (by rw [List.length_append, hd3_len]; omega) row.length (by rw [List.length_append, hd3_len]))
          clear h4 HPA
          go_wp2_with fail
          refine HPL.out.mono ?_
          rintro e w5 ⟨rfl, K5, h5⟩
          have HF := hide h5
          clear h5 HPL
          go_wp2
          go_ret
          rw [HRW.out, HW.out, if_pos rfl]
          refine ⟨rfl, K5, ?_⟩
          have h9 := HF.out
          rw [List.append_assoc] at h9
          exact h9
      · cases f
        all_goals
          go_enter Tryz.func20, Tryz.ntmps20
          go_wp2_with fail
          refine HKS.out.mono ?_
          rintro e w1 ⟨rfl, b1⟩
          have HB1 := hide b1
          have HS1 := hide (HSY.out w1 b1 HA.out)
          clear b1 HKS HSY
          go_wp2_with fail
          refine HS1.out.mono ?_
          rintro e w2 ⟨rfl, hw2⟩
          rw [hw2]
          clear hw2 HS1
          go_wp2_with fail
          refine (HPT1.out _ (by rfl) w1 HB1.out).mono ?_
          rintro e w3 ⟨x3, rfl, K3, h3⟩
          have HPA := hide (HPT2.out w3 K3 h3 1 (by omega))
          clear h3 HPT1
          go_wp2_with fail
          refine HPA.out.mono ?_
          rintro e w4 ⟨x4, rfl, K4, h4⟩
          have HH4 := hide h4
          have HFL := hide (xfixedLit_any w4)
          clear h4 HPA
          go_wp2_with fail
          refine HFL.out.mono ?_
          rintro e w5 ⟨a1, q1, he, o1, b5⟩
          rw [fxL_len] at he o1
          subst he
          have HO1 := hide o1
          have HB5 := hide b5
          have HFD := hide (xfixedDist_any w5)
          clear o1 b5 HFL
          go_wp2_with fail
          refine HFD.out.mono ?_
          rintro e w6 ⟨a2, q2, he, o2, b6⟩
          rw [List.length_replicate] at he o2
          subst he
          have HCD := hide (hcoded ((HH4.out.below HB5.out).below b6) _ R HRD.out a1 a2 288 q1 32 q2 (fxL 288) (List.replicate 32 5) (HO1.out.sb.below b6) o2.sb HR65.out HALL.out (fun i => ⟨(fx_get i).1, (fx_get i).2.1⟩) (fun i => ⟨(f5_get i).1, (f5_get i).2.1⟩) fx_code.1 fx_code.2 (fx_wds HALL.out) (by rw [List.length_append, hd3_len]; omega))
          clear o2 b6 HFD HO1 HB5 HH4
          go_wp2_with fail
          refine HCD.out.mono ?_
          rintro e w7 ⟨rfl, K7, h7⟩
          have HF := hide h7
          clear h7 HCD
          go_wp2
          go_ret
          rw [HRW.out, HW.out, if_pos rfl]
          refine ⟨rfl, K7, ?_⟩
          have h9 := HF.out
          rw [List.append_assoc] at h9
          exact h9
      · have ha' := HA.out
        obtain ⟨t0, t1, t2, t3, t4⟩ := ctl_facts (R := R) (by have := HR65.out; omega) ha'
        obtain ⟨e1, e2, e3, e4, e5, e6, e7⟩ := dyn_ok (R := R) (by have := HR65.out; omega) ha' HBT.out
        have s1 := cnt_sound (l := ctL R) (by rw [t1]; omega) t3 (Nat.le_refl _)
        have s2 := cnt_sound (l := ctD R) (by rw [t2]; omega) t4 (Nat.le_refl _)
        have u1 := (cnt_lmE (l := ctL R) (by rw [t1]; omega) t3 (Nat.le_refl _)).2
        have u2 := (cnt_lmE (l := ctD R) (by rw [t2]; omega) t4 (Nat.le_refl _)).2
        have p1 : ∀ i, 0 ≤ (lmL (ctL R) 15).getD i 0 ∧ (lmL (ctL R) 15).getD i 0 ≤ 15 := fun i => by rw [e6]; exact lmt_at s1 u1 i
        have p2 : ∀ i, 0 ≤ (lmL (ctD R) 15).getD i 0 ∧ (lmL (ctD R) 15).getD i 0 ≤ 15 := fun i => by rw [e7]; exact lmt_at s2 u2 i
        have HTL : Hid (trL R = lmL (ctL R) 15 ∧ trD R = lmL (ctD R) 15) := ⟨by unfold trL; rw [if_pos t0], by unfold trD; rw [if_pos t0]⟩
        have HBK : Hid (blkB (Int.toNat 2) f R l row.length = hd3 2 f ++ hdrB (lmL (ctL R) 15) (lmL (ctD R) 15) ++ (bodB (lmL (ctL R) 15) (lmL (ctD R) 15) R ++ wb (lmL (ctL R) 15) 256)) := by show _ = _; rfl
        obtain ⟨P, hP⟩ : ∃ P, lmL (ctL R) 15 = P := ⟨_, rfl⟩
        obtain ⟨Q, hQ⟩ : ∃ Q, lmL (ctD R) 15 = Q := ⟨_, rfl⟩
        rw [hP] at e1 e3 e4 p1
        rw [hQ] at e2 e3 e5 p2
        rw [hP, hQ] at HTL HBK
        have HE := hide (show bkE P = 0 ∧ bkE Q = 0 ∧ Wds P Q R ∧ P.length = 286 ∧ Q.length = 30 from ⟨e1, e2, e3, e4, e5⟩)
        have HP1 := hide p1
        have HP2 := hide p2
        obtain ⟨hd, hhd⟩ : ∃ hd, hd3 2 f = hd := ⟨_, rfl⟩
        have hdl : hd.length = 3 := by rw [← hhd, hd3_len]
        have HPT3 : Hid (∀ (wx : World) (Kx : Nat → Nat), Herd W wx (xs ++ [(Kx, tx g (row ++ bts (if f then 1 else 0) 1))]) → Calls Tryz.prog 18 #[.pointer (some ⟨g, 0, none⟩), .int .u32 2, .int .i64 2] wx fun e w' => ∃ x, e = .returned (.int .i64 x) ∧ ∃ K', Herd W w' (xs ++ [(K', tx g (row ++ hd))])) := fun wx Kx hx => by
          rw [← hhd]
          exact HPT2.out wx Kx hx 2 (by omega)
        rw [hhd] at HBK
        clear ha' t0 t1 t2 t3 t4 e1 e2 e3 e4 e5 e6 e7 s1 s2 u1 u2 p1 p2 hP hQ hhd HPT2
        cases f
        all_goals
          go_enter Tryz.func20, Tryz.ntmps20
          go_wp2_with fail
          refine HKS.out.mono ?_
          rintro e w1 ⟨rfl, b1⟩
          have HB1 := hide b1
          have HS1 := hide (HSY.out w1 b1 HA.out)
          clear b1 HKS HSY
          go_wp2_with fail
          refine HS1.out.mono ?_
          rintro e w2 ⟨rfl, hw2⟩
          rw [hw2]
          clear hw2 HS1
          go_wp2_with fail
          refine (HPT1.out _ (by rfl) w1 HB1.out).mono ?_
          rintro e w3 ⟨x3, rfl, K3, h3⟩
          have HPA := hide (HPT3.out w3 K3 h3)
          clear h3 HPT1
          go_wp2_with fail
          refine HPA.out.mono ?_
          rintro e w4 ⟨x4, rfl, K4, h4⟩
          have HH4 := hide h4
          have HTR := hide (xTrees_any _ R w4 (HRD.out w4 _ h4) HBT.out)
          clear h4 HPA HPT3
          go_wp2_with fail
          refine HTR.out.mono ?_
          rintro e w5 ⟨vl, vd, rfl, o1, o2, hne, b5⟩
          rw [HTL.out.1] at o1
          rw [HTL.out.2] at o2
          obtain ⟨a1, q1, hv1, -, -⟩ := o1.sb.open
          obtain ⟨a2, q2, hv2, -, -⟩ := o2.sb.open
          subst hv1 hv2
          have h5 := HH4.out.lists2 b5 o1 o2 hne
          have HH5 : Hid (Herd W w5 (xs ++ [(K4, tx g (row ++ hd)), (kOw (.slice a1 P.length q1), tik (.slice a1 P.length q1) P), (kOw (.slice a2 Q.length q2), tik (.slice a2 Q.length q2) Q)])) := by
            show Herd _ _ _
            simpa using h5
          have HFX : Hid (∀ (wx : World) (Kx : Nat → Nat) (rx : List Int), Herd W wx (xs ++ [(Kx, tx g rx), (kOw (.slice a1 P.length q1), tik (.slice a1 P.length q1) P), (kOw (.slice a2 Q.length q2), tik (.slice a2 Q.length q2) Q)]) → SI wx (.slice a1 P.length q1) P ∧ SI wx (.slice a2 Q.length q2) Q ∧ Herd W wx (xs ++ [(Kx, tx g rx)])) := fun wx Kx rx hx => by
            have r1 : (tik (.slice a1 P.length q1) P).P wx (kOw (.slice a1 P.length q1)) := hx.rep (xs.length + 1) _ (at_l1 _ _ _ _)
            have r2 : (tik (.slice a2 Q.length q2) Q).P wx (kOw (.slice a2 Q.length q2)) := hx.rep (xs.length + 2) _ (at_l2 _ _ _ _ _)
            have h8 : Herd W wx (((xs ++ [(Kx, tx g rx)]) ++ [(kOw (.slice a1 P.length q1), tik (.slice a1 P.length q1) P)]) ++ [(kOw (.slice a2 Q.length q2), tik (.slice a2 Q.length q2) Q)]) := by simpa using hx
            exact ⟨r1.1.sb, r2.1.sb, h8.front.front⟩
          obtain ⟨i1, i2, -⟩ := HFX.out w5 _ _ HH5.out
          have HZW := hide (hzwrite HH5.out xs.length (at_l0 _ _ _) _ _ P Q i1 i2 HX.out (by rw [List.length_append, hdl]; omega))
          clear o1 o2 hne b5 h5 HTR HH4 i1 i2 HH5
          go_wp2_with fail
          refine HZW.out.mono ?_
          rintro e w6 ⟨rfl, K6, h6⟩
          have hzr : (if mkE P Q = 0 then row ++ hd ++ mkB P Q else row ++ hd) = row ++ hd ++ hdrB P Q := by
            unfold hdrB
            split
            · rfl
            · rw [List.append_nil]
          rw [set_l0, hzr] at h6
          obtain ⟨j1, j2, j3⟩ := HFX.out w6 _ _ h6
          have HCD := hide (hcoded j3 _ R HRD.out a1 a2 P.length q1 Q.length q2 P Q j1 j2 HR65.out HALL.out HP1.out HP2.out HE.out.1 HE.out.2.1 HE.out.2.2.1 (by rw [List.length_append, List.length_append, hdl]; have := (hdrB_len P Q).2; omega))
          clear h6 j1 j2 j3 HZW HFX hzr
          go_wp2_with fail
          refine HCD.out.mono ?_
          rintro e w7 ⟨rfl, K7, h7⟩
          have HF := hide h7
          clear h7 HCD
          go_wp2
          go_ret
          rw [HRW.out, HW.out, if_pos rfl, HBK.out]
          refine ⟨rfl, K7, ?_⟩
          have h9 := HF.out
          simpa only [List.append_assoc] using h9
end Go.Proofs.YtfoglaajnlbnbaaGreatDoor

namespace Go.Proofs.YtfoglaajnlbnbaaGreatDoor
open Go.RowKit Go.Maps
set_option maxRecDepth 20000
set_option linter.unusedVariables false
set_option linter.unusedSimpArgs false

def c3 (t : Tk) : List Value := [.int .i64 t.1, .int .i64 t.2.1, .int .u8 t.2.2]

def TBr (w : World) (g : Nat) (L : List Tk) (rest : List Value) : Prop := w.heap[g]? = some (.cells (fr3 L ++ rest).toArray 54 (0, 0))

theorem run_copy_toks2 {P : Program} (w : World) (dT sT ty elem : TypeId) (g dLen dCap n : Nat) (a : Addr) (sCap : Nat) (cur : Array Value) (t : TypeId) (cs : List Value)
    (hu : P.underlying dT = some (.slice elem)) (hs : (P.info? elem).map (·.size) = some 3) (hg : w.heap[g]? = some (.cells cur t (0, 0))) (hn : cs.length = n * 3) (hd : n ≤ dLen)
    (hsrc : ∀ j v, cs[j]? = some v → w.cell? (a.add j) = some v) (hfit : cs.length ≤ cur.size) (h1 : ∀ v ∈ cs, v.oneCell' = true) :
    (Builtin.copy_ #[dT, sT] ty #[.slice (some ⟨g, 0, none⟩) dLen dCap, .slice (some a) n sCap]).run P w = .ok (goInt n) (w.setRow g (cs ++ cur.toList.drop cs.length).toArray) := by
  have hl := run_loadCells_list (P := P) w a cs hsrc
  have hst := run_storeCells_at P g 0 t cs 0 cur w hg (by simpa using hfit) h1
  have hm : Nat.min n dLen = n := Nat.min_eq_left hd
  rw [hn] at hl
  cases hq : P.info? elem with
  | none => simp [hq] at hs
  | some i =>
    have hi : i.size = 3 := by simpa [hq] using hs
    simp [Builtin.copy_, run_underlying hu, Builtin.lenOf, Builtin.firstCells, sizeOf, typeInfo, hq, hi, hm, hl]
    simp at hst
    rw [hst]
    simp

theorem wpList_copyL {w : World} {ops : Array Oper} {rest : List Oper} {o : Oper} {a : Act} {Q : Exit → Act → World → Prop} (hgd : o.guard = none) (d s : Operand)
    (ho : o.op = .call { callee := .builtin .copy, args := #[d, s], argTypes := #[23, 23] }) (g dLen dCap : Nat) (v : Value) (l : List Tk) (hd : a.eval d = .slice (some ⟨g, 0, none⟩) dLen dCap) (hdl : l.length ≤ dLen) (hs : a.eval s = v) (hsp : SK w v l)
    (cur : Array Value) (hg : w.heap[g]? = some (.cells cur 54 (0, 0))) (hc : cur.size = dLen * 3)
    (h : ∀ w' rst, TBr w' g l rst → rst.length = (dLen - l.length) * 3 → (∀ k, k ≠ g → w'.heap[k]? = w.heap[k]?) → w'.heap.size = w.heap.size → w'.os = w.os → w'.tape = w.tape → w'.output = w.output → wpList Tryz.prog ops Q rest (a.put o.dst (goInt l.length)) w') :
    wpList Tryz.prog ops Q (o :: rest) a w := by
  have hsz : (Tryz.prog.info? 54).map (·.size) = some 3 := by kernel_rfl
  refine wpList_plain hgd fun K hK => ?_
  obtain ⟨ao, cap, rfl, h1, h2, h3, h4⟩ := hsp
  unfold Oper.wp
  cases ao with
  | none =>
    have h0 := h3 rfl
    obtain rfl : l = [] := List.eq_nil_of_length_eq_zero (by omega)
    subst h0
    have hr : (Builtin.copy_ #[23, 23] o.type #[.slice (some ⟨g, 0, none⟩) dLen dCap, .slice none 0 0]).run Tryz.prog w = .ok (goInt 0) w := run_copy_nil (P := Tryz.prog) w 23 23 o.type 54 ⟨g, 0, none⟩ dLen dCap Tryz.underlying23 (by rw [hsz]; rfl)
    simp [execOp, ho, resolve, invoke, builtin, hd, hs, hr, Result.andThen]
    exact hK _ _ (h w cur.toList (by show w.heap[g]? = _; simpa [fr3] using hg) (by simpa using hc) (fun _ _ => rfl) rfl rfl rfl rfl)
  | some x =>
    have hr := run_copy_toks2 (P := Tryz.prog) w 23 23 o.type 54 g dLen dCap l.length x cap cur 54 (fr3 l) Tryz.underlying23 hsz hg (fr3_len l) hdl (sk_cells (h4 x rfl)) (by rw [fr3_len, hc]; omega) (fr3_one l)
    simp [execOp, ho, resolve, invoke, builtin, hd, hs, hr, Result.andThen]
    refine hK _ _ (h _ (cur.toList.drop (fr3 l).length) (setRow_heap w g cur _ 54 _ hg) ?_ (fun k hk => setRow_other w g k _ hk) (by simp [World.setRow]) rfl rfl rfl)
    simp [fr3_len, hc, Nat.sub_mul]

theorem TBr.at {w : World} {g : Nat} {L : List Tk} {rest : List Value} (h : TBr w g L rest) {i : Nat} (hi : i < L.length) : w.cell? ⟨g, i * 3, none⟩ = some (.int .i64 (L.getD i tk0).1) ∧ w.cell? ⟨g, i * 3 + 1, none⟩ = some (.int .i64 (L.getD i tk0).2.1) ∧ w.cell? ⟨g, i * 3 + 2, none⟩ = some (.int .u8 (L.getD i tk0).2.2) := by
  obtain ⟨g0, g1, g2⟩ := fr3_get hi
  have hl := fr3_len L
  have key : ∀ j u, (fr3 L)[j]? = some u → w.cell? ⟨g, j, none⟩ = some u := fun j u hj => by
    have hjl : j < (fr3 L).length := (List.getElem?_eq_some_iff.1 hj).1
    unfold World.cell?
    rw [h]
    simp [List.getElem?_append_left hjl, hj]
  exact ⟨key _ _ g0, key _ _ g1, key _ _ g2⟩

theorem TBr.there {w : World} {g : Nat} {L : List Tk} {rest : List Value} (h : TBr w g L rest) {j : Nat} (hj : j < L.length * 3 + rest.length) : (∃ u, w.cell? ⟨g, j, none⟩ = some u) ∧ w.frozen? ⟨g, j, none⟩ = false := by
  refine ⟨?_, frozen_of_row _ _ _ _ _ h⟩
  have hj2 : j < (fr3 L ++ rest).length := by rw [List.length_append, fr3_len]; exact hj
  refine ⟨(fr3 L ++ rest)[j], ?_⟩
  unfold World.cell?
  rw [h]
  simp [hj2]

theorem TBr.put {w : World} {g : Nat} {L : List Tk} {x y z : Value} {rest : List Value} (h : TBr w g L (x :: y :: z :: rest)) (t : Tk) :
    TBr (((w.setCell ⟨g, L.length * 3, none⟩ (.int .i64 t.1)).setCell ⟨g, L.length * 3 + 1, none⟩ (.int .i64 t.2.1)).setCell ⟨g, L.length * 3 + 2, none⟩ (.int .u8 t.2.2)) g (L ++ [t]) rest := by
  have h1 := heap_setCell_same w g (L.length * 3) _ _ (.int .i64 t.1) h
  have h2 := heap_setCell_same _ g (L.length * 3 + 1) _ _ (.int .i64 t.2.1) h1
  have h3 := heap_setCell_same _ g (L.length * 3 + 2) _ _ (.int .u8 t.2.2) h2
  unfold TBr
  rw [h3]
  congr 2
  have hl := fr3_len L
  rw [fr3_snoc]
  apply Array.ext'
  simp only [Array.toList_setIfInBounds]
  rw [← hl]
  simp [List.set_append_right, List.append_assoc]

theorem TBr.set {w : World} {g : Nat} {A B : List Tk} {s : Tk} {rest : List Value} (h : TBr w g (A ++ s :: B) rest) (t : Tk) :
    TBr (((w.setCell ⟨g, A.length * 3, none⟩ (.int .i64 t.1)).setCell ⟨g, A.length * 3 + 1, none⟩ (.int .i64 t.2.1)).setCell ⟨g, A.length * 3 + 2, none⟩ (.int .u8 t.2.2)) g (A ++ t :: B) rest := by
  have e : ∀ q : Tk, fr3 (A ++ q :: B) = fr3 A ++ .int .i64 q.1 :: .int .i64 q.2.1 :: .int .u8 q.2.2 :: fr3 B := fun q => by rw [fr3_app]; rfl
  have h0 : TBr w g A (.int .i64 s.1 :: .int .i64 s.2.1 :: .int .u8 s.2.2 :: (fr3 B ++ rest)) := by
    unfold TBr at h ⊢
    rw [h, e]
    simp
  have h1 := h0.put t
  unfold TBr at h1 ⊢
  rw [h1, e, fr3_snoc]
  simp

theorem TBr.sk {w : World} {g : Nat} {L : List Tk} {rest : List Value} (h : TBr w g L rest) {n c : Nat} (hn : n ≤ L.length) (hc : n ≤ c) (hm : c ≤ maxLen) : SK w (.slice (some ⟨g, 0, none⟩) n c) (L.take n) := by
  have hl : (L.take n).length = n := by simp; omega
  refine ⟨_, c, by rw [hl], by omega, hm, (fun e => by cases e), fun x hx i hi => ?_⟩
  cases hx
  have hi' : i < n := by omega
  have e : (L.take n).getD i tk0 = L.getD i tk0 := by simp [hi']
  rw [e, Addr.add_lit, Addr.add_lit, Addr.add_lit, Nat.zero_add, Nat.zero_add, Nat.zero_add]
  exact h.at (by omega)

theorem TBr.low {w w' : World} {g : Nat} {L : List Tk} {rest : List Value} (h : TBr w g L rest) (hb : Below w.heap.size w w') : TBr w' g L rest := (hb.block g ((Array.getElem?_eq_some_iff.1 h).1)).trans h
end Go.Proofs.YtfoglaajnlbnbaaGreatDoor

namespace Go.Proofs.YtfoglaajnlbnbaaGreatDoor
open Go.RowKit Go.Maps
set_option maxRecDepth 20000
set_option linter.unusedVariables false
set_option linter.unusedSimpArgs false

theorem wpList_mkM {w : World} {ops : Array Oper} {rest : List Oper} {o : Oper} {a : Act} {Q : Exit → Act → World → Prop} (hg : o.guard = none) (l c : Operand) (hop : o.op = Op.makeSlice 23 l c)
    (kl kc : IntKind) (n : Nat) (N : Int) (hl : a.eval l = .int kl N) (hc : a.eval c = .int kc N) (hN : N = (n : Int)) (b2 : n ≤ 5864062014805)
    (hK : ∀ w' cur, w'.heap[w.heap.size]? = some (.cells cur 54 (0, 0)) → cur.size = n * 3 → Below w.heap.size w w' → wpList Tryz.prog ops Q rest (a.put o.dst (.slice (some ⟨w.heap.size, 0, none⟩) n n)) w') :
    wpList Tryz.prog ops Q (o :: rest) a w := by
  subst hN
  exact wpList_mkK hg l c hop kl kc n hl hc b2 hK

def m7 : Tk := (77, 77, 0)

theorem three_of {α : Type} {l : List α} (h : 3 ≤ l.length) : ∃ x y z r, l = x :: y :: z :: r := by
  match l, h with
  | x :: y :: z :: r, _ => exact ⟨x, y, z, r, rfl⟩

set_option maxHeartbeats 1000000 in
theorem roomy_any (v : Value) (R : List Tk) (w : World) (h : SK w v R) (hn : R.length ≤ 5864062014700) :
    Calls Tryz.prog 19 #[v] w fun e w' => e = .returned (.slice (some ⟨w.heap.size, 0, none⟩) R.length (R.length + 9)) ∧ TBr w' w.heap.size (R ++ List.replicate 9 m7) [] ∧ Below w.heap.size w w' := by
  have HV := hide h
  obtain ⟨a2, c2, rfl, hlc, hcm⟩ := h.open
  have hw1 : wrap64 ((R.length : Int) + 9) = (R.length : Int) + 9 := by unfold wrap64; omega
  clear h
  go_enter Tryz.func19, Tryz.ntmps19
  go_wp2_with (at_make; refine wpList_mkM rfl _ _ rfl _ _ (R.length + 9) _ rfl rfl (by first | rfl | omega) (by omega) ?_)
  intro w1 cur hg1 hc1 hb1
  have hV1 := HV.out.below hb1
  go_wp2_with (refine wpList_copyL rfl _ _ rfl w.heap.size (R.length + 9) (R.length + 9) (.slice a2 R.length c2) R rfl (by omega) rfl hV1 cur hg1 hc1 ?_)
  intro w2 rst0 hT2 hr0 ho2 hs2 q1 q2 q3
  have HB2 : Hid (Below w.heap.size w w2) := ⟨q1.trans hb1.os, q2.trans hb1.tape, q3.trans hb1.output, by rw [hs2]; exact hb1.size, fun k hk => (ho2 k (by omega)).trans (hb1.block k hk)⟩
  have HT2 := hide hT2
  have HR0 : Hid (rst0.length = 27) := by show _ = _; omega
  clear hg1 hc1 hb1 hV1 ho2 hs2 q1 q2 q3 hT2 hr0
  go_wp2
  go_loopw [4] (fun i wr => ∃ k : Nat, k ≤ 9 ∧ i = .int .i64 ((R.length + k : Nat) : Int) ∧ Hid (∃ rst, TBr wr w.heap.size (R ++ List.replicate k m7) rst ∧ rst.length = (9 - k) * 3) ∧ Hid (Below w.heap.size w wr)) (fun i _ => R.length + 9 - (intOf i).toNat)
  case atStart => exact ⟨0, by omega, rfl, ⟨rst0, by simpa using HT2.out, HR0.out⟩, HB2⟩
  case round =>
    obtain ⟨k, hk, rfl, HT, HB⟩ := hrel
    by_cases hlt : k < 9
    · obtain ⟨rst, t1, t2⟩ := HT.out
      obtain ⟨x, y, z, r, rfl⟩ := three_of (l := rst) (by omega)
      have hL : (R ++ List.replicate k m7).length = R.length + k := by simp
      have HP := hide (t1.put m7)
      have HS : Hid (R ++ List.replicate k m7 ++ [m7] = R ++ List.replicate (k + 1) m7) := by show _ = _; rw [List.replicate_succ']; simp
      rw [hL, HS.out] at HP
      obtain ⟨⟨u0, e0⟩, f0⟩ := t1.there (j := (R.length + k) * 3) (by rw [hL]; simp)
      obtain ⟨⟨u1, e1⟩, f1⟩ := t1.there (j := (R.length + k) * 3 + 1) (by rw [hL]; simp)
      obtain ⟨⟨u2, e2⟩, f2⟩ := t1.there (j := (R.length + k) * 3 + 2) (by rw [hL]; simp)
      have HRL : Hid (r.length = (9 - (k + 1)) * 3) := by show _ = _; simp at t2; omega
      obtain ⟨i, hi⟩ : ∃ i, R.length + k = i := ⟨_, rfl⟩
      have hi2 : i < R.length + 9 := by omega
      rw [hi] at HP e0 e1 e2 f0 f1 f2 ⊢
      have HII := hide hi
      have hlt' : (i : Int) < (R.length : Int) + 9 := by omega
      have hlt2 : (i : Int) < ((R.length + 9 : Nat) : Int) := by omega
      have HB9 : Hid (Below w.heap.size w (((wr.setCell ⟨w.heap.size, i * 3, none⟩ (.int .i64 77)).setCell ⟨w.heap.size, i * 3 + 1, none⟩ (.int .i64 77)).setCell ⟨w.heap.size, i * 3 + 2, none⟩ (.int .u8 0))) :=
        ((HB.out.setCell (p := ⟨w.heap.size, i * 3, none⟩) (Nat.le_refl _) _).setCell (p := ⟨w.heap.size, i * 3 + 1, none⟩) (Nat.le_refl _) _).setCell (p := ⟨w.heap.size, i * 3 + 2, none⟩) (Nat.le_refl _) _
      clear t1 t2 HT HB hL hi
      go_wp2
      go_roundw
      case rel => exact ⟨k + 1, by omega, by have := HII.out; go_num, ⟨r, HP.out, HRL.out⟩, HB9⟩
      case measure => simp [intOf]; omega
    · obtain rfl : k = 9 := by omega
      obtain ⟨rst, t1, t2⟩ := HT.out
      obtain rfl : rst = [] := List.eq_nil_of_length_eq_zero (by omega)
      have HF := hide t1
      have hlt' : ¬ ((R.length + 9 : Nat) : Int) < (R.length : Int) + 9 := by omega
      clear t1 t2 HT
      go_wp2
      go_ret
      exact ⟨rfl, HF.out, HB.out⟩

set_option maxHeartbeats 1000000 in
theorem spared_any (g : Nat) (R : List Tk) (w : World) (h : TBr w g (R ++ List.replicate 9 m7) []) (hn : R.length ≤ 5864062014700) :
    Calls Tryz.prog 24 #[.slice (some ⟨g, 0, none⟩) R.length (R.length + 9)] w fun e w' => e = .returned (.bool true) ∧ w' = w := by
  have HT := hide h
  have hw1 : wrap64 ((R.length : Int) + 9) = (R.length : Int) + 9 := by unfold wrap64; omega
  have HA : Hid (∀ k, k < 9 → (R ++ List.replicate 9 m7).getD (R.length + k) tk0 = m7) := fun k hk => by
    rw [List.getD_eq_getElem?_getD, List.getElem?_append_right (by omega), show R.length + k - R.length = k by omega, List.getElem?_replicate, if_pos hk]
    rfl
  clear h
  go_enter Tryz.func24, Tryz.ntmps24
  go_wp2
  go_loopw [4] (fun i wr => ∃ k : Nat, k ≤ 9 ∧ i = .int .i64 ((R.length + k : Nat) : Int) ∧ wr = w) (fun i _ => R.length + 9 - (intOf i).toNat)
  case atStart => exact ⟨0, by omega, rfl, rfl⟩
  case round =>
    obtain ⟨k, hk, rfl, rfl⟩ := hrel
    by_cases hlt : k < 9
    · obtain ⟨c0, c1, c2⟩ := HT.out.at (i := R.length + k) (by simp; omega)
      rw [HA.out k hlt] at c0 c1 c2
      obtain ⟨i, hi⟩ : ∃ i, R.length + k = i := ⟨_, rfl⟩
      have hi2 : i < R.length + 9 := by omega
      rw [hi] at c0 c1 c2 ⊢
      have HII := hide hi
      have hlt' : (i : Int) < (R.length : Int) + 9 := by omega
      have hlt2 : (i : Int) < ((R.length + 9 : Nat) : Int) := by omega
      have hnq := fun W => tk_neq W 77 77 0 77 77 0
      have hgd := tok_guard
      have hbb : (!((77 : Int) == 77 && ((77 : Int) == 77 && (0 : Int) == 0))) = false := by decide
      rw [hbb] at hnq
      have c0' : wr.cell? ⟨g, i * 3, none⟩ = some (.int .i64 77) := c0
      have c1' : wr.cell? ⟨g, i * 3 + 1, none⟩ = some (.int .i64 77) := c1
      have c2' : wr.cell? ⟨g, i * 3 + 2, none⟩ = some (.int .u8 0) := c2
      clear c0 c1 c2 hi
      go_wp2
      go_roundw
      case rel => exact ⟨k + 1, by omega, by have := HII.out; go_num, by trivial⟩
      case measure => simp [intOf]; omega
    · obtain rfl : k = 9 := by omega
      have hlt' : ¬ ((R.length + 9 : Nat) : Int) < (R.length : Int) + 9 := by omega
      go_wp2
      go_ret
      exact ⟨rfl, rfl⟩
end Go.Proofs.YtfoglaajnlbnbaaGreatDoor

