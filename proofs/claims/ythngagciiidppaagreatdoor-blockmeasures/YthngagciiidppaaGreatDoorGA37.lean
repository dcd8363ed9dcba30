import Derived.Test.YthngagciiidppaaGreatDoorGA36
import Derived.BigQuiet
import Derived.Test.YthngagciiidppaaGreatDoorGA34
namespace Go.Proofs.YthngagciiidppaaGreatDoor
open Go.RowKit Go.Maps
set_option maxRecDepth 20000
set_option linter.unusedVariables false

set_option maxHeartbeats 4000000 in
theorem kbody_any (v vp vq : Value) (R : List Tk) (P Q : List Int) (w : World) (h : SK w v R) (hb : ∀ t ∈ R, Bt t) (ha : asnd R = true) (hn : R.length ≤ 16777216) (sp : SI w vp P) (sq : SI w vq Q) (hP : Lok P 286) (hQ : Lok Q 30) :
    Calls Tryz.prog 19 #[v, vp, vq] w fun e w' => e = .returned (.int .i64 (bdz (ctL R) (ctD R) P Q)) ∧ Below w.heap.size w w' := by
  have HCT := hide (xCount_any v R w h hb)
  obtain ⟨ct0, ct1, ct2, ct3, ct4⟩ := ctl_facts hn ha
  have HZ := hide (body_is ct1 ct2 ct3 ct4 hP hQ)
  obtain ⟨F, HF⟩ : ∃ F, Hid (F = ctL R) := ⟨_, rfl⟩
  obtain ⟨G, HG⟩ : ∃ F, Hid (F = ctD R) := ⟨_, rfl⟩
  rw [← HF.out] at ct1 ct3 HZ
  rw [← HG.out] at ct2 ct4 HZ
  obtain ⟨ao, cap, rfl, hlc, hcm⟩ := h.open
  obtain ⟨ap, cp, rfl, hcp, hcp2⟩ := sp.open
  obtain ⟨aq, cq, rfl, hcq, hcq2⟩ := sq.open
  have HSP := hide sp
  have HSQ := hide sq
  have HPP := hide hP.2
  have HQQ := hide hQ.2
  have hpl := hP.1
  have hql := hQ.1
  obtain ⟨nP, hnP⟩ : ∃ n, n = P.length := ⟨_, rfl⟩
  obtain ⟨nQ, hnQ⟩ : ∃ n, n = Q.length := ⟨_, rfl⟩
  have HNP := hide hnP
  have HNQ := hide hnQ
  rw [← hnP] at hpl hcp ⊢
  rw [← hnQ] at hql hcq ⊢
  have HC1 := hide ct1
  have HC2 := hide ct2
  have HC3 := hide ct3
  have HC4 := hide ct4
  have HCE := hide ct0
  clear h sp sq hP hQ ct0 ct1 ct2 ct3 ct4 hnP hnQ hb
  have hpl' : (286 : Int) ≤ (nP : Int) := by omega
  have hql' : (30 : Int) ≤ (nQ : Int) := by omega
  go_enter Tryz.func19, Tryz.ntmps19
  go_wp2_with fail
  refine HCT.out.mono ?_
  rintro e w1 ⟨vl, vd, rfl, o1, o2, _, b1⟩
  rw [← HF.out] at o1
  rw [← HG.out] at o2
  rw [HCE.out]
  obtain ⟨al, cl, rfl, hcl, hcl2⟩ := o1.sb.open
  obtain ⟨ad, cd, rfl, hcd, hcd2⟩ := o2.sb.open
  have HO1 := hide o1.sb
  have HO2 := hide o2.sb
  have HB1 := hide b1
  obtain ⟨nF, hnF⟩ : ∃ n, n = F.length := ⟨_, rfl⟩
  obtain ⟨nG, hnG⟩ : ∃ n, n = G.length := ⟨_, rfl⟩
  have hnF' : (nF : Int) = 286 := by have := HC1.out; omega
  have hnG' : (nG : Int) = 30 := by have := HC2.out; omega
  have HNF := hide hnF
  have HNG := hide hnG
  rw [← hnF] at hcl ⊢
  rw [← hnG] at hcd ⊢
  clear o1 o2 b1 HCT hnF hnG
  go_wp2
  go_loopw [10, 11] (fun s t wr => ∃ k : Nat, k ≤ 286 ∧ t = .int .i64 (k : Int) ∧ s = .int .i64 (bdL F P k) ∧ wr = w1) (fun _ t _ => 286 - (intOf t).toNat)
  case atStart => exact ⟨0, by omega, rfl, rfl, rfl⟩
  case round =>
    obtain ⟨k, hk, rfl, rfl, rfl⟩ := hrel
    by_cases hkl : k < 286
    · have hkl' : (k : Int) < 286 := by omega
      obtain ⟨pb, po, rfl, cp9⟩ := HSP.out.get HB1.out (k := k) (by rw [← HNP.out]; omega)
      obtain ⟨fb, fo, rfl, cf9⟩ := HO1.out.get (Below.refl _ _) (k := k) (by rw [HC1.out]; omega)
      have hb1 := HC3.out k
      have hb2 := lsb_bd HPP.out (s := k) hkl
      have hb3 := bdL_bd HC3.out HPP.out k (by omega)
      have hb4 : 0 ≤ F.getD k 0 * lsb P k := Int.mul_nonneg hb1.1 hb2.1
      have hb5 : F.getD k 0 * lsb P k ≤ 16777217 * 20 := Int.mul_le_mul hb1.2 hb2.2 hb2.1 (by omega)
      have hp9 := HPP.out k
      obtain ⟨q, HQ'⟩ : ∃ q, Hid (q = F.getD k 0) := ⟨_, rfl⟩
      obtain ⟨u, HU⟩ : ∃ u, Hid (u = bdL F P k) := ⟨_, rfl⟩
      obtain ⟨ls, HLS⟩ : ∃ u, Hid (u = lsb P k) := ⟨_, rfl⟩
      obtain ⟨p0, HP0⟩ : ∃ u, Hid (u = P.getD k 0) := ⟨_, rfl⟩
      obtain ⟨p, HPr⟩ : ∃ p : Int, Hid (p = q * ls) := ⟨_, rfl⟩
      rw [← HQ'.out, ← HLS.out] at hb4 hb5
      rw [← HPr.out] at hb4 hb5
      rw [← HQ'.out] at cf9
      rw [← HP0.out] at cp9 hp9
      rw [← HU.out] at hb3 ⊢
      rw [← HLS.out] at hb2
      have hpp : q * ls = p := HPr.out.symm
      have w1' : IntKind.i64.wrap (q * ls) = p := by rw [hpp, IntKind.wrap_i64]; omega
      have w2' : IntKind.i64.wrap (u + p) = u + p := by rw [IntKind.wrap_i64]; omega
      have HN : Hid (u + p = bdL F P (k + 1)) := by show _ = _; simp only [bdL]; rw [HPr.out, HQ'.out, HLS.out, HU.out]
      by_cases h256 : 256 < k
      · have h256' : (256 : Int) < (k : Int) := by omega
        obtain ⟨lf, HLF⟩ : ∃ u : Int, Hid (u = (LF (k - 257) : Int)) := ⟨_, rfl⟩
        have HLB := hide (xlbits_any (k - 257) (k : Int) (by omega) (by omega) wr)
        rw [← HLF.out] at HLB
        have hsum : p0 + lf = ls := by rw [HP0.out, HLF.out, HLS.out]; unfold lsb; rw [if_pos h256]
        have hlf := (lfLe (k - 257) (by omega)).1
        have hlf0 : 0 ≤ lf ∧ lf ≤ 5 := by rw [HLF.out]; omega
        have w3' : IntKind.i64.wrap (p0 + lf) = ls := by rw [hsum, IntKind.wrap_i64]; omega
        clear hb1 hlf h256
        go_wp2_with fail
        refine HLB.out.mono ?_
        rintro e w9 ⟨rfl, hw9⟩
        rw [hw9]
        clear hw9
        go_wp2
        go_roundw
        case rel => exact ⟨k + 1, by omega, by go_num, by rw [HN.out], by trivial⟩
        case measure => simp [intOf]; omega
      · have h256' : ¬ (256 : Int) < (k : Int) := by omega
        have hsum : p0 = ls := by rw [HP0.out, HLS.out]; unfold lsb; rw [if_neg h256]; omega
        subst hsum
        clear hb1 h256
        go_wp2
        go_roundw
        case rel => exact ⟨k + 1, by omega, by go_num, by rw [HN.out], by trivial⟩
        case measure => simp [intOf]; omega
    · obtain rfl : k = 286 := by omega
      have h286 : ¬ (((286 : Nat) : Int) < 286) := by omega
      have hu0 := bdL_bd HC3.out HPP.out 286 (by omega)
      obtain ⟨u0, HU0⟩ : ∃ u, Hid (u = bdL F P 286) := ⟨_, rfl⟩
      rw [← HU0.out] at hu0 ⊢
      obtain ⟨W1, hW1⟩ : ∃ W1, W1 = wr := ⟨_, rfl⟩
      rw [← hW1] at HO1 HO2 HB1 ⊢
      clear hW1
      go_wp2
      go_loopw [10, 13] (fun s t wr => ∃ k n : Nat, k ≤ 30 ∧ t = .int .i64 (k : Int) ∧ s = .int .i64 (u0 + bdD G Q k) ∧ wr = W1.drewN n) (fun _ t _ => 30 - (intOf t).toNat)
      case atStart => exact ⟨0, 0, by omega, rfl, by simp [bdD], rfl⟩
      case round =>
        clear hkl hk h286
        obtain ⟨k, n, hk, rfl, rfl, hwr⟩ := hrel
        have HBr : Hid (Below W1.heap.size W1 wr) := by show Below _ _ _; rw [hwr]; exact below_drewN (Below.refl _ _) _
        have HWR := hide hwr
        clear hwr
        by_cases hkl : k < 30
        · have hkl' : (k : Int) < 30 := by omega
          obtain ⟨qb, qo, rfl, cq9⟩ := HSQ.out.get (HB1.out.trans (HBr.out.mono HB1.out.size)) (k := k) (by rw [← HNQ.out]; omega)
          obtain ⟨gb, go, rfl, cg9⟩ := HO2.out.get HBr.out (k := k) (by rw [HC2.out]; omega)
          have hb1 := HC4.out k
          have hq9 := HQQ.out k
          have hd9 := (dfLe k hkl).1
          have hb3 := bdD_bd HC4.out HQQ.out k (by omega)
          have hb4 : 0 ≤ G.getD k 0 * (Q.getD k 0 + (DF k : Int)) := Int.mul_nonneg hb1.1 (by omega)
          have hb5 : G.getD k 0 * (Q.getD k 0 + (DF k : Int)) ≤ 16777217 * 28 := Int.mul_le_mul hb1.2 (by omega) (by omega) (by omega)
          obtain ⟨q, HQ'⟩ : ∃ q, Hid (q = G.getD k 0) := ⟨_, rfl⟩
          obtain ⟨p0, HP0⟩ : ∃ q, Hid (q = Q.getD k 0) := ⟨_, rfl⟩
          obtain ⟨df, HDF⟩ : ∃ q : Int, Hid (q = (DF k : Int)) := ⟨_, rfl⟩
          obtain ⟨u, HU⟩ : ∃ u, Hid (u = u0 + bdD G Q k) := ⟨_, rfl⟩
          have hu1 : 0 ≤ u ∧ u ≤ 200000000000 := by rw [HU.out]; omega
          obtain ⟨ls, HLS⟩ : ∃ u, Hid (u = p0 + df) := ⟨_, rfl⟩
          have hls : 0 ≤ ls ∧ ls ≤ 28 := by rw [HLS.out, HP0.out, HDF.out]; omega
          obtain ⟨p, HPr⟩ : ∃ p : Int, Hid (p = q * ls) := ⟨_, rfl⟩
          rw [← HQ'.out, ← HP0.out, ← HDF.out, ← HLS.out] at hb4 hb5
          rw [← HPr.out] at hb4 hb5
          rw [← HQ'.out] at cg9
          rw [← HP0.out] at cq9
          rw [← HU.out]
          have w0' : IntKind.i64.wrap (p0 + df) = ls := by rw [← HLS.out, IntKind.wrap_i64]; omega
          have w1' : IntKind.i64.wrap (q * ls) = p := by rw [← HPr.out, IntKind.wrap_i64]; omega
          have w2' : IntKind.i64.wrap (u + p) = u + p := by rw [IntKind.wrap_i64]; omega
          have HN : Hid (u + p = u0 + bdD G Q (k + 1)) := by show _ = _; simp only [bdD]; rw [HPr.out, HLS.out, HQ'.out, HP0.out, HDF.out, HU.out]; omega
          have HDB : Hid (∀ m, Calls Tryz.prog 43 #[.int .i64 (k : Int)] (wr.drewN m) fun e w' => e = .returned (.int .i64 df) ∧ ∃ q, w' = wr.drewN q) := fun m => (xdbits_any k hkl (wr.drewN m)).mono fun e w' ⟨h1, h2⟩ => ⟨by rw [HDF.out]; exact h1, m, h2⟩
          clear hb1 hb3 hd9 hq9
          go_wp2
          go_quiet (first | (go_at_call 43; exact HDB.out _))
          go_wp2
          go_roundw
          case rel => exact ⟨k + 1, _, by omega, by go_num, by rw [HN.out], by rw [HWR.out]; exact World.drewN_drewN _ _ _⟩
          case measure => simp [intOf]; omega
        · obtain rfl : k = 30 := by omega
          have h30 : ¬ (((30 : Nat) : Int) < 30) := by omega
          obtain ⟨u, HU⟩ : ∃ u, Hid (u = u0 + bdD G Q 30) := ⟨_, rfl⟩
          rw [← HU.out]
          go_wp2
          go_ret
          refine ⟨?_, HB1.out.trans (HBr.out.mono HB1.out.size)⟩
          rw [← HF.out, ← HG.out, ← HZ.out, HU.out, HU0.out]
          rfl
end Go.Proofs.YthngagciiidppaaGreatDoor

namespace Go.Proofs.YthngagciiidppaaGreatDoor
open Go.RowKit Go.Maps
set_option maxRecDepth 20000
set_option linter.unusedVariables false

/-- What Measure answers. -/
noncomputable def mzE (R : List Tk) (a : Int) : Int := if a < 0 then 1 else sdE R
noncomputable def mzS (R : List Tk) (a : Int) : Int := if mzE R a = 0 then stz (lsay R) a else 0
noncomputable def mzF (R : List Tk) (a : Int) : Int := if mzE R a = 0 then 3 + bdz (ctL R) (ctD R) (fxL 288) (List.replicate 32 5) else 0
noncomputable def mzD (R : List Tk) (a : Int) : Int := if mzE R a = 0 then dyz (ctL R) (ctD R) else 0

theorem sd_ok {R : List Tk} (h : sdE R = 0) : asnd R = true ∧ sdN R = lsay R ∧ 0 ≤ lsay R ∧ lsay R ≤ 65535 ∧ R.length ≤ 65535 := by
  unfold sdE at h
  by_cases ha : asnd R = true
  · rw [if_pos ha] at h
    by_cases hb : 65535 < lsay R
    · rw [if_pos hb] at h; omega
    · have hi := lsay_in R ha
      have hge : ∀ A : List Tk, asnd A = true → (A.length : Int) ≤ lsay A := by
        intro A
        induction A with
        | nil => intro _; simp [lsay]
        | cons t A ih =>
          intro hs
          simp only [asnd, List.all_cons, Bool.and_eq_true] at hs
          have h1 := ih hs.2
          have h2 : Snd t := of_decide_eq_true hs.1
          have h3 : 1 ≤ lsayT t := by
            unfold lsayT
            unfold Snd at h2
            split
            · omega
            · rename_i q; rw [if_neg q] at h2; omega
          have h4 : lsay (t :: A) = lsayT t + lsay A := by simp [lsay]
          rw [h4, List.length_cons]
          omega
      have := hge R ha
      exact ⟨ha, by unfold sdN; rw [if_pos ha, if_neg hb], hi.1, by omega, by omega⟩
  · rw [if_neg ha] at h; omega

/-- Three numbers in a box. -/
def Bx3 (w : World) (g : Nat) (x y z : Int) : Prop := w.heap[g]? = some (.cells #[.int .i64 x, .int .i64 y, .int .i64 z] 25 (0, 0))

theorem Bx3.cells {w : World} {g : Nat} {x y z : Int} (h : Bx3 w g x y z) : w.cell? ⟨g, 0, none⟩ = some (.int .i64 x) ∧ w.cell? ⟨g, 1, none⟩ = some (.int .i64 y) ∧ w.cell? ⟨g, 2, none⟩ = some (.int .i64 z) ∧ ∀ i, w.frozen? ⟨g, i, none⟩ = false := by
  unfold Bx3 at h
  refine ⟨?_, ?_, ?_, fun i => frozen_of_row _ _ _ _ _ h⟩ <;> (unfold World.cell?; rw [h]; rfl)

theorem Bx3.put {w : World} {g : Nat} {x y z : Int} (h : Bx3 w g x y z) (a b c : Int) : Bx3 (((w.setCell ⟨g, 0, none⟩ (.int .i64 a)).setCell ⟨g, 1, none⟩ (.int .i64 b)).setCell ⟨g, 2, none⟩ (.int .i64 c)) g a b c := by
  have h1 := heap_setCell_same w g 0 _ _ (.int .i64 a) h
  have h2 := heap_setCell_same _ g 1 _ _ (.int .i64 b) h1
  have h3 := heap_setCell_same _ g 2 _ _ (.int .i64 c) h2
  unfold Bx3
  simpa using h3

end Go.Proofs.YthngagciiidppaaGreatDoor

namespace Go.Proofs.YthngagciiidppaaGreatDoor
open Go.RowKit Go.Maps
set_option maxRecDepth 20000
set_option linter.unusedVariables false

theorem run1_doc {l : List Int} {k m : Nat} {V P : Int} (hk : k < l.length) (hV : V = l.getD k 0) (hm : m = eqn V (l.drop k)) (hP : 0 < k → P = l.getD (k - 1) 0) :
    (V = 0 → 11 ≤ m → run1 l k = (18, ((min m 138 : Nat) : Int))) ∧ (V = 0 → m < 11 → 3 ≤ m → run1 l k = (17, (m : Int))) ∧ (V = 0 → m < 3 → run1 l k = (V, 1)) ∧
    (V ≠ 0 → 0 < k → P = V → 3 ≤ m → run1 l k = (16, ((min m 6 : Nat) : Int))) ∧ (V ≠ 0 → ¬ (0 < k ∧ P = V ∧ 3 ≤ m) → run1 l k = (V, 1)) := by
  unfold run1
  rw [← hV, ← hm]
  refine ⟨fun h1 h2 => ?_, fun h1 h2 h3 => ?_, fun h1 h2 => ?_, fun h1 h2 h3 h4 => ?_, fun h1 h2 => ?_⟩
  · subst h1
    rw [← hm, if_pos ⟨rfl, h2⟩]
  · subst h1
    rw [← hm, if_neg (by omega), if_pos ⟨rfl, h3⟩]
  · subst h1
    rw [← hm, if_neg (by omega), if_neg (by omega), if_neg (by omega)]
  · rw [if_neg (fun q => h1 q.1), if_neg (fun q => h1 q.1), if_pos ⟨h1, h2, by rw [← hP h2]; exact h3, h4⟩]
  · rw [if_neg (fun q => h1 q.1), if_neg (fun q => h1 q.1), if_neg (fun q => h2 ⟨q.2.1, by rw [hP q.2.1]; exact q.2.2.1, q.2.2.2⟩)]

set_option maxHeartbeats 2000000 in
theorem xrun_any (k : Nat) (v : Value) (l : List Int) (w : World) (h : SI w v l) (hk : k < l.length) (hn : l.length ≤ 1048576) :
    Calls Tryz.prog 66 #[v, .int .i64 k] w fun e w' => e = .returned (.agg #[.int .i64 (run1 l k).1, .int .i64 (run1 l k).2]) ∧ Below w.heap.size w w' := by
  have HS := hide h
  obtain ⟨ao, cap, rfl, hlc, hcm⟩ := h.open
  clear h
  obtain ⟨b, o, rfl, c0⟩ := HS.out.get (Below.refl _ _) hk
  obtain ⟨wb, hwb⟩ : ∃ wb, w.alloc (.cells #[.int .i64 0, .int .i64 0] 77) = wb := ⟨_, rfl⟩
  have hb0 : Below w.heap.size w wb := by rw [← hwb]; exact (Below.refl _ _).alloc (Nat.le_refl _) _
  have c1 : 0 < k → wb.cell? ⟨b, o + (k - 1), none⟩ = some (.int .i64 (l.getD (k - 1) 0)) := fun hz => by
    obtain ⟨b', o', e, c⟩ := HS.out.get hb0 (k := k - 1) (by omega)
    simp only [Option.some.injEq, Addr.mk.injEq, and_true] at e
    obtain ⟨rfl, rfl⟩ := e
    exact c
  have HEQ := hide (equals_any k _ l wb (HS.out.below hb0) hk hn)
  have c00 : wb.cell? ⟨b, o + k, none⟩ = some (.int .i64 (l.getD k 0)) := by
    obtain ⟨b', o', e, c⟩ := HS.out.get hb0 hk
    simp only [Option.some.injEq, Addr.mk.injEq, and_true] at e
    obtain ⟨rfl, rfl⟩ := e
    exact c
  have hg0 : wb.heap[w.heap.size]? = some (.cells #[.int .i64 0, .int .i64 0] 77 (0, 0)) := by rw [← hwb]; exact heap_alloc_new w _
  have d0 : wb.cell? ⟨w.heap.size, 0, none⟩ = some (.int .i64 0) := by unfold World.cell?; rw [hg0]; rfl
  have d1 : wb.cell? ⟨w.heap.size, 1, none⟩ = some (.int .i64 0) := by unfold World.cell?; rw [hg0]; rfl
  have e0 : wb.frozen? ⟨w.heap.size, 0, none⟩ = false := by unfold World.frozen?; rw [hg0]; rfl
  have e1 : wb.frozen? ⟨w.heap.size, 1, none⟩ = false := by unfold World.frozen?; rw [hg0]; rfl
  have HFIN : Hid (∀ q p1 p2, Below w.heap.size w (((wb.drewN q).setCell ⟨w.heap.size, 0, none⟩ (.int .i64 p1)).setCell ⟨w.heap.size, 1, none⟩ (.int .i64 p2)) ∧ (((wb.drewN q).setCell ⟨w.heap.size, 0, none⟩ (.int .i64 p1)).setCell ⟨w.heap.size, 1, none⟩ (.int .i64 p2)).heap[w.heap.size]? = some (.cells #[.int .i64 p1, .int .i64 p2] 77 (0, 0))) := fun q p1 p2 =>
    ⟨((below_drewN hb0 q).setCell (p := ⟨w.heap.size, 0, none⟩) (Nat.le_refl _) _).setCell (p := ⟨w.heap.size, 1, none⟩) (Nat.le_refl _) _, by
      have e1 : ((wb.drewN q).setCell ⟨w.heap.size, 0, none⟩ (.int .i64 p1)).heap[w.heap.size]? = _ := heap_setCell_at _ (show (wb.drewN q).heap[w.heap.size]? = _ from hg0)
      rw [heap_setCell_at _ e1]
      rfl⟩
  have HWB := hide hwb
  obtain ⟨P, hP⟩ : ∃ P, 0 < k → P = l.getD (k - 1) 0 := ⟨_, fun _ => rfl⟩
  obtain ⟨V, hV⟩ : ∃ V, V = l.getD k 0 := ⟨_, rfl⟩
  obtain ⟨m, hm⟩ : ∃ m, m = eqn V (l.drop k) := ⟨_, rfl⟩
  obtain ⟨r1, r2, r3, r4, r5⟩ := run1_doc hk hV hm hP
  have hmm : m ≤ 1048576 := by have := eqn_le V (l.drop k); rw [List.length_drop] at this; omega
  have c1' : 0 < k → wb.cell? ⟨b, o + (k - 1), none⟩ = some (.int .i64 P) := fun z => by rw [hP z]; exact c1 z
  rw [← hV] at HEQ c0 c00
  rw [← hm] at HEQ
  have HC1 := hide c1'
  have c000 : (w.alloc (.cells #[.int .i64 0, .int .i64 0] 77)).cell? ⟨b, o + k, none⟩ = some (.int .i64 V) := by rw [hwb]; exact c00
  clear hwb hb0 c1 c1' hg0 hP hV hm
  have hk' : (k : Int) < (l.length : Int) := by omega
  by_cases v0 : V = 0
  · subst v0
    by_cases m11 : 11 ≤ m
    · have HR := hide (r1 rfl m11)
      clear r1 r2 r3 r4 r5
      go_enter Tryz.func66, Tryz.ntmps66
      go_wp2_with fail
      rw [HWB.out]
      refine HEQ.out.mono ?_
      rintro e w2 ⟨rfl, q, hw2⟩
      subst hw2
      go_wp2_with fail
      refine (lesser_any m 138 _).mono ?_
      rintro e w3 ⟨rfl, hw3⟩
      subst hw3
      go_wp2
      obtain ⟨hfb, hfc⟩ := HFIN.out q (18) ((min m 138 : Nat))
      obtain ⟨wf, hwf⟩ : ∃ wf, (((wb.drewN q).setCell ⟨w.heap.size, 0, none⟩ (.int .i64 (18))).setCell ⟨w.heap.size, 1, none⟩ (.int .i64 ((min m 138 : Nat)))) = wf := ⟨_, rfl⟩
      rw [hwf] at hfb hfc ⊢
      have z0 : wf.cell? ⟨w.heap.size, 0, none⟩ = some (.int .i64 (18)) := by unfold World.cell?; rw [hfc]; rfl
      have z1 : wf.cell? ⟨w.heap.size, 1, none⟩ = some (.int .i64 ((min m 138 : Nat))) := by unfold World.cell?; rw [hfc]; rfl
      refine bodyPost_ret (v := .agg #[.int .i64 (18), .int .i64 ((min m 138 : Nat))]) (by simp [results, Tryz.results66, go_sem, z0, z1]) rfl ?_
      rw [HR.out]
      exact ⟨rfl, hfb⟩
    · by_cases m3 : 3 ≤ m
      · have HR := hide (r2 rfl (by omega) m3)
        have hm11 : ¬ (11 : Int) ≤ (m : Int) := by omega
        clear r1 r2 r3 r4 r5
        go_enter Tryz.func66, Tryz.ntmps66
        go_wp2_with fail
        rw [HWB.out]
        refine HEQ.out.mono ?_
        rintro e w2 ⟨rfl, q, hw2⟩
        subst hw2
        go_wp2
        obtain ⟨hfb, hfc⟩ := HFIN.out q (17) (m)
        obtain ⟨wf, hwf⟩ : ∃ wf, (((wb.drewN q).setCell ⟨w.heap.size, 0, none⟩ (.int .i64 (17))).setCell ⟨w.heap.size, 1, none⟩ (.int .i64 (m))) = wf := ⟨_, rfl⟩
        rw [hwf] at hfb hfc ⊢
        have z0 : wf.cell? ⟨w.heap.size, 0, none⟩ = some (.int .i64 (17)) := by unfold World.cell?; rw [hfc]; rfl
        have z1 : wf.cell? ⟨w.heap.size, 1, none⟩ = some (.int .i64 (m)) := by unfold World.cell?; rw [hfc]; rfl
        refine bodyPost_ret (v := .agg #[.int .i64 (17), .int .i64 (m)]) (by simp [results, Tryz.results66, go_sem, z0, z1]) rfl ?_
        rw [HR.out]
        exact ⟨rfl, hfb⟩
      · have HR := hide (r3 rfl (by omega))
        have hm11 : ¬ (11 : Int) ≤ (m : Int) := by omega
        have hm3 : ¬ (3 : Int) ≤ (m : Int) := by omega
        clear r1 r2 r3 r4 r5
        go_enter Tryz.func66, Tryz.ntmps66
        go_wp2_with fail
        rw [HWB.out]
        refine HEQ.out.mono ?_
        rintro e w2 ⟨rfl, q, hw2⟩
        subst hw2
        go_wp2
        obtain ⟨hfb, hfc⟩ := HFIN.out q (0) (1)
        obtain ⟨wf, hwf⟩ : ∃ wf, (((wb.drewN q).setCell ⟨w.heap.size, 0, none⟩ (.int .i64 (0))).setCell ⟨w.heap.size, 1, none⟩ (.int .i64 (1))) = wf := ⟨_, rfl⟩
        rw [hwf] at hfb hfc ⊢
        have z0 : wf.cell? ⟨w.heap.size, 0, none⟩ = some (.int .i64 (0)) := by unfold World.cell?; rw [hfc]; rfl
        have z1 : wf.cell? ⟨w.heap.size, 1, none⟩ = some (.int .i64 (1)) := by unfold World.cell?; rw [hfc]; rfl
        refine bodyPost_ret (v := .agg #[.int .i64 (0), .int .i64 (1)]) (by simp [results, Tryz.results66, go_sem, z0, z1]) rfl ?_
        rw [HR.out]
        exact ⟨rfl, hfb⟩
  · have v0' : (V == 0) = false := by simpa using v0
    have v0'' : (V != 0) = true := by simpa using v0
    by_cases k0 : 0 < k
    · have k0' : (0 : Int) < (k : Int) := by omega
      have cp := HC1.out k0
      obtain ⟨j, hj⟩ : ∃ j, k = j + 1 := ⟨k - 1, by omega⟩
      have cp2 : wb.cell? ⟨b, o + j, none⟩ = some (.int .i64 P) := by rw [hj, Nat.add_sub_cancel] at cp; exact cp
      have ej : ((k : Int) - 1).toNat = j := by omega
      have hj1 : (k : Int) - 1 = (j : Int) := by omega
      have HJ := hide hj
      by_cases pv : P = V
      · by_cases m3 : 3 ≤ m
        · have HR := hide (r4 v0 k0 pv m3)
          have m3' : (3 : Int) ≤ (m : Int) := by omega
          subst pv
          clear r1 r2 r3 r4 r5 hj
          go_enter Tryz.func66, Tryz.ntmps66
          go_wp2_with fail
          rw [HWB.out]
          refine HEQ.out.mono ?_
          rintro e w2 ⟨rfl, q, hw2⟩
          subst hw2
          go_wp2_with fail
          refine (lesser_any m 6 _).mono ?_
          rintro e w3 ⟨rfl, hw3⟩
          subst hw3
          go_wp2
          obtain ⟨hfb, hfc⟩ := HFIN.out q (16) ((min m 6 : Nat))
          obtain ⟨wf, hwf⟩ : ∃ wf, (((wb.drewN q).setCell ⟨w.heap.size, 0, none⟩ (.int .i64 (16))).setCell ⟨w.heap.size, 1, none⟩ (.int .i64 ((min m 6 : Nat)))) = wf := ⟨_, rfl⟩
          rw [hwf] at hfb hfc ⊢
          have z0 : wf.cell? ⟨w.heap.size, 0, none⟩ = some (.int .i64 (16)) := by unfold World.cell?; rw [hfc]; rfl
          have z1 : wf.cell? ⟨w.heap.size, 1, none⟩ = some (.int .i64 ((min m 6 : Nat))) := by unfold World.cell?; rw [hfc]; rfl
          refine bodyPost_ret (v := .agg #[.int .i64 (16), .int .i64 ((min m 6 : Nat))]) (by simp [results, Tryz.results66, go_sem, z0, z1]) rfl ?_
          rw [HR.out]
          exact ⟨rfl, hfb⟩
        · have HR := hide (r5 v0 (fun q => m3 q.2.2))
          have m3' : ¬ (3 : Int) ≤ (m : Int) := by omega
          subst pv
          clear r1 r2 r3 r4 r5 hj
          go_enter Tryz.func66, Tryz.ntmps66
          go_wp2_with fail
          rw [HWB.out]
          refine HEQ.out.mono ?_
          rintro e w2 ⟨rfl, q, hw2⟩
          subst hw2
          go_wp2
          obtain ⟨hfb, hfc⟩ := HFIN.out q (P) (1)
          obtain ⟨wf, hwf⟩ : ∃ wf, (((wb.drewN q).setCell ⟨w.heap.size, 0, none⟩ (.int .i64 (P))).setCell ⟨w.heap.size, 1, none⟩ (.int .i64 (1))) = wf := ⟨_, rfl⟩
          rw [hwf] at hfb hfc ⊢
          have z0 : wf.cell? ⟨w.heap.size, 0, none⟩ = some (.int .i64 (P)) := by unfold World.cell?; rw [hfc]; rfl
          have z1 : wf.cell? ⟨w.heap.size, 1, none⟩ = some (.int .i64 (1)) := by unfold World.cell?; rw [hfc]; rfl
          refine bodyPost_ret (v := .agg #[.int .i64 (P), .int .i64 (1)]) (by simp [results, Tryz.results66, go_sem, z0, z1]) rfl ?_
          rw [HR.out]
          exact ⟨rfl, hfb⟩
      · have HR := hide (r5 v0 (fun q => pv q.2.1))
        have pv' : (P == V) = false := by simpa using pv
        clear r1 r2 r3 r4 r5 hj
        go_enter Tryz.func66, Tryz.ntmps66
        go_wp2_with fail
        rw [HWB.out]
        refine HEQ.out.mono ?_
        rintro e w2 ⟨rfl, q, hw2⟩
        subst hw2
        go_wp2
        obtain ⟨hfb, hfc⟩ := HFIN.out q (V) (1)
        obtain ⟨wf, hwf⟩ : ∃ wf, (((wb.drewN q).setCell ⟨w.heap.size, 0, none⟩ (.int .i64 (V))).setCell ⟨w.heap.size, 1, none⟩ (.int .i64 (1))) = wf := ⟨_, rfl⟩
        rw [hwf] at hfb hfc ⊢
        have z0 : wf.cell? ⟨w.heap.size, 0, none⟩ = some (.int .i64 (V)) := by unfold World.cell?; rw [hfc]; rfl
        have z1 : wf.cell? ⟨w.heap.size, 1, none⟩ = some (.int .i64 (1)) := by unfold World.cell?; rw [hfc]; rfl
        refine bodyPost_ret (v := .agg #[.int .i64 (V), .int .i64 (1)]) (by simp [results, Tryz.results66, go_sem, z0, z1]) rfl ?_
        rw [HR.out]
        exact ⟨rfl, hfb⟩
    · have HR := hide (r5 v0 (fun q => k0 q.1))
      have k0' : ¬ (0 : Int) < (k : Int) := by omega
      clear r1 r2 r3 r4 r5
      go_enter Tryz.func66, Tryz.ntmps66
      go_wp2_with fail
      rw [HWB.out]
      refine HEQ.out.mono ?_
      rintro e w2 ⟨rfl, q, hw2⟩
      subst hw2
      go_wp2
      obtain ⟨hfb, hfc⟩ := HFIN.out q (V) (1)
      obtain ⟨wf, hwf⟩ : ∃ wf, (((wb.drewN q).setCell ⟨w.heap.size, 0, none⟩ (.int .i64 (V))).setCell ⟨w.heap.size, 1, none⟩ (.int .i64 (1))) = wf := ⟨_, rfl⟩
      rw [hwf] at hfb hfc ⊢
      have z0 : wf.cell? ⟨w.heap.size, 0, none⟩ = some (.int .i64 (V)) := by unfold World.cell?; rw [hfc]; rfl
      have z1 : wf.cell? ⟨w.heap.size, 1, none⟩ = some (.int .i64 (1)) := by unfold World.cell?; rw [hfc]; rfl
      refine bodyPost_ret (v := .agg #[.int .i64 (V), .int .i64 (1)]) (by simp [results, Tryz.results66, go_sem, z0, z1]) rfl ?_
      rw [HR.out]
      exact ⟨rfl, hfb⟩
end Go.Proofs.YthngagciiidppaaGreatDoor

namespace Go.Proofs.YthngagciiidppaaGreatDoor
open Go.RowKit Go.Maps
set_option maxRecDepth 20000
set_option linter.unusedVariables false

theorem boxOf {w : World} {g : Nat} {a b : Value} {t : TypeId} {fr : Nat × Nat} (h : w.heap[g]? = some (.cells #[a, b] t fr)) : w.cell? ⟨g, 0, none⟩ = some a ∧ w.cell? ⟨g, 1, none⟩ = some b := by
  constructor <;> (unfold World.cell?; rw [h]; rfl)

set_option maxHeartbeats 2000000 in
theorem xruns_any (v : Value) (l : List Int) (w : World) (h : SI w v l) (hn : l.length ≤ 1048576) :
    Calls Tryz.prog 38 #[v] w fun e w' => ∃ u, e = .returned (.tuple #[u, .int .i64 (rnE l)]) ∧ OR w' w.heap.size u (rnL l) ∧ Below w.heap.size w w' := by
  have HS := hide h
  obtain ⟨ao, cap, rfl, hlc, hcm⟩ := h.open
  clear h
  go_enter Tryz.func38, Tryz.ntmps38
  go_wp2_with fail
  refine (xlengths_any _ l w HS.out).mono ?_
  rintro e w1 ⟨rfl, hw1⟩
  subst hw1
  by_cases hw : wthb l = true
  · have HE : Hid (rnE l = 0 ∧ rnL l = rns l) := ⟨by unfold rnE; rw [if_pos hw], by unfold rnL; rw [if_pos hw]⟩
    rw [hw]
    go_wp2
    go_loopw [5, 6] (fun u i wr => ∃ (k : Nat) (R : List Rn), k ≤ l.length ∧ i = .int .i64 k ∧ R.length ≤ k ∧ Hid (rns l = R ++ rnK l k) ∧ Hid (OR wr w1.heap.size u R) ∧ Hid (Below w1.heap.size w1 wr)) (fun _ i _ => l.length - (intOf i).toNat)
    case atStart => exact ⟨0, [], Nat.zero_le _, rfl, Nat.le_refl _, rfl, OR.nil _ _, Below.refl _ _⟩
    case round =>
      obtain ⟨k, R, hk, rfl, hR, HR, HO, HB⟩ := hrel
      by_cases hlt : k < l.length
      · have hlt' : (k : Int) < (l.length : Int) := by omega
        obtain ⟨c, hc, _⟩ := run1_cnt hlt
        obtain ⟨p1, hp1⟩ : ∃ p1, (run1 l k).1 = p1 := ⟨_, rfl⟩
        obtain ⟨hm1, hm2, hm3, hm4, hm5⟩ := rns_more (c := c) (p1 := p1) hlt HR.out hR (Prod.ext hp1 hc)
        have HM4 := hide hm4
        have HX := hide (xrun_any k _ l wr (HS.out.below HB.out) hlt hn)
        rw [hp1, hc] at HX
        obtain ⟨a1, q1, hu, _⟩ := HO.out.shape
        subst hu
        clear hm4 HR hp1 hc
        go_wp2_with fail
        refine HX.out.mono ?_
        rintro e w2 ⟨rfl, hb2⟩
        have hs2 : w1.heap.size ≤ w2.heap.size := Nat.le_trans HB.out.size hb2.size
        have HB2 := hide (HB.out.trans (hb2.mono HB.out.size))
        obtain ⟨wx, hwx⟩ : ∃ wx, w2.alloc (.cells #[.int .i64 p1, .int .i64 c] 77) = wx := ⟨_, rfl⟩
        have hsx : wx.heap.size = w2.heap.size + 1 := by rw [← hwx]; simp
        have HBX : Hid (Below w1.heap.size w1 wx) := by rw [← hwx]; exact hide (HB2.out.alloc hs2 _)
        have HOX : Hid (OR wx w1.heap.size (.slice a1 R.length q1) R) := by rw [← hwx]; exact hide ((HO.out.below hb2 (Nat.le_refl _)).alloc _)
        have hgx : wx.heap[w2.heap.size]? = some (.cells #[.int .i64 p1, .int .i64 c] 77 (0, 0)) := by rw [← hwx]; exact heap_alloc_new w2 _
        obtain ⟨z0, z1⟩ := boxOf hgx
        have HGX := hide hgx
        have HOL : Hid (∀ j, (Value.slice a1 R.length q1).ownBlock = some j → j < w2.heap.size) := fun j hj => by
          have := (HO.out.below hb2 (Nat.le_refl _)).lt j hj
          omega
        have HSX := hide hsx
        have hsx2 : w1.heap.size ≤ wx.heap.size := by omega
        clear hb2 HX hgx hsx
        go_wp2_with (at_builtin; refine wpRun rfl _ _ rfl w1.heap.size (.slice a1 R.length q1) R p1 (c : Int) rfl HOX.out _ rfl (by omega) hsx2 ?_)
        intro v3 w3 ho3 hg3
        have y3 : w3.heap[w2.heap.size]? = some (.cells #[.int .i64 p1, .int .i64 c] 77 (0, 0)) := by
          have e1 := hg3.block w2.heap.size (by simp; have := HSX.out; omega) (fun e => by have := HOL.out _ e.symm; omega)
          rw [e1, Below.heap_alloc wx _ _ (by have := HSX.out; omega)]
          exact HGX.out
        obtain ⟨z3, z4⟩ := boxOf y3
        have HN3 : Hid (OR w3 w1.heap.size v3 (R ++ [(p1, (c : Int))]) ∧ Below w1.heap.size w1 w3) := ⟨ho3, grow_run HBX.out (Nat.le_refl _) HOX.out hg3⟩
        clear ho3 hg3 y3 z0 z1
        go_wp2
        go_roundw
        case rel => exact ⟨k + c, _, hm1, by go_num, hm5, HM4, HN3.out.1, HN3.out.2⟩
        case measure => simp [intOf]; omega
      · obtain rfl : k = l.length := by omega
        have hlt' : ¬ (l.length : Int) < (l.length : Int) := by omega
        have HF : Hid (OR wr w1.heap.size u5 (rnL l)) := by
          have := HR.out
          rw [rnK_end (Nat.le_refl _), List.append_nil] at this
          show OR _ _ _ _
          rw [HE.out.2, this]
          exact HO.out
        go_wp2
        go_ret2
        rw [HE.out.1]
        exact ⟨_, rfl, HF.out, HB.out⟩
  · have HE : Hid (rnE l = 1 ∧ rnL l = []) := ⟨by unfold rnE; rw [if_neg hw], by unfold rnL; rw [if_neg hw]⟩
    have hw' : wthb l = false := by simpa using hw
    rw [hw']
    go_wp2
    go_ret2
    rw [HE.out.1, HE.out.2]
    exact ⟨_, rfl, OR.nil _ _, Below.refl _ _⟩

theorem xfurther_any (s : Nat) (w : World) (hs : s < 19) : Calls Tryz.prog 41 #[.int .i64 s] w fun e w' => e = .returned (.tuple #[.int .i64 (frt s : Nat), .int .i64 (lst s)]) ∧ w' = w := by
  by_cases h16 : s = 16
  · subst h16
    go_enter Tryz.func41, Tryz.ntmps41
    go_wp2
    go_ret2
    exact ⟨rfl, rfl⟩
  · by_cases h17 : s = 17
    · subst h17
      go_enter Tryz.func41, Tryz.ntmps41
      go_wp2
      go_ret2
      exact ⟨rfl, rfl⟩
    · by_cases h18 : s = 18
      · subst h18
        go_enter Tryz.func41, Tryz.ntmps41
        go_wp2
        go_ret2
        exact ⟨rfl, rfl⟩
      · have g1 : ((s : Int) == 16) = false := by simp; omega
        have g2 : ((s : Int) == 17) = false := by simp; omega
        have g3 : ((s : Int) == 18) = false := by simp; omega
        have HE : Hid (frt s = 0 ∧ lst s = 1) := by unfold frt lst; rw [if_pos (by omega), if_pos (by omega)]; exact hide ⟨rfl, rfl⟩
        go_enter Tryz.func41, Tryz.ntmps41
        go_wp2
        go_ret2
        rw [HE.out.1, HE.out.2]
        exact ⟨rfl, rfl⟩

end Go.Proofs.YthngagciiidppaaGreatDoor

