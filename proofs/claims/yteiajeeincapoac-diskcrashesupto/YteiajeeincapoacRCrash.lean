import Derived.Test.YteiajeeincapoacROutW
import Derived.Test.YteiajeeincapoacRTurn
namespace Go.Proofs.Yteiajeeincapoac
open Go.RowKit Go.Maps

theorem rrep_of {w' : World} {g B : Nat} {vn vd : Value} {l : List Int} {c : Nat} (hrc : RC w' g c vn vd (.slice none 0 0) (.slice none 0 0) 0 (-1) true) (hn : OB w' B vn l) (hd : OB w' B vd l) (hap : Apart vn vd) (hg : B ≤ g) :
    ∃ K, RRep w' K g (rsNew l c) ∧ ∀ k, K k ≠ 0 → B ≤ k := by
  have ng : ∀ k, vn.ownBlock = some k → k ≠ g := by
    intro k hk e
    obtain ⟨cur, fr, hc⟩ := hn.block hk
    subst e
    unfold RC at hrc
    rw [hrc] at hc
    simp at hc
  have nd : ∀ k, vd.ownBlock = some k → k ≠ g := by
    intro k hk e
    obtain ⟨cur, fr, hc⟩ := hd.block hk
    subst e
    unfold RC at hrc
    rw [hrc] at hc
    simp at hc
  refine ⟨fun k => if k = g then 1 else if vn.ownBlock = some k then 2 else if vd.ownBlock = some k then 3 else 0, ⟨vn, vd, .slice none 0 0, .slice none 0 0, ?_⟩, ?_⟩
  · refine { rc := hrc, kg := by simp, hn := hn.base (Nat.zero_le _), kn := ?_, hd := hd.base (Nat.zero_le _), kd := ?_, hp := ⟨[], trivial, World.ownsRow_nil _ _ _ _⟩, kp := fun k hk => by simp [Value.ownBlock] at hk, hs := World.ownsRow_nil _ _ _ _, ks := fun k hk => by simp [Value.ownBlock] at hk, sup := ?_ }
    · intro k hk
      simp [ng k hk, hk]
    · intro k hk
      have : vn.ownBlock ≠ some k := fun e => hap k e hk
      simp [nd k hk, hk, this]
    · intro k hk
      by_cases e1 : k = g
      · subst e1; exact hrc.lt
      by_cases e2 : vn.ownBlock = some k
      · exact (hn.lt k e2).2
      by_cases e3 : vd.ownBlock = some k
      · exact (hd.lt k e3).2
      simp [e1, e2, e3] at hk
  · intro k hk
    by_cases e1 : k = g
    · omega
    by_cases e2 : vn.ownBlock = some k
    · exact (hn.lt k e2).1
    by_cases e3 : vd.ownBlock = some k
    · exact (hd.lt k e3).1
    simp [e1, e2, e3] at hk

set_option maxRecDepth 20000 in
set_option maxHeartbeats 4000000 in
theorem rcrash_any {w : World} {K : Nat → Nat} {g : Nat} {st : RSt} {vsec : Value} {sec : List Int} (size rest : Int) (h : RRep w K g st) (hz : st.sizes.length ≤ 2000000) (hsec : SI w vsec sec) (hb : rbehind st size ≤ 16777216) (hd : st.dur.length ≤ 16777216) (hp : RBd st.rps) (hpl : st.rps.length ≤ 100000000000) (hps : ∀ p ∈ st.rps, p.2.1 + p.2.2.length ≤ 16777216) :
    Calls Try.prog 10 #[.pointer (some ⟨g, 0, none⟩), .agg #[.int .i64 size, vsec, .int .i64 rest]] w fun e w' => ∃ g' K2, e = .returned (.tuple #[.pointer (some ⟨g', 0, none⟩), .int .i64 0]) ∧
      RRep w' K g { st with live := false } ∧ RRep w' K2 g' (rsNew (rOut (resz st.dur (rbehind st size)) sec rest st.rps) st.room) ∧ (∀ k, K2 k ≠ 0 → w.heap.size ≤ k) ∧ Fr K K w w' := by
  have HR := hide h
  have HSec := hide hsec
  obtain ⟨asec, csec, hv, _⟩ := hsec
  subst hv
  obtain ⟨N, hN⟩ : ∃ N, N = rbehind st size := ⟨_, rfl⟩
  have hOL : (rOut (resz st.dur (rbehind st size)) sec rest st.rps).length = rbehind st size := by rw [length_rOut, length_resz]
  obtain ⟨O, hO⟩ : ∃ O, O = rOut (resz st.dur (rbehind st size)) sec rest st.rps := ⟨_, rfl⟩
  rw [← hO] at hOL ⊢
  rw [← hN] at hOL
  have hNb : N ≤ 16777216 := by rw [hN]; exact hb
  have HHN := hide hN
  have HHO := hide hO
  have HOL := hide hOL
  obtain ⟨W0, hW0⟩ : ∃ W0, W0 = w.alloc (.cells #[.int .i64 size, .slice asec sec.length csec, .int .i64 rest] 26) := ⟨_, rfl⟩
  have HW0 := hide hW0
  have hb0 : Below w.heap.size w W0 := by rw [hW0]; exact (Below.refl _ _).alloc (Nat.le_refl _) _
  have HS0 : Hid (W0.heap.size = w.heap.size + 1) := by show _ = _; rw [hW0]; exact size_alloc' _ _
  have HB0 := hide hb0
  have HOUT := hide (routcome_any size rest (HR.out.below hb0) hz (HSec.out.below hb0) hb hd hp hpl hps)
  rw [← hO, ← hN] at HOUT
  clear h hb0 hW0 hN hO hOL hb hp hps
  go_enter Try.func10, Try.ntmps10
  go_wp2_with fail
  rw [← HW0.out]
  refine HOUT.out.mono ?_
  rintro e w1 ⟨a1, c1, rfl, ho1, hb1⟩
  obtain ⟨vn, vd, vp, vs, hV⟩ := (HR.out.below HB0.out).below hb1
  obtain ⟨q0, _, _, _, _, _, _, q7⟩ := hV.rc.at
  have hfz := hV.rc.free
  have HV := hide hV
  have HO1 := hide ho1
  have HB1 := hide hb1
  clear hV ho1 hb1
  have hgw : g < w.heap.size := by obtain ⟨_, _, _, _, hV'⟩ := HR.out; exact hV'.rc.lt
  have hz1 := HB1.out.size
  have hz0 := HS0.out
  obtain ⟨W2, HW2⟩ : ∃ W2, Hid (W2 = w1.setCell ⟨g, 7, none⟩ (.bool false)) := ⟨_, rfl⟩
  have HSz : Hid (W2.heap.size = w1.heap.size) := by show _ = _; rw [HW2.out]; exact size_setCell _ _ _
  have HOth : Hid (∀ k, k ≠ g → W2.heap[k]? = w1.heap[k]?) := by rw [HW2.out]; exact fun k hk => setCell_others w1 g 7 _ k hk
  have HO2 : Hid (OB W2 W0.heap.size (.slice a1 N c1) O) := HO1.out.move fun k hk => HOth.out k (by have := HO1.out.lt k hk; omega)
  have hq2 : W2.cell? ⟨g, 0, none⟩ = some (.int .i64 st.room) := by rw [HW2.out]; have := (HV.out.rc.set.2.2.2.2.2.2 false); exact this.at.1
  have HRD : Hid (RRep W2 K g { st with live := false }) := by
    have h := HV.out
    refine ⟨vn, vd, vp, vs, ?_⟩
    have hrc : RC W2 g st.room vn vd vp vs st.calls st.fuse false := by rw [HW2.out]; exact h.rc.set.2.2.2.2.2.2 false
    exact h.move (by rw [HSz.out]; exact Nat.le_refl _) (fun k h0 h1 => HOth.out k (fun e => h1 (by rw [e]; exact h.kg))) hrc
  have HFR : Hid (Fr K K w W2) := by
    have h1 : Fr K K w w1 := (Fr.of_below HB0.out).trans (Fr.of_below HB1.out)
    have h2 : Fr K K w1 (w1.setCell ⟨g, 7, none⟩ (.bool false)) := fr_setCell HV.out.kg
    rw [HW2.out]
    exact h1.trans h2
  go_wp2
  clear q0 q7 hfz
  rw [← HW2.out]
  have hq3 : W2.drew.cell? ⟨g, 0, none⟩ = some (.int .i64 st.room) := hq2
  have HO3 : Hid (OB W2.drew W0.heap.size (.slice a1 N c1) O) := HO2.out.move fun _ _ => rfl
  go_region_held3 (fun w' => w'.cell? ⟨g, 0, none⟩ = some (.int .i64 st.room)) (go_keep)
    (first
      | (go_at_call 35; refine (rClone_any _ O _ (by exact HO3.out.sb) (by exact (by have := HOL.out; omega))).mono ?_; rintro e w3 ⟨vc, rfl, hvc, hoc, hb3⟩; subst hvc; have n0 := keep1 hb3 hq3))
  have HOC := hide hoc
  have HB3 := hide hb3
  clear hoc hb3 n0
  go_wp2
  go_ret2
  have hz3 : W2.heap.size ≤ w3.heap.size := HB3.out.size
  have hz2 := HSz.out
  obtain ⟨w4, hw4⟩ : ∃ w4, w4 = w3.alloc (.cells #[Value.int IntKind.i64 st.room, Value.slice a1 N c1, Value.slice (some { block := W2.heap.size, off := 0, spot := none }) O.length O.length, Value.slice none 0 0, Value.slice none 0 0, Value.int IntKind.i64 0, Value.int IntKind.i64 (-1), Value.bool true] 65) := ⟨_, rfl⟩
  rw [← hw4]
  have hb4 : Below w3.heap.size w3 w4 := by rw [hw4]; exact (Below.refl _ _).alloc (Nat.le_refl _) _
  have hrc : RC w4 w3.heap.size st.room (.slice a1 N c1) (.slice (some ⟨W2.heap.size, 0, none⟩) O.length O.length) (.slice none 0 0) (.slice none 0 0) 0 (-1) true := by rw [hw4]; exact heap_alloc_new _ _
  have hn : OB w4 w.heap.size (.slice a1 N c1) O := (((HO3.out.below HB3.out (Nat.le_refl _)).below hb4 (Nat.le_refl _)).base (by omega))
  have hd' : OB w4 w.heap.size (.slice (some ⟨W2.heap.size, 0, none⟩) O.length O.length) O := (HOC.out.below hb4 (Nat.le_refl _)).base (show w.heap.size ≤ W2.heap.size by omega)
  have hap : Apart (.slice a1 N c1) (.slice (some ⟨W2.heap.size, 0, none⟩) O.length O.length) := by
    intro k hk e
    have h1 := (HO2.out.lt k hk).2
    simp [Value.ownBlock] at e
    omega
  obtain ⟨K2, hR2, hK2⟩ := rrep_of hrc hn hd' hap (by omega)
  refine ⟨_, K2, rfl, ?_, hR2, hK2, ?_⟩
  · have h3 : RRep W2.drew K g { st with live := false } := HRD.out.below (Below.refl _ _).drew
    exact (h3.below HB3.out).below hb4
  · exact (HFR.out.trans (Fr.of_below (K := K) (Below.refl W2.heap.size W2).drew)).trans ((Fr.of_below HB3.out).trans (Fr.of_below hb4))
end Go.Proofs.Yteiajeeincapoac
