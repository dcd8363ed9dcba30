import Derived.Test.YtiabhmdefaabgacGreatDoorGSpl
import Derived.Test.YtiabhmdefaabgacGreatDoorGMk4
import Derived.Test.YtiabhmdefaabgacGreatDoorGRn
import Derived.Test.YtiabhmdefaabgacGreatDoorGRr
namespace Go.Proofs.YtiabhmdefaabgacGreatDoor
open Go.RowKit Go.Maps
set_option maxRecDepth 20000
set_option linter.unusedVariables false

/-- What Write answers, and what is written then. -/
noncomputable def wrE (l d row : List Int) : Int := if mkE l d ≠ 0 then mkE l d else joinE row (mkB l d)
noncomputable def wrR (l d row : List Int) : List Int := if mkE l d ≠ 0 then row else joinRow row (mkB l d)

set_option maxHeartbeats 2000000 in
theorem hwrite {W w : World} {xs : List ((Nat → Nat) × Thing)} (H : Herd W w xs) (i : Nat) {K : Nat → Nat} {g : Nat} {row : List Int} (hi : xs[i]? = some (K, tw g row)) (v1 v2 : Value) (l d : List Int) (s1 : SI w v1 l) (s2 : SI w v2 d) (T : Tab W) (O : Odr W) :
    Calls Tryz.prog 6 #[.pointer (some ⟨g, 0, none⟩), v1, v2] w fun e w' => e = .returned (.int .i64 (wrE l d row)) ∧ ∃ K', Herd W w' (xs.set i (K', tw g (wrR l d row))) := by
  have HH := hide H
  have HI := hide hi
  have HMK := hide (make_any v1 v2 l d w s1 s2 (T.mono H.bel) (O.mono H.bel))
  have HT := hide T
  have HO := hide O
  obtain ⟨a1, c1, rfl, -, -⟩ := s1.open
  obtain ⟨a2, c2, rfl, -, -⟩ := s2.open
  clear H hi s1 s2 T O
  go_enter Tryz.func6, Tryz.ntmps6
  go_wp2_with fail
  refine HMK.out.mono ?_
  rintro e w1 ⟨hyn, b1⟩
  have H1 := hide (HH.out.below b1)
  rcases hyn with ⟨hne, hno⟩ | ⟨h0, vL, vD, vC, vR, rfl, hmk⟩
  · unfold MkNo at hno
    subst hno
    have HF : Hid (wrE l d row = mkE l d ∧ wrR l d row = row) := ⟨if_pos hne, if_pos hne⟩
    have g0 : (mkE l d != 0) = true := by simpa using hne
    clear b1
    go_wp2
    go_ret
    rw [HF.out.1, HF.out.2]
    exact ⟨rfl, K, (H1.out.below ((Below.refl _ _).alloc (Nat.le_refl _) _)).same HI.out⟩
  · obtain ⟨aL, cL, rfl⟩ := hmk.l.shape
    obtain ⟨aD, cD, rfl⟩ := hmk.d.shape
    obtain ⟨aC, cC, rfl⟩ := hmk.c.shape
    obtain ⟨aR, cR, rfl, hr1, hr2⟩ := hmk.r.shape
    have HMK2 := hide hmk
    obtain ⟨wb, hwb⟩ : ∃ wb, w1.alloc (.cells #[.slice aL (mkL l).length cL, .slice aD (mkD d).length cD, .slice aC (mkC l d).length cC, .slice aR (mkR l d).length cR, .int .i64 (mkZ l d)] 45) = wb := ⟨_, rfl⟩
    have hb0 : Below w1.heap.size w1 wb := by rw [← hwb]; exact (Below.refl _ _).alloc (Nat.le_refl _) _
    have hbx : Hbox wb w1.heap.size (.slice aL (mkL l).length cL) (.slice aD (mkD d).length cD) (.slice aC (mkC l d).length cC) (.slice aR (mkR l d).length cR) (.int .i64 (mkZ l d)) := by rw [← hwb]; exact heap_alloc_new w1 _
    have H2 := hide (H1.out.below hb0)
    have hmk2 := hmk.below hb0
    obtain ⟨f1, f2, f3, f4, f5, f6, f7, f8, f9, f10⟩ := mk_facts h0
    obtain ⟨k1, k2, k3, k4, k5⟩ := mk_small h0
    have HSP := hide (spell_any aL aD aC aR cL cD cC cR (mkZ l d) (mkL l) (mkD d) (mkC l d) (mkR l d) wb hmk2.c.sb hmk2.r.sr (HT.out.mono H2.out.bel) (HO.out.mono H2.out.bel) k1 k2 f8 k3 (dc_bk k5) f9 f3 f4 f5 f6)
    have HF : Hid (wrE l d row = joinE row (mkB l d) ∧ wrR l d row = joinRow row (mkB l d)) := ⟨if_neg (by simp [h0]), if_neg (by simp [h0])⟩
    have HWB := hide hwb
    obtain ⟨x0, x1, x2, x3, x4⟩ := hbx.cells
    clear hwb hb0 hbx hmk2 hmk f1 f2 f3 f4 f5 f6 f7 f8 f9 f10 k1 k2 k3 k4 k5 h0 b1
    go_wp2_with fail
    rw [HWB.out]
    refine HSP.out.mono ?_
    rintro e w2 ⟨gx, Kx, rfl, hwp, hup, hbl⟩
    have H3 := hide (H2.out.push hbl (x := tw gx (mkB l d)) hwp hup)
    have HJ := hide (hjoin H3.out i xs.length (get_front HI.out) (get_last _ _) (by have := (List.getElem?_eq_some_iff.1 HI.out).1; omega))
    clear hwp hup hbl
    go_wp2_with fail
    refine HJ.out.mono ?_
    rintro e w3 ⟨rfl, K', H4⟩
    rw [setf HI.out] at H4
    have HH4 := hide H4.front
    clear H4
    go_wp2
    go_ret
    rw [HF.out.1, HF.out.2]
    exact ⟨rfl, K', HH4.out⟩
end Go.Proofs.YtiabhmdefaabgacGreatDoor

