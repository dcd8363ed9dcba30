import Derived.Test.YtiabhmdefaabgabDoorGSpl
import Derived.Test.YtiabhmdefaabgabDoorGMk5
import Derived.Test.YtiabhmdefaabgabDoorGRn
import Derived.Test.YtiabhmdefaabgabDoorGRr
import Derived.Test.YtiabhmdefaabgabDoorGMk1
namespace Go.Proofs.YtiabhmdefaabgabDoor
open Go.RowKit Go.Maps
set_option maxRecDepth 20000
set_option linter.unusedVariables false

/-- What Write answers, and what is written then. -/
noncomputable def wrE (l d row : List Int) : Int := if mkE l d ≠ 0 then mkE l d else joinE row (mkB l d)
noncomputable def wrR (l d row : List Int) : List Int := if mkE l d ≠ 0 then row else joinRow row (mkB l d)

set_option maxHeartbeats 2000000 in
theorem hwrite {W w : World} {xs : List ((Nat → Nat) × Thing)} (H : Herd W w xs) (i : Nat) {K : Nat → Nat} {g : Nat} {row : List Int} (hi : xs[i]? = some (K, tw g row)) (v1 v2 : Value) (l d : List Int) (s1 : SI w v1 l) (s2 : SI w v2 d) (T : Tab W) (O : Odr W) :
    Calls Tryd.prog 13 #[.pointer (some ⟨g, 0, none⟩), v1, v2] w fun e w' => e = .returned (.int .i64 (wrE l d row)) ∧ ∃ K', Herd W w' (xs.set i (K', tw g (wrR l d row))) := by
  have HH := hide H
  have HI := hide hi
  have HMK := hide (make_any v1 v2 l d w s1 s2 (T.mono H.bel) (O.mono H.bel))
  have HT := hide T
  have HO := hide O
  obtain ⟨a1, c1, rfl, -, -⟩ := s1.open
  obtain ⟨a2, c2, rfl, -, -⟩ := s2.open
  clear H hi s1 s2 T O
  go_enter Tryd.func13, Tryd.ntmps13
  go_wp2_with fail
  refine HMK.out.mono ?_
  rintro e w1 ⟨hyn, b1⟩
  have H1 := hide (HH.out.below b1)
  rcases hyn with ⟨hne, hno⟩ | ⟨h0, vL, vD, vC, vR, rfl, hmk⟩
  · unfold MkNo at hno
    subst hno
    have HF : Hid (wrE l d row = mkE l d ∧ wrR l d row = row) := ⟨if_pos hne, if_pos hne⟩
    have g0 : (mkE l d != 0) = true := by simpa using hne
    clear b1
    go_wp2
    go_ret
    rw [HF.out.1, HF.out.2]
    exact ⟨rfl, K, (H1.out.below ((Below.refl _ _).alloc (Nat.le_refl _) _)).same HI.out⟩
  · obtain ⟨aL, cL, rfl⟩ := hmk.l.shape
    obtain ⟨aD, cD, rfl⟩ := hmk.d.shape
    obtain ⟨aC, cC, rfl⟩ := hmk.c.shape
    obtain ⟨aR, cR, rfl, hr1, hr2⟩ := hmk.r.shape
    have HMK2 := hide hmk
    obtain ⟨wb, hwb⟩ : ∃ wb, w1.alloc (.cells #[.slice aL (mkL l).length cL, .slice aD (mkD d).length cD, .slice aC (mkC l d).length cC, .slice aR (mkR l d).length cR, .int .i64 (mkZ l d)] 26) = wb := ⟨_, rfl⟩
    have hb0 : Below w1.heap.size w1 wb := by rw [← hwb]; exact (Below.refl _ _).alloc (Nat.le_refl _) _
    have hbx : Hbox wb w1.heap.size (.slice aL (mkL l).length cL) (.slice aD (mkD d).length cD) (.slice aC (mkC l d).length cC) (.slice aR (mkR l d).length cR) (.int .i64 (mkZ l d)) := by rw [← hwb]; exact heap_alloc_new w1 _
    have H2 := hide (H1.out.below hb0)
    have hmk2 := hmk.below hb0
    obtain ⟨f1, f2, f3, f4, f5, f6, f7, f8, f9, f10⟩ := mk_facts h0
    obtain ⟨k1, k2, k3, k4, k5⟩ := mk_small h0
    have HSP := hide (spell_any aL aD aC aR cL cD cC cR (mkZ l d) (mkL l) (mkD d) (mkC l d) (mkR l d) wb hmk2.c.sb hmk2.r.sr (HT.out.mono H2.out.bel) (HO.out.mono H2.out.bel) k1 k2 f8 k3 (dc_bk k5) f9 f3 f4 f5 f6)
    have HF : Hid (wrE l d row = joinE row (mkB l d) ∧ wrR l d row = joinRow row (mkB l d)) := ⟨if_neg (by simp [h0]), if_neg (by simp [h0])⟩
    have HWB := hide hwb
    obtain ⟨x0, x1, x2, x3, x4⟩ := hbx.cells
    clear hwb hb0 hbx hmk2 hmk f1 f2 f3 f4 f5 f6 f7 f8 f9 f10 k1 k2 k3 k4 k5 h0 b1
    go_wp2_with fail
    rw [HWB.out]
    refine HSP.out.mono ?_
    rintro e w2 ⟨gx, Kx, rfl, hwp, hup, hbl⟩
    have H3 := hide (H2.out.push hbl (x := tw gx (mkB l d)) hwp hup)
    have HJ := hide (hjoin H3.out i xs.length (get_front HI.out) (get_last _ _) (by have := (List.getElem?_eq_some_iff.1 HI.out).1; omega))
    clear hwp hup hbl
    go_wp2_with fail
    refine HJ.out.mono ?_
    rintro e w3 ⟨rfl, K', H4⟩
    rw [setf HI.out] at H4
    have HH4 := hide H4.front
    clear H4
    go_wp2
    go_ret
    rw [HF.out.1, HF.out.2]
    exact ⟨rfl, K', HH4.out⟩
end Go.Proofs.YtiabhmdefaabgabDoor

namespace Go.Proofs.YtiabhmdefaabgabDoor
open Go.RowKit Go.Maps
set_option maxRecDepth 20000
set_option linter.unusedVariables false

theorem getD_out {l : List Int} {k : Nat} (h : ¬ k < l.length) : l.getD k 0 = 0 := by rw [List.getD_eq_getElem?_getD, List.getElem?_eq_none (by omega)]; rfl

set_option maxHeartbeats 1000000 in
theorem begins_any (v1 v2 : Value) (l m : List Int) (w : World) (s1 : SI w v1 l) (s2 : SI w v2 m) (he : ∀ k, l.getD k 0 = m.getD k 0) :
    Calls Tryd.prog 16 #[v1, v2] w fun e w' => e = .returned (.bool true) ∧ w' = w := by
  have H1 := hide s1
  have H2 := hide s2
  have HE := hide he
  obtain ⟨a1, c1, rfl, hc1, hd1⟩ := s1.open
  obtain ⟨a2, c2, rfl, hc2, hd2⟩ := s2.open
  clear s1 s2 he
  go_enter Tryd.func16, Tryd.ntmps16
  go_wp2
  go_loopw [5] (fun i wr => ∃ k : Nat, i = .int .i64 k ∧ wr = w ∧ k ≤ max l.length m.length) (fun i _ => max l.length m.length - (intOf i).toNat)
  case atStart => exact ⟨0, rfl, rfl, Nat.zero_le _⟩
  case round =>
    obtain ⟨k, rfl, rfl, hk⟩ := hrel
    have hek := HE.out k
    by_cases h1 : k < l.length
    · have h1' : (k : Int) < (l.length : Int) := by omega
      obtain ⟨b1, o1, rfl, x1⟩ := H1.out.get (Below.refl _ _) h1
      by_cases h2 : k < m.length
      · have h2' : (k : Int) < (m.length : Int) := by omega
        obtain ⟨b2, o2, rfl, x2⟩ := H2.out.get (Below.refl _ _) h2
        rw [hek] at x1
        obtain ⟨Y, HY⟩ : ∃ Y, Hid (Y = m.getD k 0) := ⟨_, rfl⟩
        rw [← HY.out] at x1 x2
        clear hek
        go_wp2
        go_roundw
        case rel => exact ⟨k + 1, by go_num, trivial, by omega⟩
        case measure => simp [intOf]; omega
      · have h2' : ¬ (k : Int) < (m.length : Int) := by omega
        rw [hek, getD_out h2] at x1
        clear hek
        go_wp2
        go_roundw
        case rel => exact ⟨k + 1, by go_num, trivial, by omega⟩
        case measure => simp [intOf]; omega
    · have h1' : ¬ (k : Int) < (l.length : Int) := by omega
      by_cases h2 : k < m.length
      · have h2' : (k : Int) < (m.length : Int) := by omega
        obtain ⟨b2, o2, rfl, x2⟩ := H2.out.get (Below.refl _ _) h2
        rw [← hek, getD_out h1] at x2
        clear hek
        go_wp2
        go_roundw
        case rel => exact ⟨k + 1, by go_num, trivial, by omega⟩
        case measure => simp [intOf]; omega
      · have h2' : ¬ (k : Int) < (m.length : Int) := by omega
        clear hek
        go_wp2
        go_ret
        exact ⟨rfl, rfl⟩
end Go.Proofs.YtiabhmdefaabgabDoor

namespace Go.Proofs.YtiabhmdefaabgabDoor
open Go.RowKit Go.Maps
set_option maxRecDepth 20000
set_option linter.unusedVariables false

theorem lnm_any (w : World) (x : Int) : Calls Tryd.prog 14 #[.int .i64 x] w fun e w' => e = .returned (.int .i64 x) ∧ w' = w := by
  go_enter Tryd.func14, Tryd.ntmps14
  go_wp2
  go_ret
  exact ⟨rfl, rfl⟩

def Mrl (l d L D C : List Int) (R : List Rn) (Z : Int) : Prop := (mkE l d = 0 ∧ L = mkL l ∧ D = mkD d ∧ C = mkC l d ∧ R = mkR l d ∧ Z = mkZ l d) ∨ (mkE l d ≠ 0 ∧ L = [] ∧ D = [] ∧ C = [] ∧ R = [] ∧ Z = 0)

theorem mrl_one {l d L D C L' D' C' : List Int} {R R' : List Rn} {Z Z' : Int} (h : Mrl l d L D C R Z) (h' : Mrl l d L' D' C' R' Z') : L' = L ∧ D' = D ∧ C' = C ∧ R' = R ∧ Z' = Z := by
  rcases h with ⟨e, rfl, rfl, rfl, rfl, rfl⟩ | ⟨e, rfl, rfl, rfl, rfl, rfl⟩ <;> rcases h' with ⟨e', rfl, rfl, rfl, rfl, rfl⟩ | ⟨e', rfl, rfl, rfl, rfl, rfl⟩
  · exact ⟨rfl, rfl, rfl, rfl, rfl⟩
  · exact absurd e e'
  · exact absurd e' e
  · exact ⟨rfl, rfl, rfl, rfl, rfl⟩

def Mrs (w w' : World) (l d : List Int) (e : Ending) : Prop := ∃ aL cL aD cD aC cC aR cR L D C R Z, Mrl l d L D C R Z ∧ e = .returned (.tuple #[.agg #[.slice aL L.length cL, .slice aD D.length cD, .slice aC C.length cC, .slice aR R.length cR, .int .i64 Z], .int .i64 (mkE l d)]) ∧ Mkd w' w.heap.size (.slice aL L.length cL) (.slice aD D.length cD) (.slice aC C.length cC) (.slice aR R.length cR) L D C R

theorem mrs_of {w w' : World} {l d : List Int} {e : Ending} (h : (mkE l d ≠ 0 ∧ MkNo (mkE l d) e) ∨ (mkE l d = 0 ∧ MkYes w w' l d e)) : Mrs w w' l d e := by
  rcases h with ⟨h, hn⟩ | ⟨h, vL, vD, vC, vR, he, hm⟩
  · exact ⟨none, 0, none, 0, none, 0, none, 0, [], [], [], [], 0, .inr ⟨h, rfl, rfl, rfl, rfl, rfl⟩, hn, World.ownsRow_nil _ _ _ _, World.ownsRow_nil _ _ _ _, World.ownsRow_nil _ _ _ _, OR.nil _ _⟩
  · obtain ⟨aL, cL, rfl⟩ := hm.l.shape
    obtain ⟨aD, cD, rfl⟩ := hm.d.shape
    obtain ⟨aC, cC, rfl⟩ := hm.c.shape
    obtain ⟨aR, cR, rfl, _⟩ := hm.r.shape
    exact ⟨aL, cL, aD, cD, aC, cC, aR, cR, _, _, _, _, _, .inl ⟨h, rfl, rfl, rfl, rfl, rfl⟩, by rw [he, h], hm⟩
end Go.Proofs.YtiabhmdefaabgabDoor

namespace Go.Proofs.YtiabhmdefaabgabDoor
open Go.RowKit Go.Maps
set_option maxRecDepth 20000
set_option linter.unusedVariables false

theorem mkB_len {l d : List Int} (h : mkE l d = 0) : ((mkB l d).length : Int) = mkZ l d ∧ (mkB l d).length ≤ 10000 := by
  obtain ⟨f1, f2, f3, f4, f5, f6, f7, f8, f9, f10⟩ := mk_facts h
  obtain ⟨c1, c2, c3, c4, c5⟩ := mk_small h
  have h1 := hdB_len (L := mkL l) (D := mkD d) (C := mkC l d) (R := mkR l d) (fun s => (c2 s).1)
  have h2 := rsz_bound (C := mkC l d) (fun s => ⟨(c2 s).1, by have := (c2 s).2; omega⟩) (mkR l d)
  have h3 := wrt_le (mkC l d)
  have h4 : ((mkB l d).length : Int) = hsz (mkC l d) (mkR l d) := h1
  refine ⟨h4, ?_⟩
  unfold hsz at h4
  omega

theorem wr_facts {l d row : List Int} (hr : row.length ≤ 1000000) : wrE l d row = mkE l d ∧ (mkE l d = 0 → wrR l d row = row ++ mkB l d) ∧ (mkE l d ≠ 0 → wrR l d row = row) := by
  by_cases h : mkE l d = 0
  · have hb := (mkB_len h).2
    have hj : joinE row (mkB l d) = 0 ∧ joinRow row (mkB l d) = row ++ mkB l d := ⟨if_neg (by omega), if_neg (by omega)⟩
    refine ⟨by unfold wrE; rw [if_neg (by simp [h]), hj.1, h], fun _ => by unfold wrR; rw [if_neg (by simp [h]), hj.2], fun q => absurd h q⟩
  · exact ⟨if_pos h, fun q => absurd q h, fun _ => if_pos h⟩

set_option maxHeartbeats 4000000 in
theorem headerMayBe_walk (v1 v2 : Value) (l d : List Int) (w : World) (s1 : SI w v1 l) (s2 : SI w v2 d) (T : Tab w) (O : Odr w) (n1 : l.length ≤ 17592186044416) (n2 : d.length ≤ 17592186044416) :
    Calls Tryd.prog 3 #[v1, v2] w fun e w' => e = .returned (.bool true) ∧ Below w.heap.size w w' := by
  have H1 := hide s1
  have H2 := hide s2
  have HT := hide T
  have HO := hide O
  have HVD := hide (verdict_any _ _ l d w s1 s2)
  rw [← vd_mk] at HVD
  obtain ⟨a1, c1, rfl, hc1, hd1⟩ := s1.open
  obtain ⟨a2, c2, rfl, hc2, hd2⟩ := s2.open
  clear s1 s2 T O
  obtain ⟨E, HE⟩ : ∃ E, Hid (E = mkE l d) := ⟨_, rfl⟩
  rw [← HE.out] at HVD
  go_enter Tryd.func3, Tryd.ntmps3
  go_wp2_with fail
  refine HVD.out.mono ?_
  rintro e w1 ⟨rfl, hw1⟩
  rw [hw1]
  clear hw1
  go_wp2_with fail
  refine (ints_any _ l w H1.out n1).mono ?_
  rintro e w2 ⟨v4, rfl, hv4, o4, b4⟩
  subst hv4
  have HB4 := hide b4
  have HO4 := hide o4
  clear o4 b4
  go_wp2_with fail
  refine (ints_any _ d w2 (H2.out.below HB4.out) n2).mono ?_
  rintro e w3 ⟨v5, rfl, hv5, o5, b5⟩
  subst hv5
  have HB5 := hide (HB4.out.trans (b5.mono HB4.out.size))
  have HI1 := hide (HO4.out.below b5 (Nat.le_refl _)).sb
  have HI2 := hide o5.sb
  have HMK := hide (make_any _ _ l d w3 HI1.out HI2.out (HT.out.mono HB5.out) (HO.out.mono HB5.out))
  clear o5 b5
  go_wp2_with fail
  refine HMK.out.mono ?_
  rintro e w4 ⟨hyn, b6⟩
  obtain ⟨aL, cL, aD, cD, aC, cC, aR, cR, L, D, C, R, Z, hrl, rfl, hmk⟩ := mrs_of hyn
  have HRL := hide hrl
  have HB6 := hide (HB5.out.trans (b6.mono HB5.out.size))
  have HMD := hide hmk
  rw [← HE.out]
  clear hyn hrl b6 hmk
  obtain ⟨wb, hwb⟩ : ∃ wb, w4.alloc (.cells #[.slice aL L.length cL, .slice aD D.length cD, .slice aC C.length cC, .slice aR R.length cR, .int .i64 Z] 26) = wb := ⟨_, rfl⟩
  have bb : Below w4.heap.size w4 wb := by rw [← hwb]; exact (Below.refl _ _).alloc (Nat.le_refl _) _
  have hbx : Hbox wb w4.heap.size (.slice aL L.length cL) (.slice aD D.length cD) (.slice aC C.length cC) (.slice aR R.length cR) (.int .i64 Z) := by rw [← hwb]; exact heap_alloc_new w4 _
  have HBX := hide hbx
  have HB7 := hide (HB6.out.trans (bb.mono HB6.out.size))
  have HM7 := hide (HMD.out.below bb)
  have HNW := hide (hnewW (Herd.nil wb))
  have HWB := hide hwb
  clear hwb bb hbx
  go_wp2_with fail
  rw [HWB.out]
  refine HNW.out.mono ?_
  rintro e w5 ⟨g, K5, rfl, h5⟩
  have HX5 := hide h5
  have HB8 := hide (HB7.out.trans (h5.bel.mono HB7.out.size))
  clear h5
  go_wp2_with fail
  refine (ints_any _ l w5 (H1.out.below HB8.out) n1).mono ?_
  rintro e w6 ⟨v6, rfl, hv6, o6, b6⟩
  subst hv6
  have HX6 := hide (HX5.out.below b6)
  have HB9 := hide (HB8.out.trans (b6.mono HB8.out.size))
  have HO6 := hide o6
  clear o6 b6
  go_wp2_with fail
  refine (ints_any _ d w6 (H2.out.below HB9.out) n2).mono ?_
  rintro e w7 ⟨v7, rfl, hv7, o7, b7⟩
  subst hv7
  have HX7 := hide (HX6.out.below b7)
  have HBA := hide (HB9.out.trans (b7.mono HB9.out.size))
  have HWR := hide (hwrite HX7.out 0 rfl _ _ l d (HO6.out.below b7 (Nat.le_refl _)).sb o7.sb (HT.out.mono HB7.out) (HO.out.mono HB7.out))
  have HWF := hide (wr_facts (l := l) (d := d) (row := []) (by simp))
  rw [HWF.out.1, ← HE.out] at HWR
  rw [← HE.out] at HWF
  clear o7 b7
  go_wp2_with fail
  refine HWR.out.mono ?_
  rintro e w8 ⟨rfl, K8, h8⟩
  have HX8 := hide h8
  have HBB := hide (HB7.out.trans (h8.bel.mono HB7.out.size))
  have HBX8 := hide (HBX.out.below h8.bel)
  clear h8
  go_wp2_with fail
  refine (lnm_any w8 E).mono ?_
  rintro e w9 ⟨rfl, hw9⟩
  rw [hw9]
  clear hw9
  go_wp2_with fail
  refine (lnm_any w8 E).mono ?_
  rintro e w9 ⟨rfl, hw9⟩
  rw [hw9]
  clear hw9
  obtain ⟨x0, x1, x2, x3, x4⟩ := HBX8.out.cells
  by_cases e0 : E = 0
  · subst e0
    have hM0 : mkE l d = 0 := HE.out.symm
    have hrel : L = mkL l ∧ D = mkD d := by
      rcases HRL.out with ⟨_, h1, h2, _⟩ | ⟨h, _⟩
      · exact ⟨h1, h2⟩
      · exact absurd hM0 h
    have HQ1 := hide (begins_any _ _ L l w8 (HM7.out.l.sb.below HX8.out.bel) (H1.out.below HBB.out) (fun k => by rw [hrel.1]; exact trm_getD l 257 k))
    have HQ2 := hide (begins_any _ _ D d w8 (HM7.out.d.sb.below HX8.out.bel) (H2.out.below HBB.out) (fun k => by rw [hrel.2]; exact trm_getD d 1 k))
    clear hM0 hrel
    go_wp2_with fail
    refine HQ1.out.mono ?_
    rintro e w9 ⟨rfl, hw9⟩
    rw [hw9]
    clear hw9
    go_wp2_with fail
    refine HQ2.out.mono ?_
    rintro e w9 ⟨rfl, hw9⟩
    rw [hw9]
    clear hw9
    go_wp2
    go_ret
    exact ⟨rfl, HBB.out⟩
  · have e0' : (E != 0) = true := by simpa using e0
    have hM0 : mkE l d ≠ 0 := by rw [← HE.out]; exact e0
    have hrel : L = [] ∧ D = [] ∧ C = [] ∧ R = [] ∧ Z = 0 := by
      rcases HRL.out with ⟨h, _⟩ | ⟨_, h⟩
      · exact absurd h hM0
      · exact h
    obtain ⟨rfl, rfl, rfl, rfl, rfl⟩ := hrel
    have hwr := HWF.out.2.2 e0
    have HLN := hide (hlen HX8.out 0 rfl)
    rw [hwr] at HLN
    clear hM0 hwr
    go_wp2_with fail
    refine HLN.out.mono ?_
    rintro e w9 ⟨rfl, h9⟩
    have HBC := hide (HB7.out.trans (h9.bel.mono HB7.out.size))
    clear h9
    go_wp2
    go_ret
    exact ⟨rfl, HBC.out⟩
end Go.Proofs.YtiabhmdefaabgabDoor

