import Derived.Test.YtiabhmdefaabgaaDoorGRqs
namespace Go.Proofs.YtiabhmdefaabgaaDoor
open Go.RowKit Go.Maps
set_option maxRecDepth 20000
set_option linter.unusedVariables false

/-- The heap has at least so many blocks. -/
def tsz (B : Nat) : Thing := ⟨fun w K => B ≤ w.heap.size ∧ ∀ k, K k = 0, fun h a b => ⟨Nat.le_trans h.1 a, h.2⟩, fun h k hk => absurd (h.2 k) hk⟩

theorem Herd.ghost {W w : World} {xs : List ((Nat → Nat) × Thing)} (H : Herd W w xs) : Herd W w (xs ++ [(fun _ => 0, tsz w.heap.size)]) :=
  H.push (Below.refl _ _) ⟨Nat.le_refl _, fun _ => rfl⟩ fun k hk => absurd rfl hk

theorem Herd.gsz {W w : World} {xs : List ((Nat → Nat) × Thing)} (H : Herd W w xs) (i : Nat) {K : Nat → Nat} {B : Nat} (hi : xs[i]? = some (K, tsz B)) : B ≤ w.heap.size := by
  have h : (tsz B).P w K := H.rep i _ hi
  exact h.1

theorem okr_of {s : Nat} {v : Int} (hs : s < 19) (h0 : 0 ≤ v) (h1 : v < 2 ^ frt s) : Okr ((s : Int), lst s + v) := by
  refine ⟨by simp only; omega, by simp only; omega, by simp only; omega, ?_⟩
  simp only
  by_cases q : s < 16
  · have e1 : lst s = 1 := by unfold lst; rw [if_pos (by omega)]
    have e2 : frt s = 0 := by unfold frt; rw [if_pos (by omega)]
    have e3 : mst s = 1 := by unfold mst; rw [if_pos (by omega)]
    rw [e2] at h1
    have : v < 1 := h1
    omega
  · obtain q | q | q : s = 16 ∨ s = 17 ∨ s = 18 := by omega
    · subst q
      have h1' : v < 4 := h1
      show 3 + v ≤ 6
      omega
    · subst q
      have h1' : v < 8 := h1
      show 3 + v ≤ 10
      omega
    · subst q
      have h1' : v < 128 := h1
      show 11 + v ≤ 138
      omega

set_option maxHeartbeats 8000000 in
theorem hxlists {W w : World} {xs : List ((Nat → Nat) × Thing)} (H : Herd W w xs) (i : Nat) {K : Nat → Nat} {g : Nat} {row : List Int} {p : Nat} (hi : xs[i]? = some (K, tq g row p)) (vC : Value) (C : List Int) (hC : SI w vC C) (h19 : C.length = 19) (hdc : dcE C = 0) (hbt : Bit row) (want : Nat) (hw : want ≤ 316) :
    Calls Tryd.prog 57 #[.pointer (some ⟨g, 0, none⟩), vC, .int .i64 want] w fun e w' => ((rl C row want want [] p).1 ≠ 0 ∧ e = .returned (.tuple #[.slice none 0 0, .int .i64 (rl C row want want [] p).1]) ∧ ∃ q, Herd W w' (xs.set i (K, tq g row q))) ∨ ((rl C row want want [] p).1 = 0 ∧ ∃ a c Kl, e = .returned (.tuple #[.slice a (rl C row want want [] p).2.1.length c, .int .i64 0]) ∧ Herd W w' (xs.set i (K, tq g row (rl C row want want [] p).2.2) ++ [(Kl, ti (.slice a (rl C row want want [] p).2.1.length c) (rl C row want want [] p).2.1)])) := by
  have HBT := hide hbt
  have hsz := H.bel.size
  have HI := hide hi
  have H19 := hide h19
  have HLN := hide (dcE_zero hdc).1
  have HDC := hide hdc
  have HIL := hide (List.getElem?_eq_some_iff.1 hi).1
  have HND := hide (hxdecode H vC C hC)
  obtain ⟨aC, cC, rfl, -, -⟩ := hC.open
  obtain ⟨E0, HE0⟩ : ∃ E0, Hid (E0 = rl C row want want [] p) := ⟨_, rfl⟩
  rw [← HE0.out]
  clear hi hC h19 hdc hbt
  have HWW := hide H.bel
  clear H
  go_enter Tryd.func57, Tryd.ntmps57
  go_wp2_with fail
  refine HND.out.mono ?_
  rintro e w1 (⟨hne, _⟩ | ⟨_, gd, Kd, rfl, h1⟩)
  · exact absurd HDC.out hne
  obtain ⟨zs, HZ⟩ : ∃ zs : List ((Nat → Nat) × Thing), Hid (zs = xs ++ [(Kd, tdx gd C)] ++ [((fun _ => 0 : Nat → Nat), tsz w1.heap.size)]) := ⟨_, hide rfl⟩
  have hgh := h1.ghost
  rw [← HZ.out] at hgh
  have HLOW := hide hgh.low
  have hB := hgh.bel.size
  have hzi : zs[i]? = some (K, tq g row p) := by rw [HZ.out]; exact get_front (get_front HI.out)
  have hzd : zs[xs.length]? = some (Kd, tdx gd C) := by rw [HZ.out]; exact get_front (get_last _ _)
  have hzs : zs[xs.length + 1]? = some (fun _ => 0, tsz w1.heap.size) := by rw [HZ.out]; simp
  have hne1 : i ≠ xs.length := by have := HIL.out; omega
  have hne2 : i ≠ xs.length + 1 := by have := HIL.out; omega
  have HZI := hide hzi
  have HZD : Hid (∀ q, (zs.set i (K, tq g row q))[xs.length]? = some (Kd, tdx gd C)) := fun q => by rw [List.getElem?_set_ne hne1]; exact hzd
  have HZS : Hid (∀ q, (zs.set i (K, tq g row q))[xs.length + 1]? = some (fun _ => 0, tsz w1.heap.size)) := fun q => by rw [List.getElem?_set_ne hne2]; exact hzs
  have HOUT : Hid (∀ (w' : World) (q : Nat), Herd W w' (zs.set i (K, tq g row q)) → Herd W w' (xs.set i (K, tq g row q))) := fun w' q h => by
    rw [HZ.out, setf (get_front HI.out), setf HI.out] at h
    exact h.front.front
  have HOUT2 : Hid (∀ (w' : World) (q : Nat) (z : (Nat → Nat) × Thing), Herd W w' (zs.set i (K, tq g row q) ++ [z]) → Herd W w' (xs.set i (K, tq g row q) ++ [z])) := fun w' q z h => by
    rw [HZ.out, setf (get_front HI.out), setf HI.out] at h
    exact h.mid.mid
  obtain ⟨KR, h2⟩ := (hgh.same hzi).trbs (HLOW.out.set hzi) hB (OR.nil w1 w1.heap.size)
  have HX0 := hide h2.nilI
  clear h1 hgh hzi hzd hzs hne1 hne2 h2
  go_wp2
  go_loopw [10, 11] (fun x y wr => ∃ (R : List Rn) (q f : Nat) (KR KO : Nat → Nat) (aR : Option Addr) (cR : Nat) (aO : Option Addr) (cO : Nat), x = .slice aR R.length cR ∧ y = .slice aO (lays [] R).length cO ∧ (lays [] R).length ≤ want ∧ want - (lays [] R).length ≤ f ∧ R.length ≤ (lays [] R).length ∧ Hid (xpE [] R = 0) ∧ Hid (rl C row want f (lays [] R) q = E0) ∧ Hid (Herd W wr (zs.set i (K, tq g row q) ++ [(KR, trb w1.heap.size (.slice aR R.length cR) R)] ++ [(KO, ti (.slice aO (lays [] R).length cO) (lays [] R))]))) (fun _ y _ => want - lenV y)
  case atStart => exact ⟨[], p, want, KR, fun _ => 0, none, 0, none, 0, rfl, rfl, Nat.zero_le _, by simp, Nat.le_refl _, rfl, HE0.out.symm, HX0⟩
  case round =>
    obtain ⟨R, q, f, KR, KO, aR, cR, aO, cO, rfl, rfl, hal, hf, hRl, HXP, HRL, HX⟩ := hrel
    obtain ⟨acc, HAC⟩ : ∃ acc, Hid (acc = lays [] R) := ⟨_, rfl⟩
    rw [← HAC.out] at hal hf hRl HRL HX ⊢
    by_cases hlt : acc.length < want
    · have hlt' : (acc.length : Int) < (want : Int) := by omega
      obtain ⟨f, rfl⟩ : ∃ f', f = f' + 1 := ⟨f - 1, by omega⟩
      have HNX := hide (hxnext HX.out xs.length i (get_front (get_front (HZD.out q))) (get_front (get_front (getset HZI.out))))
      rw [setf (get_front (getset HZI.out)), setf (getset HZI.out), List.set_set] at HNX
      have HST : Hid (E0 = if trE C row q ≠ 0 then (70, [], q) else if nxS C row q = 16 ∧ acc = [] then (73, [], q) else if (want : Int) < acc.length + trC C row q then (74, [], q) else rl C row want f (lay acc ((nxS C row q : Nat), trC C row q)) (trP C row q)) := by
        show _ = _
        rw [← HRL.out, rl, if_pos hlt]
      have HTR : Hid (trE C row q = if nxE C row q ≠ 0 then 70 else if row.length < nxP C row q + frt (nxS C row q : Nat) then 70 else 0) := rfl
      have HTC : Hid (trC C row q = lst (nxS C row q : Nat) + ahead row (nxP C row q) (frt (nxS C row q : Nat))) := rfl
      have HTP : Hid (trP C row q = nxP C row q + frt (nxS C row q : Nat)) := rfl
      have HSL : Hid (nxE C row q = 0 → nxS C row q < 19) := fun h => by have := nxS_lt HLN.out h; rwa [H19.out] at this
      clear HRL
      go_wp2_with fail
      refine HNX.out.mono ?_
      rintro e w2 ⟨rfl, h2⟩
      have HX2 := hide h2
      clear h2 HNX
      obtain ⟨E, HE⟩ : ∃ E, Hid (E = nxE C row q) := ⟨_, rfl⟩
      obtain ⟨s, HS⟩ : ∃ s, Hid (s = nxS C row q) := ⟨_, rfl⟩
      obtain ⟨p1, HP⟩ : ∃ p1, Hid (p1 = nxP C row q) := ⟨_, rfl⟩
      rw [← HE.out, ← HS.out, ← HP.out] at HTR
      rw [← HS.out, ← HP.out] at HTC HTP
      rw [← HE.out, ← HS.out] at HSL
      rw [← HS.out] at HST
      rw [← HP.out] at HX2
      rw [← HE.out, ← HS.out]
      by_cases e0 : E = 0
      case neg =>
        have e0' : (E != 0) = true := by simpa using e0
        have HF : Hid (E0 = (70, [], q)) := by show _ = _; rw [HST.out, HTR.out, if_pos e0, if_pos (by decide)]
        have HN := hide (HOUT.out _ _ HX2.out.front.front)
        go_wp2
        go_ret2
        rw [HF.out]
        exact .inl ⟨by show (70 : Int) ≠ 0; decide, rfl, _, HN.out⟩
      subst e0
      have hs := HSL.out rfl
      have hF := frt_le (s : Nat)
      have hA := lst_pos (s : Nat)
      have HFU := hide (xfurther_any s w2 hs)
      obtain ⟨A, HA⟩ : ∃ A, Hid (A = lst s) := ⟨_, rfl⟩
      obtain ⟨F, HFF⟩ : ∃ F, Hid (F = frt s) := ⟨_, rfl⟩
      rw [← HA.out, ← HFF.out] at HFU
      rw [← HA.out] at hA HTC
      rw [← HFF.out] at hF HTC HTR HTP
      have HTK := hide (hqtake HX2.out i (get_front (get_front (getset HZI.out))) (F : Nat))
      rw [setf (get_front (getset HZI.out)), setf (getset HZI.out), List.set_set] at HTK
      have hab := ahead_bound HBT.out p1 F
      have hpw : (2 : Int) ^ F ≤ 128 := by
        have := pow_le hF
        have e : (2 : Int) ^ 7 = 128 := by decide
        omega
      clear HSL
      go_wp2_with fail
      refine HFU.out.mono ?_
      rintro e w9 ⟨rfl, hw9⟩
      rw [hw9]
      clear hw9
      go_wp2_with fail
      refine HTK.out.mono ?_
      rintro e w3 ⟨rfl, h3⟩
      have HX3 := hide h3
      clear h3 HTK HFU
      by_cases hl : row.length < p1 + F
      · have ht7 : trE C row q = 70 := by rw [HTR.out, if_neg (by simp), if_pos hl]
        have HF : Hid (E0 = (70, [], q)) := by show _ = _; rw [HST.out, if_pos (by rw [ht7]; decide)]
        clear ht7
        have e30 : takeE row p1 (F : Nat) = 30 := by unfold takeE; rw [if_pos ⟨by omega, by omega⟩, if_neg (by omega)]
        rw [e30]
        have HN := hide (HOUT.out _ _ HX3.out.front.front)
        go_wp2
        go_ret2
        rw [HF.out]
        exact .inl ⟨by show (70 : Int) ≠ 0; decide, rfl, _, HN.out⟩
      have HTZ : Hid (trE C row q = 0) := by show _ = _; rw [HTR.out, if_neg (by simp), if_neg hl]
      obtain ⟨t1, t2, t3⟩ := take_ok (takeOk_of (row := row) (p := p1) (n := F) (by omega) (by omega))
      rw [t1, t2]
      rw [t3, ← HTP.out] at HX3
      have HOKR : Hid (Okr ((s : Int), trC C row q)) := by rw [HTC.out, HA.out]; exact hide (okr_of hs hab.1 (by rw [← HFF.out]; exact hab.2))
      obtain ⟨V, HV⟩ : ∃ V, Hid (V = ahead row p1 F) := ⟨_, rfl⟩
      rw [← HV.out] at hab HTC ⊢
      have hv1 := hab.1
      have hv2 : V < 128 := by omega
      clear hab t1 t2 t3 hpw
      obtain ⟨cn, hcn⟩ : ∃ cn : Nat, A + V = (cn : Int) := ⟨(A + V).toNat, by omega⟩
      rw [hcn] at HTC
      have hcb : (cn : Int) ≤ 139 := by omega
      rw [HTC.out] at HST HOKR
      have hB3 : w1.heap.size ≤ w3.heap.size := HX3.out.gsz (xs.length + 1) (get_front (get_front (HZS.out _)))
      have HOR : Hid (OR w3 w1.heap.size (.slice aR R.length cR) R) := HX3.out.front.trbo _ (get_last _ _)
      have HFRO := hide HX3.out.front.front
      go_wp2_with (at_builtin; refine wpRun rfl _ _ rfl w1.heap.size (.slice aR R.length cR) R (s : Int) (cn : Int) rfl HOR.out _ rfl (by omega) hB3 ?_)
      intro v4 w4 ho4 hg4
      have hb4 : Below w1.heap.size w3 w4 := grow_run (Below.refl _ _) hB3 HOR.out hg4
      obtain ⟨S, HSS⟩ : ∃ S, Hid (S = R ++ [((s : Int), (cn : Int))]) := ⟨_, rfl⟩
      rw [← HSS.out] at ho4
      have hSl : S.length = R.length + 1 := by rw [HSS.out, List.length_append]; rfl
      have HSL2 := hide hSl
      have hSb : S.length ≤ 1048576 := by omega
      obtain ⟨aS, cS, rfl, -, -⟩ := ho4.shape
      obtain ⟨K4, h4⟩ := (HFRO.out.keep (HLOW.out.set HZI.out) hB hb4).trbs (HLOW.out.set HZI.out) hB ho4
      have HX4 := hide h4
      have HEX := hide (xexpand_any _ S w4 ho4.sr hSb)
      have hxe : xpE [] S = if (s : Int) = 16 ∧ acc = [] then 73 else 0 := by rw [HSS.out, xpE_snoc R [] _ HXP.out, if_pos HOKR.out, ← HAC.out]
      have hlay : lays [] S = lay acc ((s : Int), (cn : Int)) := by rw [HSS.out, lays_snoc, ← HAC.out]
      have HLY := hide hlay
      have hll : (lay acc ((s : Int), (cn : Int))).length = acc.length + cn := by rw [lay_len]; rfl
      have HLL := hide hll
      have h1c : 1 ≤ cn := by have := HTC.out; have := HOKR.out.2.2.1; simp only at this; have := lst_pos (s : Nat); omega
      clear ho4 hg4 hb4 hSl h4 hlay hll HOR HFRO HX3 HX2 HX
      by_cases c16 : s = 16 ∧ acc = []
      · have HXE : Hid (xpE [] S = 73) := by show _ = _; rw [hxe, if_pos ⟨by omega, c16.2⟩]
        have HF : Hid (E0 = (73, [], q)) := by show _ = _; rw [HST.out, if_neg (by simp [HTZ.out]), if_pos c16]
        rw [HXE.out] at HEX
        clear hxe c16
        go_wp2_with fail
        refine HEX.out.mono ?_
        rintro e w5 ⟨u, rfl, ho5, hb5⟩
        obtain ⟨aO', cO', rfl⟩ := ho5.shape
        have HN := hide (HOUT.out _ _ (HX4.out.below hb5).front)
        clear ho5 hb5
        go_wp2
        go_ret2
        rw [HF.out]
        exact .inl ⟨by show (73 : Int) ≠ 0; decide, rfl, _, HN.out⟩
      · have HXE : Hid (xpE [] S = 0) := by show _ = _; rw [hxe, if_neg (fun h => c16 ⟨by omega, h.2⟩)]
        have HXL : Hid (xpL S = lay acc ((s : Int), (cn : Int))) := by show _ = _; unfold xpL; rw [if_pos HXE.out, HLY.out]
        rw [HXE.out, HXL.out] at HEX
        have HST2 : Hid (E0 = if (want : Int) < acc.length + (cn : Int) then (74, [], q) else rl C row want f (lay acc ((s : Nat), (cn : Int))) (trP C row q)) := by show _ = _; rw [HST.out, if_neg (by simp [HTZ.out]), if_neg c16]
        clear hxe c16
        go_wp2_with fail
        refine HEX.out.mono ?_
        rintro e w5 ⟨u, rfl, ho5, hb5⟩
        obtain ⟨aO', cO', hu⟩ := ho5.shape
        rw [HLL.out] at hu
        subst hu
        obtain ⟨K5, h5⟩ := HX4.out.ilist hb5 ho5
        have HX5 := hide h5
        clear ho5 hb5 h5
        by_cases hov : (want : Int) < (acc.length : Int) + (cn : Int)
        · have HF : Hid (E0 = (74, [], q)) := by show _ = _; rw [HST2.out, if_pos hov]
          have HN := hide (HOUT.out _ _ HX5.out.front.front)
          go_wp2
          go_ret2
          rw [HF.out]
          exact .inl ⟨by show (74 : Int) ≠ 0; decide, rfl, _, HN.out⟩
        · have HF : Hid (E0 = rl C row want f (lay acc ((s : Nat), (cn : Int))) (trP C row q)) := by show _ = _; rw [HST2.out, if_neg hov]
          have HFIN : Hid (∃ (R : List Rn) (q f : Nat) (KR KO : Nat → Nat) (aR : Option Addr) (cR : Nat) (aO : Option Addr) (cO : Nat), Value.slice aS S.length cS = .slice aR R.length cR ∧ Value.slice aO' (acc.length + cn) cO' = .slice aO (lays [] R).length cO ∧ (lays [] R).length ≤ want ∧ want - (lays [] R).length ≤ f ∧ R.length ≤ (lays [] R).length ∧ Hid (xpE [] R = 0) ∧ Hid (rl C row want f (lays [] R) q = E0) ∧ Hid (Herd W w5 (zs.set i (K, tq g row q) ++ [(KR, trb w1.heap.size (.slice aR R.length cR) R)] ++ [(KO, ti (.slice aO (lays [] R).length cO) (lays [] R))]))) := by
            refine ⟨S, trP C row q, f, K4, K5, aS, cS, aO', cO', rfl, ?_, ?_, ?_, ?_, HXE, ?_, ?_⟩
            · rw [HLY.out, HLL.out]
            · rw [HLY.out, HLL.out]; omega
            · rw [HLY.out, HLL.out]; omega
            · rw [HLY.out, HLL.out, HSL2.out]; omega
            · rw [HLY.out]; exact HF.out.symm
            · rw [HLY.out, HLL.out]; exact HX5
          go_wp2
          go_roundw
          case rel => exact HFIN.out
          case measure => simp only [lenV]; omega
    · have hlt' : ¬ (acc.length : Int) < (want : Int) := by omega
      have HF : Hid (E0 = (0, acc, q)) := by
        show _ = _
        rw [← HRL.out]
        cases f with
        | zero => rfl
        | succ f => rw [rl, if_neg hlt]
      have HN := hide (HOUT2.out _ _ _ HX.out.mid)
      go_wp2
      go_ret2
      rw [HF.out]
      exact .inr ⟨rfl, aO, cO, rfl, KO, HN.out⟩
end Go.Proofs.YtiabhmdefaabgaaDoor

