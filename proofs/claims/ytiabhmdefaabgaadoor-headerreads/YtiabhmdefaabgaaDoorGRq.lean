import Derived.Test.YtiabhmdefaabgaaDoorGRr
import Derived.Test.YtiabhmdefaabgaaDoorGQq
import Derived.Test.YtiabhmdefaabgaaDoorGXd
import Derived.Test.YtiabhmdefaabgaaDoorGXck
import Derived.Test.YtiabhmdefaabgaaDoorGMx
import Derived.Test.YtiabhmdefaabgaaDoorGRx
namespace Go.Proofs.YtiabhmdefaabgaaDoor
open Go.RowKit Go.Maps
set_option maxRecDepth 20000
set_option linter.unusedVariables false

set_option maxHeartbeats 4000000 in
theorem hxsmall {W w : World} {xs : List ((Nat → Nat) × Thing)} (H : Herd W w xs) (i : Nat) {K : Nat → Nat} {g : Nat} {row : List Int} {p : Nat} (hi : xs[i]? = some (K, tq g row p)) (n : Nat) (hn : n ≤ 19) (hpl : p ≤ row.length) (hbt : Bit row) (O : Xodr W) :
    Calls Tryd.prog 56 #[.pointer (some ⟨g, 0, none⟩), .int .i64 n] w fun e w' => (smE row p n ≠ 0 ∧ e = .returned (.tuple #[.slice none 0 0, .int .i64 (smE row p n)]) ∧ ∃ q, Herd W w' (xs.set i (K, tq g row q))) ∨ (smE row p n = 0 ∧ ∃ b Kc, e = .returned (.tuple #[.slice (some ⟨b, 0, none⟩) 19 19, .int .i64 0]) ∧ Herd W w' (xs.set i (K, tq g row (p + 3 * n)) ++ [(Kc, ti (.slice (some ⟨b, 0, none⟩) 19 19) (smC row p n))])) := by
  have HBT := hide hbt
  have HLOW := hide H.low
  have hsz := H.bel.size
  have HI := hide hi
  have HO := hide O
  have HH := hide H
  clear H hi O hbt
  go_enter Tryd.func56, Tryd.ntmps56
  go_wp2_with (at_make; refine wpList_mkI rfl _ _ rfl _ _ _ _ 19 19 rfl rfl rfl rfl (Nat.le_refl _) (by omega) ?_)
  intro w1 hg1 hb1
  have ho1 : OI w1 w.heap.size (.slice (some ⟨w.heap.size, 0, none⟩) 19 19) (smC row p 0) := OI.of_full (l := List.replicate 19 0) (by rw [hg1]; rfl) (Nat.le_refl _) (by unfold maxLen; simp)
  obtain ⟨Kc, hc0⟩ := (HH.out.below hb1).tibs HLOW.out hsz ho1
  have HX0 : Hid (Herd W w1 (xs.set i (K, tq g row (p + 3 * 0)) ++ [(Kc, tib w.heap.size (.slice (some ⟨w.heap.size, 0, none⟩) 19 19) (smC row p 0))])) := by
    have := hc0.same (get_front HI.out)
    rw [setf HI.out] at this
    exact hide this
  clear hg1 hb1 ho1 hc0
  go_wp2
  go_loopw [7] (fun x wr => ∃ (k : Nat) (Kc : Nat → Nat), k ≤ n ∧ x = .int .i64 k ∧ p + 3 * k ≤ row.length ∧ Hid (Herd W wr (xs.set i (K, tq g row (p + 3 * k)) ++ [(Kc, tib w.heap.size (.slice (some ⟨w.heap.size, 0, none⟩) 19 19) (smC row p k))]))) (fun x _ => n - (intOf x).toNat)
  case atStart => exact ⟨0, Kc, Nat.zero_le _, rfl, hpl, HX0⟩
  case round =>
    obtain ⟨k, Kc, hk, rfl, hkl, HX⟩ := hrel
    by_cases hlt : k < n
    · have hlt' : (k : Int) < (n : Int) := by omega
      have HTK := hide (hqtake HX.out i (get_front (getset HI.out)) 3)
      rw [setf (getset HI.out), List.set_set] at HTK
      have hab := ahead_bound HBT.out (p + 3 * k) 3
      go_wp2_with fail
      refine HTK.out.mono ?_
      rintro e w2 ⟨rfl, h2⟩
      have HX2 := hide h2
      by_cases hl : row.length < p + 3 * k + 3
      · have HF : Hid (smE row p n = 70) := by show _ = _; unfold smE; rw [if_pos (by omega)]
        have e30 : takeE row (p + 3 * k) 3 = 30 := by unfold takeE; rw [if_pos ⟨by omega, by omega⟩, if_neg (by omega)]
        rw [e30]
        clear h2 hab
        go_wp2
        go_ret2
        refine .inl ⟨by rw [HF.out]; decide, by rw [HF.out]; rfl, _, HX2.out.front⟩
      · obtain ⟨t1, t2, t3⟩ := take_ok (takeOk_of (row := row) (p := p + 3 * k) (n := 3) (by omega) (by omega))
        have t1' : takeE row (p + 3 * k) 3 = 0 := t1
        have t2' : takeV row (p + 3 * k) 3 = ahead row (p + 3 * k) 3 := t2
        have t3' : takeP row (p + 3 * k) 3 = p + 3 * (k + 1) := t3.trans (by omega)
        rw [t1', t2']
        rw [t3'] at HX2
        have o1 := (HO.out.mono h2.bel).get k (by omega)
        have o2 := zor_at k (by omega)
        have HST : Hid (smC row p (k + 1) = (smC row p k).set (zor.getD k 0).toNat (ahead row (p + 3 * k) 3)) := rfl
        obtain ⟨V, HV⟩ : ∃ V, Hid (V = ahead row (p + 3 * k) 3) := ⟨_, rfl⟩
        rw [← HV.out] at hab HST ⊢
        have hv1 := hab.1
        have hv2 : V < 8 := hab.2
        obtain ⟨z', hz⟩ : ∃ z', z' = zor.getD k 0 := ⟨_, rfl⟩
        rw [← hz] at o1 o2 HST
        obtain ⟨z, rfl⟩ := Int.eq_ofNat_of_zero_le o2.1
        rw [Int.toNat_natCast] at HST
        have hz19 : (z : Int) < 19 := o2.2
        have hk19 : (k : Int) < 19 := by omega
        obtain ⟨⟨u, hu⟩, hfz, hput⟩ := HX2.out.tibput (k := z) (by rw [smC_len19]; omega) V
        rw [← HST.out] at hput
        have HP := hide hput
        clear h2 hab t1 t2 t3 t1' t2' t3' hz o2 hput HTK
        go_wp2
        go_roundw
        case rel => exact ⟨k + 1, Kc, by omega, by go_num, by omega, HP⟩
        case measure => simp [intOf]; omega
    · obtain rfl : k = n := by omega
      have hlt' : ¬ (k : Int) < (k : Int) := by omega
      have hsi := (HX.out.tibo _ (get_last _ _)).sb
      have HCK := hide (xcheck_any _ (smC row p k) _ hsi)
      clear hsi
      go_wp2_with fail
      refine HCK.out.mono ?_
      rintro e w2 ⟨rfl, hw2⟩
      rw [hw2]
      clear hw2
      have HSE : Hid (smE row p k = if chkS (smC row p k) ≠ 4 then 72 else 0) := by show _ = _; unfold smE; rw [if_neg (by omega)]
      obtain ⟨S, HS⟩ : ∃ S, Hid (S = chkS (smC row p k)) := ⟨_, rfl⟩
      rw [← HS.out] at HSE ⊢
      by_cases s4 : S = 4
      · subst s4
        have HF : Hid (smE row p k = 0) := by show _ = _; rw [HSE.out]; rfl
        have HN := hide HX.out.tibi
        go_wp2
        go_ret2
        exact .inr ⟨HF.out, _, _, rfl, HN.out⟩
      · have s4' : (S != 4) = true := by simpa using s4
        have HF : Hid (smE row p k = 72) := by show _ = _; rw [HSE.out, if_pos s4]
        go_wp2
        go_ret2
        exact .inl ⟨by rw [HF.out]; decide, by rw [HF.out]; rfl, _, HX.out.front⟩

/-- A list of runs, with the block from which on it lies. -/
def trb (B : Nat) (v : Value) (R : List Rn) : Thing :=
  ⟨fun w K => OR w B v R ∧ (∀ k, v.ownBlock = some k → K k ≠ 0) ∧ ∀ k, K k ≠ 0 → k < w.heap.size,
   fun h a b => ⟨rown_move h.1 fun k hk => b k (h.2.1 k hk), h.2.1, fun k hk => Nat.lt_of_lt_of_le (h.2.2 k hk) a⟩, fun h => h.2.2⟩

theorem Herd.trbs {W w : World} {xs : List ((Nat → Nat) × Thing)} (H : Herd W w xs) {B : Nat} (hN : Low B xs) (hW : W.heap.size ≤ B) {v : Value} {R : List Rn} (ho : OR w B v R) : ∃ K, Herd W w (xs ++ [(K, trb B v R)]) := by
  refine ⟨fun k => if v.ownBlock = some k then 1 else 0, H.bel, fun i d hd => ?_, fun i d hd k hk => ?_, fun i j d e hd he hij k hk => ?_⟩
  · rcases get_snoc hd with hd | ⟨_, rfl⟩
    · exact H.rep i d hd
    · refine ⟨ho, fun k hk => by simp [hk], fun k hk => ?_⟩
      by_cases e : v.ownBlock = some k
      · exact (ho.lt k e).2
      · simp [e] at hk
  · rcases get_snoc hd with hd | ⟨_, rfl⟩
    · exact H.up i d hd k hk
    · by_cases e : v.ownBlock = some k
      · have := (ho.lt k e).1; omega
      · simp [e] at hk
  · rcases get_snoc hd with hd | ⟨e1, rfl⟩
    · rcases get_snoc he with he | ⟨e2, rfl⟩
      · exact H.sep i j d e hd he hij k hk
      · have h1 := hN i d hd k hk
        by_cases q : v.ownBlock = some k
        · have := (ho.lt k q).1; omega
        · simp [q]
    · rcases get_snoc he with he | ⟨e2, rfl⟩
      · by_cases q : v.ownBlock = some k
        · have h2 := (ho.lt k q).1
          by_cases z : e.1 k = 0
          · exact z
          · have := hN j e he k z; omega
        · simp [q] at hk
      · omega

theorem Herd.trbo {W w : World} {xs : List ((Nat → Nat) × Thing)} (H : Herd W w xs) (i : Nat) {B : Nat} {K : Nat → Nat} {v : Value} {R : List Rn} (hi : xs[i]? = some (K, trb B v R)) : OR w B v R := by
  have h : (trb B v R).P w K := H.rep i _ hi
  exact h.1
end Go.Proofs.YtiabhmdefaabgaaDoor

namespace Go.Proofs.YtiabhmdefaabgaaDoor
open Go.RowKit Go.Maps
set_option maxRecDepth 20000
set_option linter.unusedVariables false

/-- The heap has at least so many blocks. -/
def tsz (B : Nat) : Thing := ⟨fun w K => B ≤ w.heap.size ∧ ∀ k, K k = 0, fun h a b => ⟨Nat.le_trans h.1 a, h.2⟩, fun h k hk => absurd (h.2 k) hk⟩

theorem Herd.ghost {W w : World} {xs : List ((Nat → Nat) × Thing)} (H : Herd W w xs) : Herd W w (xs ++ [(fun _ => 0, tsz w.heap.size)]) :=
  H.push (Below.refl _ _) ⟨Nat.le_refl _, fun _ => rfl⟩ fun k hk => absurd rfl hk

theorem Herd.gsz {W w : World} {xs : List ((Nat → Nat) × Thing)} (H : Herd W w xs) (i : Nat) {K : Nat → Nat} {B : Nat} (hi : xs[i]? = some (K, tsz B)) : B ≤ w.heap.size := by
  have h : (tsz B).P w K := H.rep i _ hi
  exact h.1

theorem okr_of {s : Nat} {v : Int} (hs : s < 19) (h0 : 0 ≤ v) (h1 : v < 2 ^ frt s) : Okr ((s : Int), lst s + v) := by
  refine ⟨by simp only; omega, by simp only; omega, by simp only; omega, ?_⟩
  simp only
  by_cases q : s < 16
  · have e1 : lst s = 1 := by unfold lst; rw [if_pos (by omega)]
    have e2 : frt s = 0 := by unfold frt; rw [if_pos (by omega)]
    have e3 : mst s = 1 := by unfold mst; rw [if_pos (by omega)]
    rw [e2] at h1
    have : v < 1 := h1
    omega
  · obtain q | q | q : s = 16 ∨ s = 17 ∨ s = 18 := by omega
    · subst q
      have h1' : v < 4 := h1
      show 3 + v ≤ 6
      omega
    · subst q
      have h1' : v < 8 := h1
      show 3 + v ≤ 10
      omega
    · subst q
      have h1' : v < 128 := h1
      show 11 + v ≤ 138
      omega

set_option maxHeartbeats 8000000 in
theorem hxlists {W w : World} {xs : List ((Nat → Nat) × Thing)} (H : Herd W w xs) (i : Nat) {K : Nat → Nat} {g : Nat} {row : List Int} {p : Nat} (hi : xs[i]? = some (K, tq g row p)) (vC : Value) (C : List Int) (hC : SI w vC C) (h19 : C.length = 19) (hdc : dcE C = 0) (hbt : Bit row) (want : Nat) (hw : want ≤ 316) :
    Calls Tryd.prog 57 #[.pointer (some ⟨g, 0, none⟩), vC, .int .i64 want] w fun e w' => ((rl C row want want [] p).1 ≠ 0 ∧ e = .returned (.tuple #[.slice none 0 0, .int .i64 (rl C row want want [] p).1]) ∧ ∃ q, Herd W w' (xs.set i (K, tq g row q))) ∨ ((rl C row want want [] p).1 = 0 ∧ ∃ a c Kl, e = .returned (.tuple #[.slice a (rl C row want want [] p).2.1.length c, .int .i64 0]) ∧ Herd W w' (xs.set i (K, tq g row (rl C row want want [] p).2.2) ++ [(Kl, ti (.slice a (rl C row want want [] p).2.1.length c) (rl C row want want [] p).2.1)])) := by
  have HBT := hide hbt
  have hsz := H.bel.size
  have HI := hide hi
  have H19 := hide h19
  have HLN := hide (dcE_zero hdc).1
  have HDC := hide hdc
  have HIL := hide (List.getElem?_eq_some_iff.1 hi).1
  have HND := hide (hxdecode H vC C hC)
  obtain ⟨aC, cC, rfl, -, -⟩ := hC.open
  obtain ⟨E0, HE0⟩ : ∃ E0, Hid (E0 = rl C row want want [] p) := ⟨_, rfl⟩
  rw [← HE0.out]
  clear hi hC h19 hdc hbt
  have HWW := hide H.bel
  clear H
  go_enter Tryd.func57, Tryd.ntmps57
  go_wp2_with fail
  refine HND.out.mono ?_
  rintro e w1 (⟨hne, _⟩ | ⟨_, gd, Kd, rfl, h1⟩)
  · exact absurd HDC.out hne
  obtain ⟨zs, HZ⟩ : ∃ zs : List ((Nat → Nat) × Thing), Hid (zs = xs ++ [(Kd, tdx gd C)] ++ [((fun _ => 0 : Nat → Nat), tsz w1.heap.size)]) := ⟨_, hide rfl⟩
  have hgh := h1.ghost
  rw [← HZ.out] at hgh
  have HLOW := hide hgh.low
  have hB := hgh.bel.size
  have hzi : zs[i]? = some (K, tq g row p) := by rw [HZ.out]; exact get_front (get_front HI.out)
  have hzd : zs[xs.length]? = some (Kd, tdx gd C) := by rw [HZ.out]; exact get_front (get_last _ _)
  have hzs : zs[xs.length + 1]? = some (fun _ => 0, tsz w1.heap.size) := by rw [HZ.out]; simp
  have hne1 : i ≠ xs.length := by have := HIL.out; omega
  have hne2 : i ≠ xs.length + 1 := by have := HIL.out; omega
  have HZI := hide hzi
  have HZD : Hid (∀ q, (zs.set i (K, tq g row q))[xs.length]? = some (Kd, tdx gd C)) := fun q => by rw [List.getElem?_set_ne hne1]; exact hzd
  have HZS : Hid (∀ q, (zs.set i (K, tq g row q))[xs.length + 1]? = some (fun _ => 0, tsz w1.heap.size)) := fun q => by rw [List.getElem?_set_ne hne2]; exact hzs
  have HOUT : Hid (∀ (w' : World) (q : Nat), Herd W w' (zs.set i (K, tq g row q)) → Herd W w' (xs.set i (K, tq g row q))) := fun w' q h => by
    rw [HZ.out, setf (get_front HI.out), setf HI.out] at h
    exact h.front.front
  have HOUT2 : Hid (∀ (w' : World) (q : Nat) (z : (Nat → Nat) × Thing), Herd W w' (zs.set i (K, tq g row q) ++ [z]) → Herd W w' (xs.set i (K, tq g row q) ++ [z])) := fun w' q z h => by
    rw [HZ.out, setf (get_front HI.out), setf HI.out] at h
    exact h.mid.mid
  obtain ⟨KR, h2⟩ := (hgh.same hzi).trbs (HLOW.out.set hzi) hB (OR.nil w1 w1.heap.size)
  have HX0 := hide h2.nilI
  clear h1 hgh hzi hzd hzs hne1 hne2 h2
  go_wp2
  go_loopw [10, 11] (fun x y wr => ∃ (R : List Rn) (q f : Nat) (KR KO : Nat → Nat) (aR : Option Addr) (cR : Nat) (aO : Option Addr) (cO : Nat), x = .slice aR R.length cR ∧ y = .slice aO (lays [] R).length cO ∧ (lays [] R).length ≤ want ∧ want - (lays [] R).length ≤ f ∧ R.length ≤ (lays [] R).length ∧ Hid (xpE [] R = 0) ∧ Hid (rl C row want f (lays [] R) q = E0) ∧ Hid (Herd W wr (zs.set i (K, tq g row q) ++ [(KR, trb w1.heap.size (.slice aR R.length cR) R)] ++ [(KO, ti (.slice aO (lays [] R).length cO) (lays [] R))]))) (fun _ y _ => want - lenV y)
  case atStart => exact ⟨[], p, want, KR, fun _ => 0, none, 0, none, 0, rfl, rfl, Nat.zero_le _, by simp, Nat.le_refl _, rfl, HE0.out.symm, HX0⟩
  case round =>
    obtain ⟨R, q, f, KR, KO, aR, cR, aO, cO, rfl, rfl, hal, hf, hRl, HXP, HRL, HX⟩ := hrel
    obtain ⟨acc, HAC⟩ : ∃ acc, Hid (acc = lays [] R) := ⟨_, rfl⟩
    rw [← HAC.out] at hal hf hRl HRL HX ⊢
    by_cases hlt : acc.length < want
    · have hlt' : (acc.length : Int) < (want : Int) := by omega
      obtain ⟨f, rfl⟩ : ∃ f', f = f' + 1 := ⟨f - 1, by omega⟩
      have HNX := hide (hxnext HX.out xs.length i (get_front (get_front (HZD.out q))) (get_front (get_front (getset HZI.out))))
      rw [setf (get_front (getset HZI.out)), setf (getset HZI.out), List.set_set] at HNX
      have HST : Hid (E0 = if trE C row q ≠ 0 then (70, [], q) else if nxS C row q = 16 ∧ acc = [] then (73, [], q) else if (want : Int) < acc.length + trC C row q then (74, [], q) else rl C row want f (lay acc ((nxS C row q : Nat), trC C row q)) (trP C row q)) := by
        show _ = _
        rw [← HRL.out, rl, if_pos hlt]
      have HTR : Hid (trE C row q = if nxE C row q ≠ 0 then 70 else if row.length < nxP C row q + frt (nxS C row q : Nat) then 70 else 0) := rfl
      have HTC : Hid (trC C row q = lst (nxS C row q : Nat) + ahead row (nxP C row q) (frt (nxS C row q : Nat))) := rfl
      have HTP : Hid (trP C row q = nxP C row q + frt (nxS C row q : Nat)) := rfl
      have HSL : Hid (nxE C row q = 0 → nxS C row q < 19) := fun h => by have := nxS_lt HLN.out h; rwa [H19.out] at this
      clear HRL
      go_wp2_with fail
      refine HNX.out.mono ?_
      rintro e w2 ⟨rfl, h2⟩
      have HX2 := hide h2
      clear h2 HNX
      obtain ⟨E, HE⟩ : ∃ E, Hid (E = nxE C row q) := ⟨_, rfl⟩
      obtain ⟨s, HS⟩ : ∃ s, Hid (s = nxS C row q) := ⟨_, rfl⟩
      obtain ⟨p1, HP⟩ : ∃ p1, Hid (p1 = nxP C row q) := ⟨_, rfl⟩
      rw [← HE.out, ← HS.out, ← HP.out] at HTR
      rw [← HS.out, ← HP.out] at HTC HTP
      rw [← HE.out, ← HS.out] at HSL
      rw [← HS.out] at HST
      rw [← HP.out] at HX2
      rw [← HE.out, ← HS.out]
      by_cases e0 : E = 0
      case neg =>
        have e0' : (E != 0) = true := by simpa using e0
        have HF : Hid (E0 = (70, [], q)) := by show _ = _; rw [HST.out, HTR.out, if_pos e0, if_pos (by decide)]
        have HN := hide (HOUT.out _ _ HX2.out.front.front)
        go_wp2
        go_ret2
        rw [HF.out]
        exact .inl ⟨by show (70 : Int) ≠ 0; decide, rfl, _, HN.out⟩
      subst e0
      have hs := HSL.out rfl
      have hF := frt_le (s : Nat)
      have hA := lst_pos (s : Nat)
      have HFU := hide (xfurther_any s w2 hs)
      obtain ⟨A, HA⟩ : ∃ A, Hid (A = lst s) := ⟨_, rfl⟩
      obtain ⟨F, HFF⟩ : ∃ F, Hid (F = frt s) := ⟨_, rfl⟩
      rw [← HA.out, ← HFF.out] at HFU
      rw [← HA.out] at hA HTC
      rw [← HFF.out] at hF HTC HTR HTP
      have HTK := hide (hqtake HX2.out i (get_front (get_front (getset HZI.out))) (F : Nat))
      rw [setf (get_front (getset HZI.out)), setf (getset HZI.out), List.set_set] at HTK
      have hab := ahead_bound HBT.out p1 F
      have hpw : (2 : Int) ^ F ≤ 128 := by
        have := pow_le hF
        have e : (2 : Int) ^ 7 = 128 := by decide
        omega
      clear HSL
      go_wp2_with fail
      refine HFU.out.mono ?_
      rintro e w9 ⟨rfl, hw9⟩
      rw [hw9]
      clear hw9
      go_wp2_with fail
      refine HTK.out.mono ?_
      rintro e w3 ⟨rfl, h3⟩
      have HX3 := hide h3
      clear h3 HTK HFU
      by_cases hl : row.length < p1 + F
      · have ht7 : trE C row q = 70 := by rw [HTR.out, if_neg (by simp), if_pos hl]
        have HF : Hid (E0 = (70, [], q)) := by show _ = _; rw [HST.out, if_pos (by rw [ht7]; decide)]
        clear ht7
        have e30 : takeE row p1 (F : Nat) = 30 := by unfold takeE; rw [if_pos ⟨by omega, by omega⟩, if_neg (by omega)]
        rw [e30]
        have HN := hide (HOUT.out _ _ HX3.out.front.front)
        go_wp2
        go_ret2
        rw [HF.out]
        exact .inl ⟨by show (70 : Int) ≠ 0; decide, rfl, _, HN.out⟩
      have HTZ : Hid (trE C row q = 0) := by show _ = _; rw [HTR.out, if_neg (by simp), if_neg hl]
      obtain ⟨t1, t2, t3⟩ := take_ok (takeOk_of (row := row) (p := p1) (n := F) (by omega) (by omega))
      rw [t1, t2]
      rw [t3, ← HTP.out] at HX3
      have HOKR : Hid (Okr ((s : Int), trC C row q)) := by rw [HTC.out, HA.out]; exact hide (okr_of hs hab.1 (by rw [← HFF.out]; exact hab.2))
      obtain ⟨V, HV⟩ : ∃ V, Hid (V = ahead row p1 F) := ⟨_, rfl⟩
      rw [← HV.out] at hab HTC ⊢
      have hv1 := hab.1
      have hv2 : V < 128 := by omega
      clear hab t1 t2 t3 hpw
      obtain ⟨cn, hcn⟩ : ∃ cn : Nat, A + V = (cn : Int) := ⟨(A + V).toNat, by omega⟩
      rw [hcn] at HTC
      have hcb : (cn : Int) ≤ 139 := by omega
      rw [HTC.out] at HST HOKR
      have hB3 : w1.heap.size ≤ w3.heap.size := HX3.out.gsz (xs.length + 1) (get_front (get_front (HZS.out _)))
      have HOR : Hid (OR w3 w1.heap.size (.slice aR R.length cR) R) := HX3.out.front.trbo _ (get_last _ _)
      have HFRO := hide HX3.out.front.front
      go_wp2_with (at_builtin; refine wpRun rfl _ _ rfl w1.heap.size (.slice aR R.length cR) R (s : Int) (cn : Int) rfl HOR.out _ rfl (by omega) hB3 ?_)
      intro v4 w4 ho4 hg4
      have hb4 : Below w1.heap.size w3 w4 := grow_run (Below.refl _ _) hB3 HOR.out hg4
      obtain ⟨S, HSS⟩ : ∃ S, Hid (S = R ++ [((s : Int), (cn : Int))]) := ⟨_, rfl⟩
      rw [← HSS.out] at ho4
      have hSl : S.length = R.length + 1 := by rw [HSS.out, List.length_append]; rfl
      have HSL2 := hide hSl
      have hSb : S.length ≤ 1048576 := by omega
      obtain ⟨aS, cS, rfl, -, -⟩ := ho4.shape
      obtain ⟨K4, h4⟩ := (HFRO.out.keep (HLOW.out.set HZI.out) hB hb4).trbs (HLOW.out.set HZI.out) hB ho4
      have HX4 := hide h4
      have HEX := hide (xexpand_any _ S w4 ho4.sr hSb)
      have hxe : xpE [] S = if (s : Int) = 16 ∧ acc = [] then 73 else 0 := by rw [HSS.out, xpE_snoc R [] _ HXP.out, if_pos HOKR.out, ← HAC.out]
      have hlay : lays [] S = lay acc ((s : Int), (cn : Int)) := by rw [HSS.out, lays_snoc, ← HAC.out]
      have HLY := hide hlay
      have hll : (lay acc ((s : Int), (cn : Int))).length = acc.length + cn := by rw [lay_len]; rfl
      have HLL := hide hll
      have h1c : 1 ≤ cn := by have := HTC.out; have := HOKR.out.2.2.1; simp only at this; have := lst_pos (s : Nat); omega
      clear ho4 hg4 hb4 hSl h4 hlay hll HOR HFRO HX3 HX2 HX
      by_cases c16 : s = 16 ∧ acc = []
      · have HXE : Hid (xpE [] S = 73) := by show _ = _; rw [hxe, if_pos ⟨by omega, c16.2⟩]
        have HF : Hid (E0 = (73, [], q)) := by show _ = _; rw [HST.out, if_neg (by simp [HTZ.out]), if_pos c16]
        rw [HXE.out] at HEX
        clear hxe c16
        go_wp2_with fail
        refine HEX.out.mono ?_
        rintro e w5 ⟨u, rfl, ho5, hb5⟩
        obtain ⟨aO', cO', rfl⟩ := ho5.shape
        have HN := hide (HOUT.out _ _ (HX4.out.below hb5).front)
        clear ho5 hb5
        go_wp2
        go_ret2
        rw [HF.out]
        exact .inl ⟨by show (73 : Int) ≠ 0; decide, rfl, _, HN.out⟩
      · have HXE : Hid (xpE [] S = 0) := by show _ = _; rw [hxe, if_neg (fun h => c16 ⟨by omega, h.2⟩)]
        have HXL : Hid (xpL S = lay acc ((s : Int), (cn : Int))) := by show _ = _; unfold xpL; rw [if_pos HXE.out, HLY.out]
        rw [HXE.out, HXL.out] at HEX
        have HST2 : Hid (E0 = if (want : Int) < acc.length + (cn : Int) then (74, [], q) else rl C row want f (lay acc ((s : Nat), (cn : Int))) (trP C row q)) := by show _ = _; rw [HST.out, if_neg (by simp [HTZ.out]), if_neg c16]
        clear hxe c16
        go_wp2_with fail
        refine HEX.out.mono ?_
        rintro e w5 ⟨u, rfl, ho5, hb5⟩
        obtain ⟨aO', cO', hu⟩ := ho5.shape
        rw [HLL.out] at hu
        subst hu
        obtain ⟨K5, h5⟩ := HX4.out.ilist hb5 ho5
        have HX5 := hide h5
        clear ho5 hb5 h5
        by_cases hov : (want : Int) < (acc.length : Int) + (cn : Int)
        · have HF : Hid (E0 = (74, [], q)) := by show _ = _; rw [HST2.out, if_pos hov]
          have HN := hide (HOUT.out _ _ HX5.out.front.front)
          go_wp2
          go_ret2
          rw [HF.out]
          exact .inl ⟨by show (74 : Int) ≠ 0; decide, rfl, _, HN.out⟩
        · have HF : Hid (E0 = rl C row want f (lay acc ((s : Nat), (cn : Int))) (trP C row q)) := by show _ = _; rw [HST2.out, if_neg hov]
          have HFIN : Hid (∃ (R : List Rn) (q f : Nat) (KR KO : Nat → Nat) (aR : Option Addr) (cR : Nat) (aO : Option Addr) (cO : Nat), Value.slice aS S.length cS = .slice aR R.length cR ∧ Value.slice aO' (acc.length + cn) cO' = .slice aO (lays [] R).length cO ∧ (lays [] R).length ≤ want ∧ want - (lays [] R).length ≤ f ∧ R.length ≤ (lays [] R).length ∧ Hid (xpE [] R = 0) ∧ Hid (rl C row want f (lays [] R) q = E0) ∧ Hid (Herd W w5 (zs.set i (K, tq g row q) ++ [(KR, trb w1.heap.size (.slice aR R.length cR) R)] ++ [(KO, ti (.slice aO (lays [] R).length cO) (lays [] R))]))) := by
            refine ⟨S, trP C row q, f, K4, K5, aS, cS, aO', cO', rfl, ?_, ?_, ?_, ?_, HXE, ?_, ?_⟩
            · rw [HLY.out, HLL.out]
            · rw [HLY.out, HLL.out]; omega
            · rw [HLY.out, HLL.out]; omega
            · rw [HLY.out, HLL.out, HSL2.out]; omega
            · rw [HLY.out]; exact HF.out.symm
            · rw [HLY.out, HLL.out]; exact HX5
          go_wp2
          go_roundw
          case rel => exact HFIN.out
          case measure => simp only [lenV]; omega
    · have hlt' : ¬ (acc.length : Int) < (want : Int) := by omega
      have HF : Hid (E0 = (0, acc, q)) := by
        show _ = _
        rw [← HRL.out]
        cases f with
        | zero => rfl
        | succ f => rw [rl, if_neg hlt]
      have HN := hide (HOUT2.out _ _ _ HX.out.mid)
      go_wp2
      go_ret2
      rw [HF.out]
      exact .inr ⟨rfl, aO, cO, rfl, KO, HN.out⟩
end Go.Proofs.YtiabhmdefaabgaaDoor

namespace Go.Proofs.YtiabhmdefaabgaaDoor
open Go.RowKit Go.Maps
set_option maxRecDepth 20000
set_option linter.unusedVariables false

set_option maxHeartbeats 8000000 in
theorem hxread {W w : World} {xs : List ((Nat → Nat) × Thing)} (H : Herd W w xs) (i : Nat) {K : Nat → Nat} {g : Nat} {row : List Int} {p : Nat} (hi : xs[i]? = some (K, tq g row p)) (hpl : p ≤ row.length) (hbt : Bit row) (O : Xodr W) :
    Calls Tryd.prog 30 #[.pointer (some ⟨g, 0, none⟩)] w fun e w' => ∃ a1 c1 a2 c2 q, e = .returned (.tuple #[.slice a1 (rdA row p).2.1.length c1, .slice a2 (rdA row p).2.2.1.length c2, .int .i64 (rdA row p).1]) ∧ ((rdA row p).1 = 0 → q = (rdA row p).2.2.2) ∧ Herd W w' (xs.set i (K, tq g row q)) ∧ SI w' (.slice a1 (rdA row p).2.1.length c1) (rdA row p).2.1 ∧ SI w' (.slice a2 (rdA row p).2.2.1.length c2) (rdA row p).2.2.1 := by
  have HBT := hide hbt
  have HI := hide hi
  have HO := hide O
  have HTK := hide (hqtake H i hi 14)
  have hab := ahead_bound hbt p 14
  have HNIL : Hid (∀ w' : World, SI w' (.slice none 0 0) []) := fun w' => by
    have h : OI w' 0 (.slice none 0 0) [] := World.ownsRow_nil _ _ _ _
    exact h.sb
  obtain ⟨A, HA⟩ : ∃ A, Hid (A = rdA row p) := ⟨_, rfl⟩
  rw [← HA.out]
  clear H hi O hbt
  go_enter Tryd.func30, Tryd.ntmps30
  go_wp2_with fail
  refine HTK.out.mono ?_
  rintro e w1 ⟨rfl, h1⟩
  have HX1 := hide h1
  clear h1 HTK
  by_cases hl : row.length < p + 14
  · have HE : Hid (rcE row p = 70) := by show _ = _; unfold rcE; rw [if_pos hl]
    have HF : Hid (A = (70, [], [], p)) := by show _ = _; rw [HA.out, rd_c (by rw [HE.out]; decide), HE.out]
    have e30 : takeE row p 14 = 30 := by unfold takeE; rw [if_pos ⟨by omega, by omega⟩, if_neg (by omega)]
    rw [e30]
    clear hab
    go_wp2
    refine bodyPost_ret (v := .tuple #[.slice none 0 0, .slice none 0 0, .int .i64 70]) (by simp [results, Tryd.results30, go_sem]) rfl ?_
    rw [HF.out]
    exact ⟨none, 0, none, 0, _, rfl, fun h => by simp only at h; omega, HX1.out, HNIL.out _, HNIL.out _⟩
  obtain ⟨t1, t2, t3⟩ := take_ok (takeOk_of (row := row) (p := p) (n := 14) (by omega) (by omega))
  have t1' : takeE row p 14 = 0 := t1
  have t2' : takeV row p 14 = ahead row p 14 := t2
  have t3' : takeP row p 14 = p + 14 := t3
  rw [t1', t2']
  rw [t3'] at HX1
  have hv2 : ahead row p 14 < 16384 := hab.2
  have hv1 := hab.1
  have HL0 : Hid (rcL row p = 257 + (ahead row p 14 % 32).toNat) := rfl
  have HD0 : Hid (rcD row p = 1 + (ahead row p 14 / 32 % 32).toNat) := rfl
  have HN0 : Hid (rcN row p = 4 + (ahead row p 14 / 1024).toNat) := rfl
  obtain ⟨V, HV⟩ : ∃ V, Hid (V = ahead row p 14) := ⟨_, rfl⟩
  rw [← HV.out] at hv1 hv2 HL0 HD0 HN0 ⊢
  obtain ⟨a, ha⟩ : ∃ a : Nat, 257 + V % 32 = (a : Int) := ⟨(257 + V % 32).toNat, by omega⟩
  obtain ⟨b, hb⟩ : ∃ b : Nat, 1 + V / 32 % 32 = (b : Int) := ⟨(1 + V / 32 % 32).toNat, by omega⟩
  obtain ⟨c, hc⟩ : ∃ c : Nat, 4 + V / 1024 = (c : Int) := ⟨(4 + V / 1024).toNat, by omega⟩
  have HO2 : Hid (a = rcL row p) := by show _ = _; rw [HL0.out]; omega
  have HO3 : Hid (b = rcD row p) := by show _ = _; rw [HD0.out]; omega
  have HO4 : Hid (c = rcN row p) := by show _ = _; rw [HN0.out]; omega
  have ha257 : 257 ≤ a := by omega
  have hb1 : 1 ≤ b := by omega
  have hc19 : c ≤ 19 := by omega
  clear hab t1 t2 t3 t1' t2' t3' HL0 HD0 HN0
  by_cases q1 : 286 < (a : Int)
  · have HE : Hid (rcE row p = 71) := by show _ = _; unfold rcE; rw [if_neg hl, if_pos (.inl (by rw [← HO2.out]; omega))]
    have HF : Hid (A = (71, [], [], p)) := by show _ = _; rw [HA.out, rd_c (by rw [HE.out]; decide), HE.out]
    go_wp2
    refine bodyPost_ret (v := .tuple #[.slice none 0 0, .slice none 0 0, .int .i64 71]) (by simp [results, Tryd.results30, go_sem]) rfl ?_
    rw [HF.out]
    exact ⟨none, 0, none, 0, _, rfl, fun h => by simp only at h; omega, HX1.out, HNIL.out _, HNIL.out _⟩
  by_cases q2 : 30 < (b : Int)
  · have HE : Hid (rcE row p = 71) := by show _ = _; unfold rcE; rw [if_neg hl, if_pos (.inr (by rw [← HO3.out]; omega))]
    have HF : Hid (A = (71, [], [], p)) := by show _ = _; rw [HA.out, rd_c (by rw [HE.out]; decide), HE.out]
    have q1' : decide (286 < (a : Int)) = false := decide_eq_false q1
    go_wp2
    refine bodyPost_ret (v := .tuple #[.slice none 0 0, .slice none 0 0, .int .i64 71]) (by simp [results, Tryd.results30, go_sem]) rfl ?_
    rw [HF.out]
    exact ⟨none, 0, none, 0, _, rfl, fun h => by simp only at h; omega, HX1.out, HNIL.out _, HNIL.out _⟩
  have HRC : Hid (rcE row p = 0) := by show _ = _; unfold rcE; rw [if_neg hl, if_neg (by rw [← HO2.out, ← HO3.out]; omega)]
  have HSM := hide (hxsmall HX1.out i (getset HI.out) c hc19 (by omega) HBT.out HO.out)
  rw [List.set_set] at HSM
  go_wp2_with fail
  refine HSM.out.mono ?_
  rintro e w2 (⟨hne, rfl, q, h2⟩ | ⟨hz, gb, Kc, rfl, h2⟩)
  · obtain ⟨E2, HE2⟩ : ∃ E2, Hid (E2 = smE row (p + 14) c) := ⟨_, rfl⟩
    rw [← HE2.out] at hne ⊢
    have e2' : (E2 != 0) = true := by simpa using hne
    have HF : Hid (A = (E2, [], [], p)) := by show _ = _; rw [HA.out, HE2.out, HO4.out]; exact rd_s HRC.out (by rw [← HO4.out, ← HE2.out]; exact hne)
    rw [List.set_set] at h2
    have HN := hide h2
    clear h2
    go_wp2
    refine bodyPost_ret (v := .tuple #[.slice none 0 0, .slice none 0 0, .int .i64 E2]) (by simp [results, Tryd.results30, go_sem]) rfl ?_
    rw [HF.out]
    exact ⟨none, 0, none, 0, q, rfl, fun h => absurd h hne, HN.out, HNIL.out _, HNIL.out _⟩
  have HSE : Hid (smE row (p + 14) (rcN row p) = 0) := by rw [← HO4.out]; exact hide hz
  have hdc : dcE (smC row (p + 14) c) = 0 := by
    unfold smE at hz
    by_cases z0 : row.length < p + 14 + 3 * c
    · rw [if_pos z0] at hz; omega
    · rw [if_neg z0] at hz
      by_cases z1 : chkS (smC row (p + 14) c) ≠ 4
      · rw [if_pos z1] at hz; omega
      · have hS : chkS (smC row (p + 14) c) = 4 := by omega
        unfold chkS at hS
        by_cases q : Lens (smC row (p + 14) c)
        · rw [if_pos q] at hS
          refine (dcE_iff _).2 ⟨?_, .inr hS⟩
          unfold chkE
          rw [if_neg (by have := q.1; omega), if_pos q]
        · rw [if_neg q] at hS; omega
  have HLE := hide (hxlists h2 i (get_front (getset HI.out)) _ (smC row (p + 14) c) (h2.isi _ (get_last _ _)) (smC_len19 _ _ _) hdc HBT.out (a + b) (by omega))
  clear h2 hz hdc HSM
  obtain ⟨x, hx⟩ : ∃ x, rl (smC row (p + 14) c) row (a + b) (a + b) [] (p + 14 + 3 * c) = x := ⟨_, rfl⟩
  rw [hx] at HLE
  have HRD := hide (rd_l HRC.out HSE.out (x := x) (by rw [← HO2.out, ← HO3.out, ← HO4.out]; exact hx))
  rw [← HA.out, ← HO2.out] at HRD
  have HRF := hide (rl_facts (C := smC row (p + 14) c) HBT.out (a + b) (a + b) [] (p + 14 + 3 * c) (by simp) (by simp) (by simp))
  rw [hx] at HRF
  obtain ⟨E3, L, Q⟩ := x
  simp only at HRD HLE HRF
  clear hx
  go_wp2_with fail
  refine HLE.out.mono ?_
  rintro e w3 (⟨hne, rfl, q3, h3⟩ | ⟨hz, aL, cL, Kl, rfl, h3⟩)
  · rw [setf (getset HI.out), List.set_set] at h3
    have e3' : (E3 != 0) = true := by simpa using hne
    have HF : Hid (A = (E3, [], [], p)) := by show _ = _; rw [HRD.out, if_pos hne]
    have HN := hide h3.front
    clear h3
    go_wp2
    refine bodyPost_ret (v := .tuple #[.slice none 0 0, .slice none 0 0, .int .i64 E3]) (by simp [results, Tryd.results30, go_sem]) rfl ?_
    rw [HF.out]
    exact ⟨none, 0, none, 0, q3, rfl, fun h => absurd h hne, HN.out, HNIL.out _, HNIL.out _⟩
  subst hz
  rw [setf (getset HI.out), List.set_set] at h3
  have hll : L.length = a + b := (HRF.out rfl).1
  have hoL := h3.ioi _ (get_last _ _)
  obtain ⟨gJ, cJ, hv, hJ1, hJ2, hJ3, hJ4⟩ := hoL.form (by omega)
  simp only [Value.slice.injEq, true_and] at hv
  obtain ⟨rfl, rfl⟩ := hv
  have hsj := hoL.sb
  have hP1 : SI w3 (.slice (some ⟨gJ, 0, none⟩) a cL) (L.take a) := by
    have := hsj.sub (i := 0) (j := a) (Nat.zero_le _) (by omega)
    rwa [List.drop_zero, Nat.sub_zero, Nat.sub_zero, Nat.add_zero] at this
  have hP2 : SI w3 (.slice (some ⟨gJ, a, none⟩) b (cL - a)) (L.drop a) := by
    have := hsj.sub (i := a) (j := a + b) (by omega) (by omega)
    rwa [Nat.zero_add, Nat.add_sub_cancel_left, List.take_of_length_le (by rw [List.length_drop]; omega)] at this
  have htl : (L.take a).length = a := by rw [List.length_take]; omega
  have hdl : (L.drop a).length = b := by rw [List.length_drop]; omega
  have HP1 := hide hP1
  have HP2 := hide hP2
  have HX3 := hide h3.front.front
  have HTL := hide htl
  have HDL := hide hdl
  have hcap : a + b ≤ cL := by omega
  have hcap1 : ¬ (cL : Int) < (a : Int) := by omega
  have hcap2 : ¬ cL = a := by omega
  have hla : ¬ ((a + b : Nat) : Int) < (a : Int) := by omega
  have hce : (cL : Int) - (a : Int) = ((cL - a : Nat) : Int) := by omega
  have hla2 : ((a + b : Nat) : Int) - (a : Int) = (b : Int) := by omega
  have HCD := hide (zcodes_any _ _ (L.take a) (L.drop a) w3 hP1 hP2 (by rw [htl]; exact ha257))
  rw [hll]
  clear h3 hoL hsj hP1 hP2 htl hdl HLE
  go_wp2_with fail
  refine HCD.out.mono ?_
  rintro e w4 ⟨rfl, hw4⟩
  rw [hw4]
  clear hw4
  obtain ⟨E4, HE4⟩ : ∃ E4, Hid (E4 = hck (L.take a) (L.drop a)) := ⟨_, rfl⟩
  rw [← HE4.out] at HRD ⊢
  by_cases e4 : E4 = 0
  · subst e4
    have HF : Hid (A = (0, L.take a, L.drop a, Q)) := by show _ = _; rw [HRD.out, if_neg (by simp), if_neg (by simp)]
    go_wp2
    refine bodyPost_ret (v := .tuple #[.slice (some ⟨gJ, 0, none⟩) a cL, .slice (some ⟨gJ, a, none⟩) b (cL - a), .int .i64 0]) (by simp [results, Tryd.results30, go_sem]) rfl ?_
    rw [HF.out]
    simp only
    rw [HTL.out, HDL.out]
    exact ⟨_, _, _, _, Q, rfl, fun _ => rfl, HX3.out, HP1.out, HP2.out⟩
  · have e4' : (E4 != 0) = true := by simpa using e4
    have HF : Hid (A = (E4, [], [], p)) := by show _ = _; rw [HRD.out, if_neg (by simp), if_pos e4]
    go_wp2
    refine bodyPost_ret (v := .tuple #[.slice none 0 0, .slice none 0 0, .int .i64 E4]) (by simp [results, Tryd.results30, go_sem]) rfl ?_
    rw [HF.out]
    exact ⟨none, 0, none, 0, Q, rfl, fun h => absurd h e4, HX3.out, HNIL.out _, HNIL.out _⟩
end Go.Proofs.YtiabhmdefaabgaaDoor

namespace Go.Proofs.YtiabhmdefaabgaaDoor
open Go.RowKit Go.Maps
set_option maxRecDepth 20000
set_option linter.unusedVariables false

set_option maxHeartbeats 8000000 in
theorem headerReads_walk (v : Value) (n : Int) (dat : List Int) (w : World) (s : SB w v dat) (hby : Byt dat) (T : Tab w) (O : Odr w) (X : Xodr w) :
    Calls Tryd.prog 8 #[v, .int .i64 n] w fun e w' => e = .returned (.bool true) ∧ Below w.heap.size w w' := by
  have HS := hide s
  have HBY := hide hby
  have HT := hide T
  have HO := hide O
  have HXO := hide X
  obtain ⟨a1, c1, hv, hc1, hd1, -, -⟩ := s
  subst hv
  unfold maxLen at hd1
  clear hby T O X
  by_cases big : 1048576 < dat.length
  · have big' : (1048576 : Int) < (dat.length : Int) := by omega
    go_enter Tryd.func8, Tryd.ntmps8
    go_wp2
    go_ret
    exact ⟨rfl, Below.refl _ _⟩
  have big' : ¬ (1048576 : Int) < (dat.length : Int) := by omega
  have HNR := hide (hnewR (Herd.nil w) _ dat HS.out HBY.out (by omega))
  go_enter Tryd.func8, Tryd.ntmps8
  go_wp2_with fail
  refine HNR.out.mono ?_
  rintro e w1 ⟨g, K, rfl, h1⟩
  have HX1 := hide h1
  have HNQ := hide (hqnew h1 _ dat (HS.out.below h1.bel) HBY.out (by omega))
  clear h1
  go_wp2_with fail
  refine HNQ.out.mono ?_
  rintro e w2 ⟨gq, Kq, rfl, h2⟩
  obtain ⟨row, HR⟩ : ∃ row, Hid (row = unpack dat) := ⟨_, rfl⟩
  have HBT : Hid (Bit row) := by rw [HR.out]; exact hide (bit_unpack dat)
  rw [← HR.out] at h2
  have HX2 : Hid (Herd w w2 [(K, tr g row 0), (Kq, tq gq row 0)]) := h2
  have HSK := hide (hskip HX2.out 0 rfl n)
  clear h2 HNR HNQ HX1
  obtain ⟨P, HP⟩ : ∃ P, Hid (P = skipP row 0 n) := ⟨_, rfl⟩
  obtain ⟨E1, HE1⟩ : ∃ E1, Hid (E1 = skipE row 0 n) := ⟨_, rfl⟩
  rw [← HP.out, ← HE1.out] at HSK
  go_wp2_with fail
  refine HSK.out.mono ?_
  rintro e w3 ⟨rfl, h3⟩
  have HX3 : Hid (Herd w w3 [(K, tr g row P), (Kq, tq gq row 0)]) := h3
  have HSQ := hide (hqskip HX3.out 1 rfl n)
  rw [← HP.out, ← HE1.out] at HSQ
  clear h3 HSK HX2
  go_wp2_with fail
  refine (num_any E1 w3).mono ?_
  rintro e w9 ⟨rfl, hw9⟩
  rw [hw9]
  clear hw9
  go_wp2_with fail
  refine HSQ.out.mono ?_
  rintro e w4 ⟨rfl, h4⟩
  have HX4 : Hid (Herd w w4 [(K, tr g row P), (Kq, tq gq row P)]) := h4
  have hle : P ≤ row.length := by
    have hr : Rp w4 K g row P := HX4.out.rep 0 _ rfl
    exact hr.le.1
  have HRD := hide (hread HX4.out 0 rfl HT.out HO.out)
  clear h4 HSQ HX3
  obtain ⟨A, HA⟩ : ∃ A, Hid (A = rdA row P) := ⟨_, rfl⟩
  rw [← HA.out] at HRD
  obtain ⟨E, L, D, Q⟩ := A
  simp only at HRD
  go_wp2_with fail
  refine HRD.out.mono ?_
  rintro e w5 ⟨a2, c2, a3, c3, q, K1, K2, rfl, hq, h5⟩
  have HQ := hide hq
  have HX5 : Hid (Herd w w5 [(K, tr g row q), (Kq, tq gq row P), (K1, ti (.slice a2 L.length c2) L), (K2, ti (.slice a3 D.length c3) D)]) := h5
  have HRQ := hide (hxread HX5.out 1 rfl hle HBT.out HXO.out)
  rw [← HA.out] at HRQ
  simp only at HRQ
  clear hq h5 HRD HX4
  go_wp2_with fail
  refine HRQ.out.mono ?_
  rintro e w6 ⟨b2, d2, b3, d3, q', rfl, hq', h6, s1, s2⟩
  have HQ' := hide hq'
  have HX6 : Hid (Herd w w6 [(K, tr g row q), (Kq, tq gq row q'), (K1, ti (.slice a2 L.length c2) L), (K2, ti (.slice a3 D.length c3) D)]) := h6
  have HE1' := hide (isame_any _ _ L L w6 (HX6.out.isi 2 rfl) s1)
  rw [show eqI L L = true by simp [eqI]] at HE1'
  have HS2 := hide s2
  clear hq' h6 s1 s2 HRQ HX5
  go_wp2_with fail
  refine (num_any E w6).mono ?_
  rintro e w9 ⟨rfl, hw9⟩
  rw [hw9]
  clear hw9
  go_wp2_with fail
  refine HE1'.out.mono ?_
  rintro e w7 ⟨rfl, n7, hw7⟩
  have HX7 := hide (HX6.out.drewN n7)
  rw [← hw7] at HX7
  have HS7 : Hid (SI w7 (.slice b3 D.length d3) D) := by rw [hw7]; exact hide (HS2.out.below (below_drewN (Below.refl _ _) n7))
  have HE2' := hide (isame_any _ _ D D w7 (HX7.out.isi 3 rfl) HS7.out)
  rw [show eqI D D = true by simp [eqI]] at HE2'
  clear hw7 HX6
  go_wp2_with fail
  refine HE2'.out.mono ?_
  rintro e w8 ⟨rfl, n8, hw8⟩
  have HX8 := hide (HX7.out.drewN n8)
  rw [← hw8] at HX8
  clear hw8 HX7
  by_cases e0 : E = 0
  · subst e0
    have k1 := HQ.out rfl
    have k2 := HQ'.out rfl
    rw [k1, k2] at HX8
    have HA1 := hide (hat HX8.out 0 rfl)
    clear k1 k2
    go_wp2_with fail
    refine HA1.out.mono ?_
    rintro e w9 ⟨rfl, h9⟩
    have HX9 := hide h9
    have HA2 := hide (hqat HX9.out 1 rfl)
    clear h9
    go_wp2_with fail
    refine HA2.out.mono ?_
    rintro e w10 ⟨rfl, h10⟩
    have HBD := hide h10.bel
    clear h10
    go_wp2
    go_ret
    exact ⟨rfl, HBD.out⟩
  · have e0' : (E != 0) = true := by simpa using e0
    have HBD := hide HX8.out.bel
    go_wp2
    go_ret
    exact ⟨rfl, HBD.out⟩
end Go.Proofs.YtiabhmdefaabgaaDoor

