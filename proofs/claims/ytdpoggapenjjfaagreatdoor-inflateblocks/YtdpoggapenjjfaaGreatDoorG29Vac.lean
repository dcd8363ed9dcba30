import Derived.Test.YtdpoggapenjjfaaGreatDoorG08Rhl
import Derived.Test.YtdpoggapenjjfaaGreatDoorG15Pkg
import Derived.Test.YtdpoggapenjjfaaGreatDoorG10Rpt
import Derived.Test.YtdpoggapenjjfaaGreatDoorG28Rx4
import Derived.Test.YtdpoggapenjjfaaGreatDoorG00Rev
import Derived.Maps.AppendAt
import Derived.Deep.AppendLies
import Derived.Deep.MidRow
import Derived.Deep.RegionHeld3
import Derived.Laws.CopyRow
import Derived.Laws.MakeOwn
import Derived.Test.YtdpoggapenjjfaaGreatDoorG07Rhs
import Derived.Test.YtdpoggapenjjfaaGreatDoorG13Ifp
import Derived.Test.YtdpoggapenjjfaaGreatDoorG11Ifb
namespace Go.Proofs.YtdpoggapenjjfaaGreatDoor
open Go.RowKit Go.Maps
set_option maxRecDepth 20000
set_option linter.unusedVariables false

set_option maxHeartbeats 4000000 in
theorem hxsmall {W w : World} {xs : List ((Nat → Nat) × Thing)} (H : Herd W w xs) (i : Nat) {K : Nat → Nat} {g : Nat} {row : List Int} {p : Nat} (hi : xs[i]? = some (K, tq g row p)) (n : Nat) (hn : n ≤ 19) (hpl : p ≤ row.length) (hbt : Bit row) (O : Xodr W) :
    Calls Tryz.prog 78 #[.pointer (some ⟨g, 0, none⟩), .int .i64 n] w fun e w' => (smE row p n ≠ 0 ∧ e = .returned (.tuple #[.slice none 0 0, .int .i64 (smE row p n)]) ∧ ∃ q, Herd W w' (xs.set i (K, tq g row q))) ∨ (smE row p n = 0 ∧ ∃ b Kc, e = .returned (.tuple #[.slice (some ⟨b, 0, none⟩) 19 19, .int .i64 0]) ∧ Herd W w' (xs.set i (K, tq g row (p + 3 * n)) ++ [(Kc, ti (.slice (some ⟨b, 0, none⟩) 19 19) (smC row p n))])) := by
  have HBT := hide hbt
  have HLOW := hide H.low
  have hsz := H.bel.size
  have HI := hide hi
  have HO := hide O
  have HH := hide H
  clear H hi O hbt
  go_enter Tryz.func78, Tryz.ntmps78
  go_wp2_with (at_make; refine wpList_mkI rfl _ _ rfl _ _ _ _ 19 19 rfl rfl rfl rfl (Nat.le_refl _) (by omega) ?_)
  intro w1 hg1 hb1
  have ho1 : OI w1 w.heap.size (.slice (some ⟨w.heap.size, 0, none⟩) 19 19) (smC row p 0) := OI.of_full (l := List.replicate 19 0) (by rw [hg1]; rfl) (Nat.le_refl _) (by unfold maxLen; simp)
  obtain ⟨Kc, hc0⟩ := (HH.out.below hb1).tibs HLOW.out hsz ho1
  have HX0 : Hid (Herd W w1 (xs.set i (K, tq g row (p + 3 * 0)) ++ [(Kc, tib w.heap.size (.slice (some ⟨w.heap.size, 0, none⟩) 19 19) (smC row p 0))])) := by
    have := hc0.same (get_front HI.out)
    rw [setf HI.out] at this
    exact hide this
  clear hg1 hb1 ho1 hc0
  go_wp2
  go_loopw [7] (fun x wr => ∃ (k : Nat) (Kc : Nat → Nat), k ≤ n ∧ x = .int .i64 k ∧ p + 3 * k ≤ row.length ∧ Hid (Herd W wr (xs.set i (K, tq g row (p + 3 * k)) ++ [(Kc, tib w.heap.size (.slice (some ⟨w.heap.size, 0, none⟩) 19 19) (smC row p k))]))) (fun x _ => n - (intOf x).toNat)
  case atStart => exact ⟨0, Kc, Nat.zero_le _, rfl, hpl, HX0⟩
  case round =>
    obtain ⟨k, Kc, hk, rfl, hkl, HX⟩ := hrel
    by_cases hlt : k < n
    · have hlt' : (k : Int) < (n : Int) := by omega
      have HTK := hide (hqtake HX.out i (get_front (getset HI.out)) 3)
      rw [setf (getset HI.out), List.set_set] at HTK
      have hab := ahead_bound HBT.out (p + 3 * k) 3
      go_wp2_with fail
      refine HTK.out.mono ?_
      rintro e w2 ⟨rfl, h2⟩
      have HX2 := hide h2
      by_cases hl : row.length < p + 3 * k + 3
      · have HF : Hid (smE row p n = 70) := by show _ = _; unfold smE; rw [if_pos (by omega)]
        have e30 : takeE row (p + 3 * k) 3 = 30 := by unfold takeE; rw [if_pos ⟨by omega, by omega⟩, if_neg (by omega)]
        rw [e30]
        clear h2 hab
        go_wp2
        go_ret2
        refine .inl ⟨by rw [HF.out]; decide, by rw [HF.out]; rfl, _, HX2.out.front⟩
      · obtain ⟨t1, t2, t3⟩ := take_ok (takeOk_of (row := row) (p := p + 3 * k) (n := 3) (by omega) (by omega))
        have t1' : takeE row (p + 3 * k) 3 = 0 := t1
        have t2' : takeV row (p + 3 * k) 3 = ahead row (p + 3 * k) 3 := t2
        have t3' : takeP row (p + 3 * k) 3 = p + 3 * (k + 1) := t3.trans (by omega)
        rw [t1', t2']
        rw [t3'] at HX2
        have o1 := (HO.out.mono h2.bel).get k (by omega)
        have o2 := zor_at k (by omega)
        have HST : Hid (smC row p (k + 1) = (smC row p k).set (zor.getD k 0).toNat (ahead row (p + 3 * k) 3)) := rfl
        obtain ⟨V, HV⟩ : ∃ V, Hid (V = ahead row (p + 3 * k) 3) := ⟨_, rfl⟩
        rw [← HV.out] at hab HST ⊢
        have hv1 := hab.1
        have hv2 : V < 8 := hab.2
        obtain ⟨z', hz⟩ : ∃ z', z' = zor.getD k 0 := ⟨_, rfl⟩
        rw [← hz] at o1 o2 HST
        obtain ⟨z, rfl⟩ := Int.eq_ofNat_of_zero_le o2.1
        rw [Int.toNat_natCast] at HST
        have hz19 : (z : Int) < 19 := o2.2
        have hk19 : (k : Int) < 19 := by omega
        obtain ⟨⟨u, hu⟩, hfz, hput⟩ := HX2.out.tibput (k := z) (by rw [smC_len19]; omega) V
        rw [← HST.out] at hput
        have HP := hide hput
        clear h2 hab t1 t2 t3 t1' t2' t3' hz o2 hput HTK
        go_wp2
        go_roundw
        case rel => exact ⟨k + 1, Kc, by omega, by go_num, by omega, HP⟩
        case measure => simp [intOf]; omega
    · obtain rfl : k = n := by omega
      have hlt' : ¬ (k : Int) < (k : Int) := by omega
      have hsi := (HX.out.tibo _ (get_last _ _)).sb
      have HCK := hide (xcheck_any _ (smC row p k) _ hsi)
      clear hsi
      go_wp2_with fail
      refine HCK.out.mono ?_
      rintro e w2 ⟨rfl, hw2⟩
      rw [hw2]
      clear hw2
      have HSE : Hid (smE row p k = if chkS (smC row p k) ≠ 4 then 72 else 0) := by show _ = _; unfold smE; rw [if_neg (by omega)]
      obtain ⟨S, HS⟩ : ∃ S, Hid (S = chkS (smC row p k)) := ⟨_, rfl⟩
      rw [← HS.out] at HSE ⊢
      by_cases s4 : S = 4
      · subst s4
        have HF : Hid (smE row p k = 0) := by show _ = _; rw [HSE.out]; rfl
        have HN := hide HX.out.tibi
        go_wp2
        go_ret2
        exact .inr ⟨HF.out, _, _, rfl, HN.out⟩
      · have s4' : (S != 4) = true := by simpa using s4
        have HF : Hid (smE row p k = 72) := by show _ = _; rw [HSE.out, if_pos s4]
        go_wp2
        go_ret2
        exact .inl ⟨by rw [HF.out]; decide, by rw [HF.out]; rfl, _, HX.out.front⟩

def trb (B : Nat) (v : Value) (R : List Rn) : Thing :=
  ⟨fun w K => OR w B v R ∧ (∀ k, v.ownBlock = some k → K k ≠ 0) ∧ ∀ k, K k ≠ 0 → k < w.heap.size,
   fun h a b => ⟨rown_move h.1 fun k hk => b k (h.2.1 k hk), h.2.1, fun k hk => Nat.lt_of_lt_of_le (h.2.2 k hk) a⟩, fun h => h.2.2⟩

theorem Herd.trbs {W w : World} {xs : List ((Nat → Nat) × Thing)} (H : Herd W w xs) {B : Nat} (hN : Low B xs) (hW : W.heap.size ≤ B) {v : Value} {R : List Rn} (ho : OR w B v R) : ∃ K, Herd W w (xs ++ [(K, trb B v R)]) := by
  refine ⟨fun k => if v.ownBlock = some k then 1 else 0, H.bel, fun i d hd => ?_, fun i d hd k hk => ?_, fun i j d e hd he hij k hk => ?_⟩
  · rcases get_snoc hd with hd | ⟨_, rfl⟩
    · exact H.rep i d hd
    · refine ⟨ho, fun k hk => by simp [hk], fun k hk => ?_⟩
      by_cases e : v.ownBlock = some k
      · exact (ho.lt k e).2
      · simp [e] at hk
  · rcases get_snoc hd with hd | ⟨_, rfl⟩
    · exact H.up i d hd k hk
    · by_cases e : v.ownBlock = some k
      · have := (ho.lt k e).1; omega
      · simp [e] at hk
  · rcases get_snoc hd with hd | ⟨e1, rfl⟩
    · rcases get_snoc he with he | ⟨e2, rfl⟩
      · exact H.sep i j d e hd he hij k hk
      · have h1 := hN i d hd k hk
        by_cases q : v.ownBlock = some k
        · have := (ho.lt k q).1; omega
        · simp [q]
    · rcases get_snoc he with he | ⟨e2, rfl⟩
      · by_cases q : v.ownBlock = some k
        · have h2 := (ho.lt k q).1
          by_cases z : e.1 k = 0
          · exact z
          · have := hN j e he k z; omega
        · simp [q] at hk
      · omega

theorem Herd.trbo {W w : World} {xs : List ((Nat → Nat) × Thing)} (H : Herd W w xs) (i : Nat) {B : Nat} {K : Nat → Nat} {v : Value} {R : List Rn} (hi : xs[i]? = some (K, trb B v R)) : OR w B v R := by
  have h : (trb B v R).P w K := H.rep i _ hi
  exact h.1
end Go.Proofs.YtdpoggapenjjfaaGreatDoor

namespace Go.Proofs.YtdpoggapenjjfaaGreatDoor
open Go.RowKit Go.Maps
set_option maxRecDepth 20000
set_option linter.unusedVariables false

def tsz (B : Nat) : Thing := ⟨fun w K => B ≤ w.heap.size ∧ ∀ k, K k = 0, fun h a b => ⟨Nat.le_trans h.1 a, h.2⟩, fun h k hk => absurd (h.2 k) hk⟩

theorem Herd.ghost {W w : World} {xs : List ((Nat → Nat) × Thing)} (H : Herd W w xs) : Herd W w (xs ++ [(fun _ => 0, tsz w.heap.size)]) :=
  H.push (Below.refl _ _) ⟨Nat.le_refl _, fun _ => rfl⟩ fun k hk => absurd rfl hk

theorem Herd.gsz {W w : World} {xs : List ((Nat → Nat) × Thing)} (H : Herd W w xs) (i : Nat) {K : Nat → Nat} {B : Nat} (hi : xs[i]? = some (K, tsz B)) : B ≤ w.heap.size := by
  have h : (tsz B).P w K := H.rep i _ hi
  exact h.1

theorem okr_of {s : Nat} {v : Int} (hs : s < 19) (h0 : 0 ≤ v) (h1 : v < 2 ^ frt s) : Okr ((s : Int), lst s + v) := by
  refine ⟨by simp only; omega, by simp only; omega, by simp only; omega, ?_⟩
  simp only
  by_cases q : s < 16
  · have e1 : lst s = 1 := by unfold lst; rw [if_pos (by omega)]
    have e2 : frt s = 0 := by unfold frt; rw [if_pos (by omega)]
    have e3 : mst s = 1 := by unfold mst; rw [if_pos (by omega)]
    rw [e2] at h1
    have : v < 1 := h1
    omega
  · obtain q | q | q : s = 16 ∨ s = 17 ∨ s = 18 := by omega
    · subst q
      have h1' : v < 4 := h1
      show 3 + v ≤ 6
      omega
    · subst q
      have h1' : v < 8 := h1
      show 3 + v ≤ 10
      omega
    · subst q
      have h1' : v < 128 := h1
      show 11 + v ≤ 138
      omega

set_option maxHeartbeats 8000000 in
theorem hxlists {W w : World} {xs : List ((Nat → Nat) × Thing)} (H : Herd W w xs) (i : Nat) {K : Nat → Nat} {g : Nat} {row : List Int} {p : Nat} (hi : xs[i]? = some (K, tq g row p)) (vC : Value) (C : List Int) (hC : SI w vC C) (h19 : C.length = 19) (hdc : dcE C = 0) (hbt : Bit row) (want : Nat) (hw : want ≤ 316) :
    Calls Tryz.prog 79 #[.pointer (some ⟨g, 0, none⟩), vC, .int .i64 want] w fun e w' => ((rl C row want want [] p).1 ≠ 0 ∧ e = .returned (.tuple #[.slice none 0 0, .int .i64 (rl C row want want [] p).1]) ∧ ∃ q, Herd W w' (xs.set i (K, tq g row q))) ∨ ((rl C row want want [] p).1 = 0 ∧ ∃ a c Kl, e = .returned (.tuple #[.slice a (rl C row want want [] p).2.1.length c, .int .i64 0]) ∧ Herd W w' (xs.set i (K, tq g row (rl C row want want [] p).2.2) ++ [(Kl, ti (.slice a (rl C row want want [] p).2.1.length c) (rl C row want want [] p).2.1)])) := by
  have HBT := hide hbt
  have hsz := H.bel.size
  have HI := hide hi
  have H19 := hide h19
  have HLN := hide (dcE_zero hdc).1
  have HDC := hide hdc
  have HIL := hide (List.getElem?_eq_some_iff.1 hi).1
  have HND := hide (hxdecode H vC C hC)
  obtain ⟨aC, cC, rfl, -, -⟩ := hC.open
  obtain ⟨E0, HE0⟩ : ∃ E0, Hid (E0 = rl C row want want [] p) := ⟨_, rfl⟩
  rw [← HE0.out]
  clear hi hC h19 hdc hbt
  have HWW := hide H.bel
  clear H
  go_enter Tryz.func79, Tryz.ntmps79
  go_wp2_with fail
  refine HND.out.mono ?_
  rintro e w1 (⟨hne, _⟩ | ⟨_, gd, Kd, rfl, h1⟩)
  · exact absurd HDC.out hne
  obtain ⟨zs, HZ⟩ : ∃ zs : List ((Nat → Nat) × Thing), Hid (zs = xs ++ [(Kd, tdx gd C)] ++ [((fun _ => 0 : Nat → Nat), tsz w1.heap.size)]) := ⟨_, hide rfl⟩
  have hgh := h1.ghost
  rw [← HZ.out] at hgh
  have HLOW := hide hgh.low
  have hB := hgh.bel.size
  have hzi : zs[i]? = some (K, tq g row p) := by rw [HZ.out]; exact get_front (get_front HI.out)
  have hzd : zs[xs.length]? = some (Kd, tdx gd C) := by rw [HZ.out]; exact get_front (get_last _ _)
  have hzs : zs[xs.length + 1]? = some (fun _ => 0, tsz w1.heap.size) := by rw [HZ.out]; simp
  have hne1 : i ≠ xs.length := by have := HIL.out; omega
  have hne2 : i ≠ xs.length + 1 := by have := HIL.out; omega
  have HZI := hide hzi
  have HZD : Hid (∀ q, (zs.set i (K, tq g row q))[xs.length]? = some (Kd, tdx gd C)) := fun q => by rw [List.getElem?_set_ne hne1]; exact hzd
  have HZS : Hid (∀ q, (zs.set i (K, tq g row q))[xs.length + 1]? = some (fun _ => 0, tsz w1.heap.size)) := fun q => by rw [List.getElem?_set_ne hne2]; exact hzs
  have HOUT : Hid (∀ (w' : World) (q : Nat), Herd W w' (zs.set i (K, tq g row q)) → Herd W w' (xs.set i (K, tq g row q))) := fun w' q h => by
    rw [HZ.out, setf (get_front HI.out), setf HI.out] at h
    exact h.front.front
  have HOUT2 : Hid (∀ (w' : World) (q : Nat) (z : (Nat → Nat) × Thing), Herd W w' (zs.set i (K, tq g row q) ++ [z]) → Herd W w' (xs.set i (K, tq g row q) ++ [z])) := fun w' q z h => by
    rw [HZ.out, setf (get_front HI.out), setf HI.out] at h
    exact h.mid.mid
  obtain ⟨KR, h2⟩ := (hgh.same hzi).trbs (HLOW.out.set hzi) hB (OR.nil w1 w1.heap.size)
  have HX0 := hide h2.nilI
  clear h1 hgh hzi hzd hzs hne1 hne2 h2
  go_wp2
  go_loopw [10, 11] (fun x y wr => ∃ (R : List Rn) (q f : Nat) (KR KO : Nat → Nat) (aR : Option Addr) (cR : Nat) (aO : Option Addr) (cO : Nat), x = .slice aR R.length cR ∧ y = .slice aO (lays [] R).length cO ∧ (lays [] R).length ≤ want ∧ want - (lays [] R).length ≤ f ∧ R.length ≤ (lays [] R).length ∧ Hid (xpE [] R = 0) ∧ Hid (rl C row want f (lays [] R) q = E0) ∧ Hid (Herd W wr (zs.set i (K, tq g row q) ++ [(KR, trb w1.heap.size (.slice aR R.length cR) R)] ++ [(KO, ti (.slice aO (lays [] R).length cO) (lays [] R))]))) (fun _ y _ => want - lenV y)
  case atStart => exact ⟨[], p, want, KR, fun _ => 0, none, 0, none, 0, rfl, rfl, Nat.zero_le _, by simp, Nat.le_refl _, rfl, HE0.out.symm, HX0⟩
  case round =>
    obtain ⟨R, q, f, KR, KO, aR, cR, aO, cO, rfl, rfl, hal, hf, hRl, HXP, HRL, HX⟩ := hrel
    obtain ⟨acc, HAC⟩ : ∃ acc, Hid (acc = lays [] R) := ⟨_, rfl⟩
    rw [← HAC.out] at hal hf hRl HRL HX ⊢
    by_cases hlt : acc.length < want
    · have hlt' : (acc.length : Int) < (want : Int) := by omega
      obtain ⟨f, rfl⟩ : ∃ f', f = f' + 1 := ⟨f - 1, by omega⟩
      have HNX := hide (hxnext HX.out xs.length i (get_front (get_front (HZD.out q))) (get_front (get_front (getset HZI.out))))
      rw [setf (get_front (getset HZI.out)), setf (getset HZI.out), List.set_set] at HNX
      have HST : Hid (E0 = if trE C row q ≠ 0 then (70, [], q) else if nxS C row q = 16 ∧ acc = [] then (73, [], q) else if (want : Int) < acc.length + trC C row q then (74, [], q) else rl C row want f (lay acc ((nxS C row q : Nat), trC C row q)) (trP C row q)) := by
        show _ = _
        rw [← HRL.out, rl, if_pos hlt]
      have HTR : Hid (trE C row q = if nxE C row q ≠ 0 then 70 else if row.length < nxP C row q + frt (nxS C row q : Nat) then 70 else 0) := rfl
      have HTC : Hid (trC C row q = lst (nxS C row q : Nat) + ahead row (nxP C row q) (frt (nxS C row q : Nat))) := rfl
      have HTP : Hid (trP C row q = nxP C row q + frt (nxS C row q : Nat)) := rfl
      have HSL : Hid (nxE C row q = 0 → nxS C row q < 19) := fun h => by have := nxS_lt HLN.out h; rwa [H19.out] at this
      clear HRL
      go_wp2_with fail
      refine HNX.out.mono ?_
      rintro e w2 ⟨rfl, h2⟩
      have HX2 := hide h2
      clear h2 HNX
      obtain ⟨E, HE⟩ : ∃ E, Hid (E = nxE C row q) := ⟨_, rfl⟩
      obtain ⟨s, HS⟩ : ∃ s, Hid (s = nxS C row q) := ⟨_, rfl⟩
      obtain ⟨p1, HP⟩ : ∃ p1, Hid (p1 = nxP C row q) := ⟨_, rfl⟩
      rw [← HE.out, ← HS.out, ← HP.out] at HTR
      rw [← HS.out, ← HP.out] at HTC HTP
      rw [← HE.out, ← HS.out] at HSL
      rw [← HS.out] at HST
      rw [← HP.out] at HX2
      rw [← HE.out, ← HS.out]
      by_cases e0 : E = 0
      case neg =>
        have e0' : (E != 0) = true := by simpa using e0
        have HF : Hid (E0 = (70, [], q)) := by show _ = _; rw [HST.out, HTR.out, if_pos e0, if_pos (by decide)]
        have HN := hide (HOUT.out _ _ HX2.out.front.front)
        go_wp2
        go_ret2
        rw [HF.out]
        exact .inl ⟨by show (70 : Int) ≠ 0; decide, rfl, _, HN.out⟩
      subst e0
      have hs := HSL.out rfl
      have hF := frt_le (s : Nat)
      have hA := lst_pos (s : Nat)
      have HFU := hide (xfurther_any s w2 hs)
      obtain ⟨A, HA⟩ : ∃ A, Hid (A = lst s) := ⟨_, rfl⟩
      obtain ⟨F, HFF⟩ : ∃ F, Hid (F = frt s) := ⟨_, rfl⟩
      rw [← HA.out, ← HFF.out] at HFU
      rw [← HA.out] at hA HTC
      rw [← HFF.out] at hF HTC HTR HTP
      have HTK := hide (hqtake HX2.out i (get_front (get_front (getset HZI.out))) (F : Nat))
      rw [setf (get_front (getset HZI.out)), setf (getset HZI.out), List.set_set] at HTK
      have hab := ahead_bound HBT.out p1 F
      have hpw : (2 : Int) ^ F ≤ 128 := by
        have := pow_le hF
        have e : (2 : Int) ^ 7 = 128 := by decide
        omega
      clear HSL
      go_wp2_with fail
      refine HFU.out.mono ?_
      rintro e w9 ⟨rfl, hw9⟩
      rw [hw9]
      clear hw9
      go_wp2_with fail
      refine HTK.out.mono ?_
      rintro e w3 ⟨rfl, h3⟩
      have HX3 := hide h3
      clear h3 HTK HFU
      by_cases hl : row.length < p1 + F
      · have ht7 : trE C row q = 70 := by rw [HTR.out, if_neg (by simp), if_pos hl]
        have HF : Hid (E0 = (70, [], q)) := by show _ = _; rw [HST.out, if_pos (by rw [ht7]; decide)]
        clear ht7
        have e30 : takeE row p1 (F : Nat) = 30 := by unfold takeE; rw [if_pos ⟨by omega, by omega⟩, if_neg (by omega)]
        rw [e30]
        have HN := hide (HOUT.out _ _ HX3.out.front.front)
        go_wp2
        go_ret2
        rw [HF.out]
        exact .inl ⟨by show (70 : Int) ≠ 0; decide, rfl, _, HN.out⟩
      have HTZ : Hid (trE C row q = 0) := by show _ = _; rw [HTR.out, if_neg (by simp), if_neg hl]
      obtain ⟨t1, t2, t3⟩ := take_ok (takeOk_of (row := row) (p := p1) (n := F) (by omega) (by omega))
      rw [t1, t2]
      rw [t3, ← HTP.out] at HX3
      have HOKR : Hid (Okr ((s : Int), trC C row q)) := by rw [HTC.out, HA.out]; exact hide (okr_of hs hab.1 (by rw [← HFF.out]; exact hab.2))
      obtain ⟨V, HV⟩ : ∃ V, Hid (V = ahead row p1 F) := ⟨_, rfl⟩
      rw [← HV.out] at hab HTC ⊢
      have hv1 := hab.1
      have hv2 : V < 128 := by omega
      clear hab t1 t2 t3 hpw
      obtain ⟨cn, hcn⟩ : ∃ cn : Nat, A + V = (cn : Int) := ⟨(A + V).toNat, by omega⟩
      rw [hcn] at HTC
      have hcb : (cn : Int) ≤ 139 := by omega
      rw [HTC.out] at HST HOKR
      have hB3 : w1.heap.size ≤ w3.heap.size := HX3.out.gsz (xs.length + 1) (get_front (get_front (HZS.out _)))
      have HOR : Hid (OR w3 w1.heap.size (.slice aR R.length cR) R) := HX3.out.front.trbo _ (get_last _ _)
      have HFRO := hide HX3.out.front.front
      go_wp2_with (at_builtin; refine wpRun rfl _ _ rfl w1.heap.size (.slice aR R.length cR) R (s : Int) (cn : Int) rfl HOR.out _ rfl (by omega) hB3 ?_)
      intro v4 w4 ho4 hg4
      have hb4 : Below w1.heap.size w3 w4 := grow_run (Below.refl _ _) hB3 HOR.out hg4
      obtain ⟨S, HSS⟩ : ∃ S, Hid (S = R ++ [((s : Int), (cn : Int))]) := ⟨_, rfl⟩
      rw [← HSS.out] at ho4
      have hSl : S.length = R.length + 1 := by rw [HSS.out, List.length_append]; rfl
      have HSL2 := hide hSl
      have hSb : S.length ≤ 1048576 := by omega
      obtain ⟨aS, cS, rfl, -, -⟩ := ho4.shape
      obtain ⟨K4, h4⟩ := (HFRO.out.keep (HLOW.out.set HZI.out) hB hb4).trbs (HLOW.out.set HZI.out) hB ho4
      have HX4 := hide h4
      have HEX := hide (xexpand_any _ S w4 ho4.sr hSb)
      have hxe : xpE [] S = if (s : Int) = 16 ∧ acc = [] then 73 else 0 := by rw [HSS.out, xpE_snoc R [] _ HXP.out, if_pos HOKR.out, ← HAC.out]
      have hlay : lays [] S = lay acc ((s : Int), (cn : Int)) := by rw [HSS.out, lays_snoc, ← HAC.out]
      have HLY := hide hlay
      have hll : (lay acc ((s : Int), (cn : Int))).length = acc.length + cn := by rw [lay_len]; rfl
      have HLL := hide hll
      have h1c : 1 ≤ cn := by have := HTC.out; have := HOKR.out.2.2.1; simp only at this; have := lst_pos (s : Nat); omega
      clear ho4 hg4 hb4 hSl h4 hlay hll HOR HFRO HX3 HX2 HX
      by_cases c16 : s = 16 ∧ acc = []
      · have HXE : Hid (xpE [] S = 73) := by show _ = _; rw [hxe, if_pos ⟨by omega, c16.2⟩]
        have HF : Hid (E0 = (73, [], q)) := by show _ = _; rw [HST.out, if_neg (by simp [HTZ.out]), if_pos c16]
        rw [HXE.out] at HEX
        clear hxe c16
        go_wp2_with fail
        refine HEX.out.mono ?_
        rintro e w5 ⟨u, rfl, ho5, hb5⟩
        obtain ⟨aO', cO', rfl⟩ := ho5.shape
        have HN := hide (HOUT.out _ _ (HX4.out.below hb5).front)
        clear ho5 hb5
        go_wp2
        go_ret2
        rw [HF.out]
        exact .inl ⟨by show (73 : Int) ≠ 0; decide, rfl, _, HN.out⟩
      · have HXE : Hid (xpE [] S = 0) := by show _ = _; rw [hxe, if_neg (fun h => c16 ⟨by omega, h.2⟩)]
        have HXL : Hid (xpL S = lay acc ((s : Int), (cn : Int))) := by show _ = _; unfold xpL; rw [if_pos HXE.out, HLY.out]
        rw [HXE.out, HXL.out] at HEX
        have HST2 : Hid (E0 = if (want : Int) < acc.length + (cn : Int) then (74, [], q) else rl C row want f (lay acc ((s : Nat), (cn : Int))) (trP C row q)) := by show _ = _; rw [HST.out, if_neg (by simp [HTZ.out]), if_neg c16]
        clear hxe c16
        go_wp2_with fail
        refine HEX.out.mono ?_
        rintro e w5 ⟨u, rfl, ho5, hb5⟩
        obtain ⟨aO', cO', hu⟩ := ho5.shape
        rw [HLL.out] at hu
        subst hu
        obtain ⟨K5, h5⟩ := HX4.out.ilist hb5 ho5
        have HX5 := hide h5
        clear ho5 hb5 h5
        by_cases hov : (want : Int) < (acc.length : Int) + (cn : Int)
        · have HF : Hid (E0 = (74, [], q)) := by show _ = _; rw [HST2.out, if_pos hov]
          have HN := hide (HOUT.out _ _ HX5.out.front.front)
          go_wp2
          go_ret2
          rw [HF.out]
          exact .inl ⟨by show (74 : Int) ≠ 0; decide, rfl, _, HN.out⟩
        · have HF : Hid (E0 = rl C row want f (lay acc ((s : Nat), (cn : Int))) (trP C row q)) := by show _ = _; rw [HST2.out, if_neg hov]
          have HFIN : Hid (∃ (R : List Rn) (q f : Nat) (KR KO : Nat → Nat) (aR : Option Addr) (cR : Nat) (aO : Option Addr) (cO : Nat), Value.slice aS S.length cS = .slice aR R.length cR ∧ Value.slice aO' (acc.length + cn) cO' = .slice aO (lays [] R).length cO ∧ (lays [] R).length ≤ want ∧ want - (lays [] R).length ≤ f ∧ R.length ≤ (lays [] R).length ∧ Hid (xpE [] R = 0) ∧ Hid (rl C row want f (lays [] R) q = E0) ∧ Hid (Herd W w5 (zs.set i (K, tq g row q) ++ [(KR, trb w1.heap.size (.slice aR R.length cR) R)] ++ [(KO, ti (.slice aO (lays [] R).length cO) (lays [] R))]))) := by
            refine ⟨S, trP C row q, f, K4, K5, aS, cS, aO', cO', rfl, ?_, ?_, ?_, ?_, HXE, ?_, ?_⟩
            · rw [HLY.out, HLL.out]
            · rw [HLY.out, HLL.out]; omega
            · rw [HLY.out, HLL.out]; omega
            · rw [HLY.out, HLL.out, HSL2.out]; omega
            · rw [HLY.out]; exact HF.out.symm
            · rw [HLY.out, HLL.out]; exact HX5
          go_wp2
          go_roundw
          case rel => exact HFIN.out
          case measure => simp only [lenV]; omega
    · have hlt' : ¬ (acc.length : Int) < (want : Int) := by omega
      have HF : Hid (E0 = (0, acc, q)) := by
        show _ = _
        rw [← HRL.out]
        cases f with
        | zero => rfl
        | succ f => rw [rl, if_neg hlt]
      have HN := hide (HOUT2.out _ _ _ HX.out.mid)
      go_wp2
      go_ret2
      rw [HF.out]
      exact .inr ⟨rfl, aO, cO, rfl, KO, HN.out⟩
end Go.Proofs.YtdpoggapenjjfaaGreatDoor

namespace Go.Proofs.YtdpoggapenjjfaaGreatDoor
open Go.RowKit Go.Maps
set_option maxRecDepth 20000
set_option linter.unusedVariables false

end Go.Proofs.YtdpoggapenjjfaaGreatDoor

namespace Go.Proofs.YtdpoggapenjjfaaGreatDoor
open Go.RowKit Go.Maps
set_option maxRecDepth 20000
set_option linter.unusedVariables false
set_option linter.unusedSimpArgs false

def flr (R : List (Array Value)) : List Value := R.flatMap Array.toList

def ORp (T n : Nat) (w : World) (base : Nat) (v : Value) (R : List (Array Value)) : Prop := (∀ r ∈ R, r.size = n) ∧ w.ownsRow base T n v R.length (flr R)

theorem flr_app (R S : List (Array Value)) : flr (R ++ S) = flr R ++ flr S := by simp [flr]

theorem xown_movep {w w' : World} {base : Nat} {e : TypeId} {size : Nat} {v : Value} {n : Nat} {xs : List Value} (h : w.ownsRow base e size v n xs) (hb : ∀ k, v.ownBlock = some k → w'.heap[k]? = w.heap[k]?) : w'.ownsRow base e size v n xs := by
  refine ⟨h.1, ?_⟩
  rcases h.2 with h2 | ⟨g, cap, cur, rfl, h1, h2, r⟩
  · exact .inl h2
  · exact .inr ⟨g, cap, cur, rfl, h1, (hb g rfl).trans h2, r⟩

theorem ORp.lt {T n : Nat} {w : World} {base : Nat} {v : Value} {R : List (Array Value)} (h : ORp T n w base v R) : ∀ k, v.ownBlock = some k → base ≤ k ∧ k < w.heap.size := World.ownsRow.lt h.2
theorem ORp.move {T n : Nat} {w w' : World} {base : Nat} {v : Value} {R : List (Array Value)} (h : ORp T n w base v R) (hb : ∀ k, v.ownBlock = some k → w'.heap[k]? = w.heap[k]?) : ORp T n w' base v R := ⟨h.1, xown_movep h.2 hb⟩
theorem ORp.below {T n : Nat} {w w' : World} {base B : Nat} {v : Value} {R : List (Array Value)} (h : ORp T n w base v R) (hb : Below B w w') (hB : w.heap.size ≤ B) : ORp T n w' base v R := h.move fun k hk => hb.block k (Nat.lt_of_lt_of_le (h.lt k hk).2 hB)
theorem ORp.alloc {T n : Nat} {w : World} {base : Nat} {v : Value} {R : List (Array Value)} (h : ORp T n w base v R) (o : Obj) : ORp T n (w.alloc o) base v R := h.move fun k hk => Below.heap_alloc w o k (h.lt k hk).2
theorem ORp.base {T n : Nat} {w : World} {base base' : Nat} {v : Value} {R : List (Array Value)} (h : ORp T n w base v R) (hb : base' ≤ base) : ORp T n w base' v R := by
  refine ⟨h.1, h.2.1, ?_⟩
  rcases h.2.2 with h2 | ⟨g, cap, cur, rfl, h1, r⟩
  · exact .inl h2
  · exact .inr ⟨g, cap, cur, rfl, Nat.le_trans hb h1, r⟩
theorem ORp.shape {T n : Nat} {w : World} {base : Nat} {v : Value} {R : List (Array Value)} (h : ORp T n w base v R) : ∃ a c, v = .slice a R.length c ∧ R.length ≤ c ∧ c ≤ 9223372036854775807 := by
  rcases h.2.2 with ⟨rfl, h0⟩ | ⟨g, cap, cur, rfl, _, _, h3, h4, _⟩
  · exact ⟨none, 0, by rw [h0], by omega, by omega⟩
  · unfold maxLen at h4; exact ⟨_, _, rfl, h3, by omega⟩
theorem ORp.nil (T n : Nat) (w : World) (base : Nat) : ORp T n w base (.slice none 0 0) [] := ⟨fun r hr => by simp at hr, World.ownsRow_nil _ _ _ _⟩
theorem wpRowp {w : World} {ops : Array Oper} {rest : List Oper} {o : Oper} {a : Act} {Q : Exit → Act → World → Prop} (hgd : o.guard = none) (s x : Operand) (TS T n bytes : Nat) (z : Value)
    (ho : o.op = .call { callee := .builtin .append, args := #[s, x], argTypes := #[TS, TS] }) (ht : Tryz.prog.underlying TS = some (.slice T))
    (hinf : (Tryz.prog.info? T).map (fun i => (i.zero, i.size, i.bytes)) = some (some z, n, bytes)) (hzs : z.cells.size = n) (hn : 0 < n)
    (base : Nat) (v : Value) (R : List (Array Value)) (r : Array Value) (B c : Nat) (fr : Nat × Nat) (hs : a.eval s = v) (hown : ORp T n w base v R)
    (hx : a.eval x = .slice (some ⟨B, 0, none⟩) 1 c) (hB : w.heap[B]? = some (.cells r T fr)) (hr : r.size = n) (h1 : ∀ u ∈ r.toList, u.oneCell' = true)
    (hlen : R.length < 9007199254740992) (hbytes : (R.length + 1) * bytes ≤ 140737488355328) (hbase : base ≤ w.heap.size)
    (h : ∀ v' w', ORp T n w' base v' (R ++ [r]) → w.grownBy w' v.ownBlock → (v'.ownBlock = v.ownBlock ∨ v'.ownBlock = some w.heap.size) → wpList Tryz.prog ops Q rest (a.put o.dst v') w') : wpList Tryz.prog ops Q (o :: rest) a w := by
  obtain ⟨i0, hi0, hz0, hz1, hz2⟩ := info_parts hinf
  refine wpList_append_own_at _ hgd s x TS ho base T i0 z n bytes ht hi0 hz0 hz1 hz2 hzs hn v R.length (flr R) hs hown.2 ⟨B, 0, none⟩ 1 c r.toList hx (by rw [Array.length_toList, hr, Nat.one_mul]) (World.news_of_block hB) h1 (by unfold maxLen; omega) hbytes hbase fun v' w' g1 g2 _ g4 => h v' w' ⟨?_, ?_⟩ g2 g4
  · intro q hq
    rcases List.mem_append.1 hq with hq | hq
    · exact hown.1 q hq
    · rw [List.mem_singleton.1 hq]; exact hr
  · rw [List.length_append, flr_app]
    simpa [flr] using g1
end Go.Proofs.YtdpoggapenjjfaaGreatDoor

namespace Go.Proofs.YtdpoggapenjjfaaGreatDoor
open Go.RowKit Go.Maps
set_option maxRecDepth 20000
set_option linter.unusedVariables false

def tor (v : Value) (R : List (Array Value)) : Thing :=
  ⟨fun w K => ORp 36 6 w 0 v R ∧ (∀ k, v.ownBlock = some k → K k ≠ 0) ∧ ∀ k, K k ≠ 0 → k < w.heap.size,
   fun h a b => ⟨h.1.move fun k hk => b k (h.2.1 k hk), h.2.1, fun k hk => Nat.lt_of_lt_of_le (h.2.2 k hk) a⟩, fun h => h.2.2⟩

def stO (r L : Nat) (a : Option Addr) (n c : Nat) (aw : Option Addr) (nw cw : Nat) (us : Int) (dn : Bool) (er : Int) : Obj := .cells #[.pointer (some ⟨r, 0, none⟩), .int .i64 L, .slice a n c, .slice aw nw cw, .int .i64 us, .bool dn, .int .i64 er] 32

def SX (W w : World) (g r : Nat) (row : List Int) (p L : Nat) (out : List Int) (wh : List (Array Value)) (us : Int) (dn : Bool) (er : Int) (ys : List ((Nat → Nat) × Thing)) : Prop :=
  ∃ Kt Kr Ko Kw a c aw cw, Herd W w ((Kt, tb g (stO r L a out.length c aw wh.length cw us dn er)) :: (Kr, tq r row p) :: (Ko, tl (.slice a out.length c) out) :: (Kw, tor (.slice aw wh.length cw) wh) :: ys) ∧ out.length ≤ L ∧ L ≤ 16777216 ∧ wh.length ≤ 268435456

structure SXe (out0 : List Int) (W w : World) (g r : Nat) (row : List Int) (p L : Nat) (out : List Int) (wh : List (Array Value)) (us : Int) (dn : Bool) (er : Int) (ys : List ((Nat → Nat) × Thing)) : Prop where
  sx : SX W w g r row p L out wh us dn er ys
  pre : ∃ t, out = out0 ++ t

theorem stO_cells {w : World} {g r L : Nat} {a : Option Addr} {n c : Nat} {aw : Option Addr} {nw cw : Nat} {us : Int} {dn : Bool} {er : Int} (h : w.heap[g]? = some (stO r L a n c aw nw cw us dn er)) :
    w.cell? ⟨g, 0, none⟩ = some (.pointer (some ⟨r, 0, none⟩)) ∧ w.cell? ⟨g, 1, none⟩ = some (.int .i64 L) ∧ w.cell? ⟨g, 2, none⟩ = some (.slice a n c) ∧ w.cell? ⟨g, 3, none⟩ = some (.slice aw nw cw) ∧ w.cell? ⟨g, 4, none⟩ = some (.int .i64 us) ∧ w.cell? ⟨g, 5, none⟩ = some (.bool dn) ∧ w.cell? ⟨g, 6, none⟩ = some (.int .i64 er) ∧ ∀ k, w.frozen? ⟨g, k, none⟩ = false := by
  unfold stO at h
  refine ⟨?_, ?_, ?_, ?_, ?_, ?_, ?_, fun k => ?_⟩
  all_goals first | (unfold World.cell?; rw [h]; rfl) | (unfold World.frozen?; rw [h]; rfl)

variable {W w : World} {g r : Nat} {row : List Int} {p L : Nat} {out : List Int} {wh : List (Array Value)} {us : Int} {dn : Bool} {er : Int} {ys : List ((Nat → Nat) × Thing)}

theorem SX.below {w' : World} (h : SX W w g r row p L out wh us dn er ys) (hb : Below w.heap.size w w') : SX W w' g r row p L out wh us dn er ys := by
  obtain ⟨Kt, Kr, Ko, Kw, a, c, aw, cw, H, k⟩ := h
  exact ⟨Kt, Kr, Ko, Kw, a, c, aw, cw, H.below hb, k⟩

theorem SX.bel (h : SX W w g r row p L out wh us dn er ys) : Below W.heap.size W w := by
  obtain ⟨Kt, Kr, Ko, Kw, a, c, aw, cw, H, k⟩ := h
  exact H.bel

theorem SX.rd (h : SX W w g r row p L out wh us dn er ys) : Bit row ∧ p ≤ row.length ∧ row.length ≤ 268435456 ∧ row.length % 8 = 0 := by
  obtain ⟨Kt, Kr, Ko, Kw, a, c, aw, cw, H, k⟩ := h
  have hR : Rq w Kr r row p := H.rep 1 _ rfl
  obtain ⟨v, -, h1, h2, h3, h4⟩ := hR
  exact ⟨h1, h2, h3, h4⟩

theorem SX.cells (h : SX W w g r row p L out wh us dn er ys) : ∃ a c aw cw, w.heap[g]? = some (stO r L a out.length c aw wh.length cw us dn er) ∧ OB w 0 (.slice a out.length c) out ∧ out.length ≤ L ∧ L ≤ 16777216 := by
  obtain ⟨Kt, Kr, Ko, Kw, a, c, aw, cw, H, k1, k2, -⟩ := h
  exact ⟨a, c, aw, cw, H.tbat 0 rfl, (H.rep 2 _ rfl).1, k1, k2⟩

theorem SX.used (h : SX W w g r row p L out wh us dn er ys) (u : Int) : SX W (w.setCell ⟨g, 4, none⟩ (.int .i64 u)) g r row p L out wh u dn er ys := by
  obtain ⟨Kt, Kr, Ko, Kw, a, c, aw, cw, H, k⟩ := h
  exact ⟨Kt, Kr, Ko, Kw, a, c, aw, cw, H.bput 0 rfl 4 (.int .i64 u), k⟩

theorem SX.lit (h : SX W w g r row p L out wh us dn er ys) : ∃ a c, w.cell? ⟨g, 2, none⟩ = some (.slice a out.length c) ∧ OB w 0 (.slice a out.length c) out ∧
    ∀ (w1 w6 : World) (v' : Value) (out' : List Int), Below w.heap.size w w1 → OB w6 0 v' out' → Grew w1 w6 (.slice a out.length c) v' → w6.cell? ⟨g, 2, none⟩ = some (.slice a out.length c) ∧ (∀ k, w6.frozen? ⟨g, k, none⟩ = false) ∧ (out'.length ≤ L → SX W (w6.setCell ⟨g, 2, none⟩ v') g r row p L out' wh us dn er ys) := by
  obtain ⟨Kt, Kr, Ko, Kw, a, c, aw, cw, HH, hoL, hL, hwp⟩ := h
  have h0 : (tb g (stO r L a out.length c aw wh.length cw us dn er)).P w Kt := HH.rep 0 _ rfl
  have h2 : (tl (.slice a out.length c) out).P w Ko := HH.rep 2 _ rfl
  refine ⟨a, c, (stO_cells h0.1).2.2.1, h2.1, fun w1 w6 v' out' hb ho hg => ?_⟩
  have hgs := h0.2.2 g h0.2.1
  have e1 : w6.heap[g]? = w1.heap[g]? := hg.by.block g (Nat.lt_of_lt_of_le hgs hb.size) (fun e => by
    have := HH.sep 0 2 _ _ rfl rfl (by decide) g h0.2.1
    exact h2.2.1 g e.symm this)
  have e2 : w6.heap[g]? = some (stO r L a out.length c aw wh.length cw us dn er) := e1.trans ((hb.block g hgs).trans h0.1)
  refine ⟨(stO_cells e2).2.2.1, (stO_cells e2).2.2.2.2.2.2.2, fun hL' => ?_⟩
  obtain ⟨a', c', rfl⟩ := ho.shape
  obtain ⟨K', h3⟩ := (HH.below hb).growB8 2 rfl ho hg
  simp only [List.set_cons_succ, List.set_cons_zero] at h3
  exact ⟨Kt, Kr, K', Kw, a', c', aw, cw, h3.bput 0 rfl 2 (.slice a' out'.length c'), hL', hL, hwp⟩

theorem lnB_next : ∀ j : Fin 27, lnB (257 + (j.val + 1)) = lnB (257 + j.val) + 2 ^ lnF (257 + j.val) := by decide
theorem dsB_next : ∀ j : Fin 29, dsB (j.val + 1) = dsB j.val + 2 ^ dsF j.val := by decide

set_option maxHeartbeats 1000000 in
theorem vlenBase_any (s : Nat) (h0 : 257 ≤ s) (h1 : s ≤ 285) (w : World) : Calls Tryz.prog 75 #[.int .i64 s] w fun e w' => e = .returned (.int .i64 (lnB s)) ∧ w' = w := by
  by_cases h2 : s = 285
  · subst h2
    go_enter Tryz.func75, Tryz.ntmps75
    go_wp2
    go_ret
    exact ⟨rfl, rfl⟩
  · have g2 : ((s : Int) == 285) = false := by simp; omega
    have HLN : Hid (∀ j : Fin 27, lnB (257 + (j.val + 1)) = lnB (257 + j.val) + 2 ^ lnF (257 + j.val)) := lnB_next
    go_enter Tryz.func75, Tryz.ntmps75
    go_wp2
    go_loopw [3, 4] (fun b t wr => ∃ j : Nat, 257 ≤ j ∧ j ≤ s ∧ b = .int .i64 (lnB j : Int) ∧ t = .int .i64 (j : Int) ∧ wr = w) (fun _ t _ => s - (intOf t).toNat)
    case atStart => exact ⟨257, Nat.le_refl _, h0, rfl, rfl, rfl⟩
    case round =>
      obtain ⟨j, hj0, hj, rfl, rfl, rfl⟩ := hrel
      obtain ⟨B, HBB⟩ : ∃ B : Nat, Hid (B = lnB j) := ⟨_, rfl⟩
      have hB : B ≤ 258 := by rw [HBB.out]; exact lnBle ⟨j, by omega⟩
      rw [← HBB.out]
      by_cases hlt : j < s
      · have hlt' : (j : Int) < (s : Int) := by omega
        have HBI := hide (vlenBits_any j hj0 (by omega) wr)
        obtain ⟨F, HF⟩ : ∃ F : Nat, Hid (F = lnF j) := ⟨_, rfl⟩
        have hF : F ≤ 5 := by rw [HF.out]; exact lnFle (by omega)
        have HPW := hide (vpower_any F (by omega) wr)
        have hq : 2 ^ F ≤ 32 := by have := Nat.pow_le_pow_right (n := 2) (by decide) hF; omega
        obtain ⟨q, HQ⟩ : ∃ q : Nat, Hid (q = 2 ^ F) := ⟨_, rfl⟩
        rw [← HF.out] at HBI
        rw [← HQ.out] at HPW hq
        have HNX : Hid (lnB (j + 1) = B + q) := by
          show _ = _
          have := HLN.out ⟨j - 257, by omega⟩
          simp only at this
          rw [show 257 + (j - 257 + 1) = j + 1 by omega, show 257 + (j - 257) = j by omega, ← HBB.out, ← HF.out, ← HQ.out] at this
          exact this
        go_wp2_with fail
        refine HBI.out.mono ?_
        rintro e w8 ⟨rfl, hw8⟩
        subst hw8
        go_wp2_with fail
        refine HPW.out.mono ?_
        rintro e w9 ⟨rfl, hw9⟩
        subst hw9
        go_wp2
        go_roundw
        case rel => exact ⟨j + 1, by omega, by omega, by rw [HNX.out]; simp, by simp, by first | rfl | trivial⟩
        case measure => simp [intOf]; omega
      · obtain rfl : j = s := by omega
        go_wp2
        go_ret
        exact ⟨by rw [← HBB.out]; rfl, rfl⟩

set_option maxHeartbeats 1000000 in
theorem vdistBase_any (s : Nat) (h1 : s ≤ 29) (w : World) : Calls Tryz.prog 77 #[.int .i64 s] w fun e w' => e = .returned (.int .i64 (dsB s)) ∧ w' = w := by
  have HLN : Hid (∀ j : Fin 29, dsB (j.val + 1) = dsB j.val + 2 ^ dsF j.val) := dsB_next
  go_enter Tryz.func77, Tryz.ntmps77
  go_wp2
  go_loopw [3, 4] (fun b t wr => ∃ j : Nat, j ≤ s ∧ b = .int .i64 (dsB j : Int) ∧ t = .int .i64 (j : Int) ∧ wr = w) (fun _ t _ => s - (intOf t).toNat)
  case atStart => exact ⟨0, Nat.zero_le _, rfl, rfl, rfl⟩
  case round =>
    obtain ⟨j, hj, rfl, rfl, rfl⟩ := hrel
    obtain ⟨B, HBB⟩ : ∃ B : Nat, Hid (B = dsB j) := ⟨_, rfl⟩
    have hB : B ≤ 24577 := by rw [HBB.out]; exact (dsBle ⟨j, by omega⟩).1
    rw [← HBB.out]
    by_cases hlt : j < s
    · have hlt' : (j : Int) < (s : Int) := by omega
      have HBI := hide (vdistBits_any j (by omega) wr)
      obtain ⟨F, HF⟩ : ∃ F : Nat, Hid (F = dsF j) := ⟨_, rfl⟩
      have hF : F ≤ 13 := by rw [HF.out]; exact dsFle (by omega)
      have HPW := hide (vpower_any F (by omega) wr)
      have hq : 2 ^ F ≤ 8192 := by have := Nat.pow_le_pow_right (n := 2) (by decide) hF; omega
      obtain ⟨q, HQ⟩ : ∃ q : Nat, Hid (q = 2 ^ F) := ⟨_, rfl⟩
      rw [← HF.out] at HBI
      rw [← HQ.out] at HPW hq
      have HNX : Hid (dsB (j + 1) = B + q) := by
        show _ = _
        have := HLN.out ⟨j, by omega⟩
        simp only at this
        rw [← HBB.out, ← HF.out, ← HQ.out] at this
        exact this
      go_wp2_with fail
      refine HBI.out.mono ?_
      rintro e w8 ⟨rfl, hw8⟩
      subst hw8
      go_wp2_with fail
      refine HPW.out.mono ?_
      rintro e w9 ⟨rfl, hw9⟩
      subst hw9
      go_wp2
      go_roundw
      case rel => exact ⟨j + 1, by omega, by rw [HNX.out]; simp, by simp, by first | rfl | trivial⟩
      case measure => simp [intOf]; omega
    · obtain rfl : j = s := by omega
      go_wp2
      go_ret
      exact ⟨by rw [← HBB.out]; rfl, rfl⟩

theorem vtake (h : SX W w g r row p L out wh us dn er ys) (n : Nat) (hn : n ≤ 32) :
    Calls Tryz.prog 32 #[.pointer (some ⟨r, 0, none⟩), .int .i64 n] w fun e w' => (p + n ≤ row.length ∧ e = .returned (.tuple #[.int .u32 (ahead row p n), .int .i64 0]) ∧ SX W w' g r row (p + n) L out wh us dn er ys) ∨ (row.length < p + n ∧ e = .returned (.tuple #[.int .u32 (takeV row p n), .int .i64 (takeE row p n)]) ∧ takeE row p n ≠ 0 ∧ SX W w' g r row p L out wh us dn er ys) := by
  obtain ⟨Kt, Kr, Ko, Kw, a, c, aw, cw, H, k1, k2, k3⟩ := h
  refine (hqtake H 1 rfl n).mono ?_
  rintro e w1 ⟨rfl, h1⟩
  simp only [List.set_cons_succ, List.set_cons_zero] at h1
  have ht := take_ok8 (row := row) (p := p) hn
  by_cases hp : p + n ≤ row.length
  · obtain ⟨e1, e2, e3⟩ := ht.1 hp
    rw [e3] at h1
    exact .inl ⟨hp, by rw [e1, e2], Kt, Kr, Ko, Kw, a, c, aw, cw, h1, k1, k2, k3⟩
  · have hne := ht.2 (by omega)
    have h3 : takeP row p n = p := by unfold takeP; rw [if_neg (fun q => hp (by have := q.2; omega))]
    rw [h3] at h1
    exact .inr ⟨by omega, rfl, hne, Kt, Kr, Ko, Kw, a, c, aw, cw, h1, k1, k2, k3⟩

theorem vtakeU (h : SX W w g r row p L out wh us dn er ys) (n : Nat) (hn : n ≤ 32) :
    Calls Tryz.prog 32 #[.pointer (some ⟨r, 0, none⟩), .int .i64 n] w fun e w' => e = .returned (.tuple #[.int .u32 (takeV row p n), .int .i64 (takeE row p n)]) ∧ SX W w' g r row (takeP row p n) L out wh us dn er ys := by
  obtain ⟨Kt, Kr, Ko, Kw, a, c, aw, cw, H, k1, k2, k3⟩ := h
  refine (hqtake H 1 rfl n).mono ?_
  rintro e w1 ⟨rfl, h1⟩
  simp only [List.set_cons_succ, List.set_cons_zero] at h1
  exact ⟨rfl, Kt, Kr, Ko, Kw, a, c, aw, cw, h1, k1, k2, k3⟩

theorem vnext (h : SX W w g r row p L out wh us dn er ys) (i : Nat) {K : Nat → Nat} {gd : Nat} {l : List Int} (hi : ys[i]? = some (K, tdx gd l)) :
    Calls Tryz.prog 55 #[.pointer (some ⟨gd, 0, none⟩), .pointer (some ⟨r, 0, none⟩)] w fun e w' => (syE l row p = 0 ∧ e = .returned (.tuple #[.int .i64 (nxS l row p : Nat), .int .i64 0]) ∧ SX W w' g r row (nxP l row p) L out wh us dn er ys) ∨ (syE l row p ≠ 0 ∧ e = .returned (.tuple #[.int .i64 0, .int .i64 (syE l row p)]) ∧ SX W w' g r row p L out wh us dn er ys) := by
  obtain ⟨Kt, Kr, Ko, Kw, a, c, aw, cw, H, k1, k2, k3⟩ := h
  have HN := hide (hxnext H (i + 4) 1 (by simpa using hi) rfl)
  have HK := hide (And.intro k1 (And.intro k2 k3))
  obtain ⟨E, HE⟩ : ∃ E, Hid (E = nxE l row p) := ⟨_, rfl⟩
  obtain ⟨S, HS⟩ : ∃ S : Nat, Hid (S = nxS l row p) := ⟨_, rfl⟩
  have HSY : Hid (syE l row p = if E = 0 then 0 else if E = 54 then 80 else 83) := by show _ = _; rw [HE.out]; rfl
  rw [← HE.out, ← HS.out] at HN
  rw [← HS.out]
  clear H k1 k2 k3
  go_enter Tryz.func55, Tryz.ntmps55
  go_wp2_with fail
  refine HN.out.mono ?_
  rintro e w1 ⟨rfl, h1⟩
  simp only [List.set_cons_succ, List.set_cons_zero] at h1
  have HX := hide h1
  clear h1
  by_cases e0 : E = 0
  · subst e0
    have HS0 : Hid (syE l row p = 0) := by show _ = _; rw [HSY.out, if_pos rfl]
    go_wp2
    go_ret2
    exact .inl ⟨HS0.out, rfl, Kt, Kr, Ko, Kw, a, c, aw, cw, HX.out, HK.out⟩
  · have hpe : nxP l row p = p := by unfold nxP; rw [if_neg (by rw [← HE.out]; exact e0)]
    rw [hpe] at HX
    have e0' : (E == 0) = false := by simpa using e0
    clear hpe
    by_cases e1 : E = 54
    · subst e1
      have HS0 : Hid (syE l row p = 80) := by show _ = _; rw [HSY.out, if_neg e0, if_pos rfl]
      go_wp2
      go_ret2
      rw [HS0.out]
      exact .inr ⟨by decide, rfl, Kt, Kr, Ko, Kw, a, c, aw, cw, HX.out, HK.out⟩
    · have e1' : (E == 54) = false := by simpa using e1
      have HS0 : Hid (syE l row p = 83) := by show _ = _; rw [HSY.out, if_neg e0, if_neg e1]
      go_wp2
      go_ret2
      rw [HS0.out]
      exact .inr ⟨by decide, rfl, Kt, Kr, Ko, Kw, a, c, aw, cw, HX.out, HK.out⟩
end Go.Proofs.YtdpoggapenjjfaaGreatDoor

