import Derived.Test.YtcgeaidegppiaaaDoorGA20
namespace Go.Proofs.YtcgeaidegppiaaaDoor
open Go.RowKit Go.Maps
set_option maxRecDepth 20000
set_option linter.unusedVariables false

theorem cput {w : World} {g : Nat} {a b c a' b' c' : Int} {o : Obj} (h : Cbox w g a b c) : Cbox ((((w.setCell ⟨g, 0, none⟩ (.int .i64 a')).setCell ⟨g, 1, none⟩ (.int .i64 b')).setCell ⟨g, 2, none⟩ (.int .i64 c')).alloc o) g a' b' c' ∧ Below g w ((((w.setCell ⟨g, 0, none⟩ (.int .i64 a')).setCell ⟨g, 1, none⟩ (.int .i64 b')).setCell ⟨g, 2, none⟩ (.int .i64 c')).alloc o) := by
  have h1 := h.put (a' := a') (b' := b') (c' := c')
  have h2 := h1.lt
  exact ⟨h1.below ((Below.refl _ _).alloc (Nat.le_refl _) _), (put3 (Below.refl _ _) (Nat.le_refl _)).alloc (Nat.le_of_lt h2) _⟩

set_option maxHeartbeats 2000000 in
theorem hcounts {W w : World} {xs : List ((Nat → Nat) × Thing)} (H : Herd W w xs) (i : Nat) {K : Nat → Nat} {g : Nat} {row : List Int} {p : Nat} (hi : xs[i]? = some (K, tr g row p)) :
    Calls Tryd.prog 46 #[.pointer (some ⟨g, 0, none⟩)] w fun e w' => ∃ a b c q : Nat, e = .returned (.tuple #[.agg #[.int .i64 a, .int .i64 b, .int .i64 c], .int .i64 (rcE row p)]) ∧ Herd W w' (xs.set i (K, tr g row q)) ∧ (rcE row p = 0 → q = p + 14 ∧ a = rcL row p ∧ b = rcD row p ∧ c = rcN row p) := by
  have hR : Rp w K g row p := H.rep i _ hi
  have hab := ahead_bound hR.bit p 14
  have hpl := hR.le
  have HLOW := hide H.low
  have hsz := H.bel.size
  have HI := hide hi
  obtain ⟨KB, hbox⟩ := H.box1 (.cells #[.int .i64 0, .int .i64 0, .int .i64 0] 79)
  obtain ⟨wb, hwb⟩ : ∃ wb, w.alloc (.cells #[.int .i64 0, .int .i64 0, .int .i64 0] 79) = wb := ⟨_, rfl⟩
  rw [hwb] at hbox
  have HT := hide (htake hbox i (get_front hi) 14)
  rw [setf hi] at HT
  have HWB := hide hwb
  clear hbox hwb H hi hR
  go_enter Tryd.func46, Tryd.ntmps46
  go_wp2_with fail
  rw [HWB.out]
  refine HT.out.mono ?_
  rintro e w1 ⟨rfl, h1⟩
  have HX := hide h1
  have hbx : Cbox w1 w.heap.size 0 0 0 := h1.tbs
  obtain ⟨c0, c1, c2⟩ := hbx.cells
  obtain ⟨z0, z1, z2⟩ := hbx.frozen
  have HBX := hide hbx
  clear h1 hbx
  by_cases hl : row.length < p + 14
  · have HE : Hid (rcE row p = 70) := by show _ = _; unfold rcE; rw [if_pos hl]
    have e30 : takeE row p 14 = 30 := by unfold takeE; rw [if_pos ⟨by omega, by omega⟩, if_neg (by omega)]
    rw [e30]
    clear hab
    go_wp2
    obtain ⟨wf, hwf⟩ : ∃ wf, (((w1.setCell ⟨w.heap.size, 0, none⟩ (.int .i64 0)).setCell ⟨w.heap.size, 1, none⟩ (.int .i64 0)).setCell ⟨w.heap.size, 2, none⟩ (.int .i64 0)) = wf := ⟨_, rfl⟩
    have hfx : Cbox wf w.heap.size 0 0 0 := by rw [← hwf]; exact HBX.out.put
    have hfb : Below w.heap.size w1 wf := by rw [← hwf]; exact put3 (Below.refl _ _) (Nat.le_refl _)
    rw [hwf]
    obtain ⟨f0, f1, f2⟩ := hfx.cells
    refine bodyPost_ret (v := .tuple #[.agg #[.int .i64 0, .int .i64 0, .int .i64 0], .int .i64 70]) (by simp [results, Tryd.results46, go_sem, f0, f1, f2]) rfl ?_
    exact ⟨0, 0, 0, _, by rw [HE.out]; rfl, HX.out.front.keep (HLOW.out.set HI.out) hsz hfb, fun h => by rw [HE.out] at h; omega⟩
  · obtain ⟨t1, t2, t3⟩ := take_ok (takeOk_of (row := row) (p := p) (n := 14) (by omega) (by omega))
    have HT3 := hide t3
    have t1' : takeE row p 14 = 0 := t1
    have t2' : takeV row p 14 = ahead row p 14 := t2
    rw [t1', t2']
    have hv2 : ahead row p 14 < 16384 := hab.2
    have hv1 := hab.1
    obtain ⟨V, HV⟩ : ∃ V, Hid (V = ahead row p 14) := ⟨_, rfl⟩
    rw [← HV.out] at hv1 hv2 ⊢
    have m1 := u32_31 (v := V) hv1 (by omega)
    have m2 := u32_31 (v := V / 32) (by omega) (by omega)
    obtain ⟨a, ha⟩ := Int.eq_ofNat_of_zero_le (show 0 ≤ V % 32 by omega)
    obtain ⟨b, hb⟩ := Int.eq_ofNat_of_zero_le (show 0 ≤ V / 32 % 32 by omega)
    obtain ⟨c, hc⟩ := Int.eq_ofNat_of_zero_le (show 0 ≤ V / 1024 by omega)
    have HL : Hid (rcL row p = 257 + a) := by show _ = _; unfold rcL; rw [← HV.out, ha]; rfl
    have HD : Hid (rcD row p = 1 + b) := by show _ = _; unfold rcD; rw [← HV.out, hb]; rfl
    have HN : Hid (rcN row p = 4 + c) := by show _ = _; unfold rcN; rw [← HV.out, hc]; rfl
    have ha2 : (a : Int) < 32 := by omega
    have hb2 : (b : Int) < 32 := by omega
    have hc2 : (c : Int) < 16 := by omega
    rw [ha] at m1
    rw [hb] at m2
    have hlt1 := HBX.out.lt
    have HC := hide hc
    clear hab t1 t2 t3 t1' t2' ha hb hc
    by_cases q1 : 286 < 257 + (a : Int)
    · have HE : Hid (rcE row p = 71) := by show _ = _; unfold rcE; rw [if_neg hl, HL.out, HD.out, if_pos (by omega)]
      go_wp2
      obtain ⟨hfx, hfb⟩ := cput (a' := 0) (b' := 0) (c' := 0) (o := .cells #[.int .i64 (257 + (a : Int)), .int .i64 (1 + (b : Int)), .int .i64 (4 + (V / 1024))] 79) HBX.out
      obtain ⟨f0, f1, f2⟩ := hfx.cells
      refine bodyPost_ret (v := .tuple #[.agg #[.int .i64 0, .int .i64 0, .int .i64 0], .int .i64 71]) (by simp [results, Tryd.results46, go_sem, f0, f1, f2]) rfl ?_
      exact ⟨0, 0, 0, _, by rw [HE.out]; rfl, HX.out.front.keep (HLOW.out.set HI.out) hsz hfb, fun h => by rw [HE.out] at h; omega⟩
    by_cases q2 : 30 < 1 + (b : Int)
    · have HE : Hid (rcE row p = 71) := by show _ = _; unfold rcE; rw [if_neg hl, HL.out, HD.out, if_pos (by omega)]
      have q1' : decide (286 < 257 + (a : Int)) = false := decide_eq_false q1
      go_wp2
      obtain ⟨hfx, hfb⟩ := cput (a' := 0) (b' := 0) (c' := 0) (o := .cells #[.int .i64 (257 + (a : Int)), .int .i64 (1 + (b : Int)), .int .i64 (4 + (V / 1024))] 79) HBX.out
      obtain ⟨f0, f1, f2⟩ := hfx.cells
      refine bodyPost_ret (v := .tuple #[.agg #[.int .i64 0, .int .i64 0, .int .i64 0], .int .i64 71]) (by simp [results, Tryd.results46, go_sem, f0, f1, f2]) rfl ?_
      exact ⟨0, 0, 0, _, by rw [HE.out]; rfl, HX.out.front.keep (HLOW.out.set HI.out) hsz hfb, fun h => by rw [HE.out] at h; omega⟩
    · have HE : Hid (rcE row p = 0) := by show _ = _; unfold rcE; rw [if_neg hl, HL.out, HD.out, if_neg (by omega)]
      go_wp2
      obtain ⟨hfx, hfb⟩ := cput (a' := 257 + (a : Int)) (b' := 1 + (b : Int)) (c' := 4 + V / 1024) (o := .cells #[.int .i64 (257 + (a : Int)), .int .i64 (1 + (b : Int)), .int .i64 (4 + (V / 1024))] 79) HBX.out
      obtain ⟨f0, f1, f2⟩ := hfx.cells
      refine bodyPost_ret (v := .tuple #[.agg #[.int .i64 (257 + (a : Int)), .int .i64 (1 + (b : Int)), .int .i64 (4 + V / 1024)], .int .i64 0]) (by simp [results, Tryd.results46, go_sem, f0, f1, f2]) rfl ?_
      exact ⟨257 + a, 1 + b, 4 + c, _, by rw [HE.out, HC.out]; rfl, HX.out.front.keep (HLOW.out.set HI.out) hsz hfb, fun _ => ⟨HT3.out, HL.out.symm, HD.out.symm, HN.out.symm⟩⟩
end Go.Proofs.YtcgeaidegppiaaaDoor

namespace Go.Proofs.YtcgeaidegppiaaaDoor
open Go.RowKit Go.Maps
set_option maxRecDepth 20000
set_option linter.unusedVariables false

theorem nxS_lt {l row : List Int} {p : Nat} (hl : Lens l) (h : nxE l row p = 0) : nxS l row p < l.length := by
  have hfb : fdB l (rowAt row p) = true := by
    unfold nxE at h
    by_cases c : fdB l (rowAt row p) = true
    · exact c
    · rw [if_neg c] at h; omega
  have hs : nxS l row p = fdS l (rowAt row p) := by unfold nxS; rw [if_pos h]
  rw [hs]
  exact (hit_iff.1 (fd_has hl hfb)).1.1

theorem rput {w : World} {g : Nat} {a b a' b' : Int} (h : Rbox w g a b) : Rbox ((w.setCell ⟨g, 0, none⟩ (.int .i64 a')).setCell ⟨g, 1, none⟩ (.int .i64 b')) g a' b' ∧ Below g w ((w.setCell ⟨g, 0, none⟩ (.int .i64 a')).setCell ⟨g, 1, none⟩ (.int .i64 b')) :=
  ⟨h.put, put2 (Below.refl _ _) (Nat.le_refl _)⟩

set_option maxHeartbeats 2000000 in
theorem htrun {W w : World} {xs : List ((Nat → Nat) × Thing)} (H : Herd W w xs) (i j : Nat) {K Kd : Nat → Nat} {g gd : Nat} {C row : List Int} {p : Nat} (hi : xs[i]? = some (K, tr g row p)) (hj : xs[j]? = some (Kd, td gd C)) (h19 : C.length = 19) (T : Tab W) :
    Calls Tryd.prog 61 #[.pointer (some ⟨g, 0, none⟩), .pointer (some ⟨gd, 0, none⟩)] w fun e w' => ∃ (s : Nat) (c : Int) (q : Nat), e = .returned (.tuple #[.agg #[.int .i64 s, .int .i64 c], .int .i64 (trE C row p)]) ∧ w.heap.size ≤ w'.heap.size ∧ Herd W w' (xs.set i (K, tr g row q)) ∧ (trE C row p = 0 → q = trP C row p ∧ s = nxS C row p ∧ c = trC C row p) := by
  have hR : Rp w K g row p := H.rep i _ hi
  have hDd : Dp w Kd gd C := H.rep j _ hj
  have HLN := hide (dcE_zero hDd.ok).1
  have HBT := hide hR.bit
  have HLOW := hide H.low
  have hsz := H.bel.size
  have HI := hide hi
  have HT := hide T
  obtain ⟨KB, hbox⟩ := H.box1 (.cells #[.int .i64 0, .int .i64 0] 111)
  obtain ⟨wb, hwb⟩ : ∃ wb, w.alloc (.cells #[.int .i64 0, .int .i64 0] 111) = wb := ⟨_, rfl⟩
  rw [hwb] at hbox
  have HNX := hide (hnext hbox j i (get_front hj) (get_front hi))
  rw [setf hi] at HNX
  have HWB := hide hwb
  have H19 := hide h19
  clear hbox hwb H hi hR hDd hj T h19
  have HTR : Hid (trE C row p = if nxE C row p ≠ 0 then 70 else if row.length < nxP C row p + frt (nxS C row p : Nat) then 70 else 0) := rfl
  have HTC : Hid (trC C row p = lst (nxS C row p : Nat) + ahead row (nxP C row p) (frt (nxS C row p : Nat))) := rfl
  have HTP : Hid (trP C row p = nxP C row p + frt (nxS C row p : Nat)) := rfl
  have HSL : Hid (nxE C row p = 0 → nxS C row p < 19) := fun h => by have := nxS_lt HLN.out h; rwa [H19.out] at this
  go_enter Tryd.func61, Tryd.ntmps61
  go_wp2_with fail
  rw [HWB.out]
  refine HNX.out.mono ?_
  rintro e w1 ⟨rfl, h1⟩
  have HX := hide h1
  have hbx : Rbox w1 w.heap.size 0 0 := h1.tbs
  obtain ⟨c0, c1⟩ := hbx.cells
  obtain ⟨z0, z1⟩ := hbx.frozen
  have HBX := hide hbx
  have HB1 := hide h1.bel
  clear h1 hbx
  obtain ⟨E, HE⟩ : ∃ E, Hid (E = nxE C row p) := ⟨_, rfl⟩
  obtain ⟨s, HS⟩ : ∃ s, Hid (s = nxS C row p) := ⟨_, rfl⟩
  obtain ⟨p1, HP⟩ : ∃ p1, Hid (p1 = nxP C row p) := ⟨_, rfl⟩
  rw [← HE.out, ← HS.out, ← HP.out] at HTR
  rw [← HS.out, ← HP.out] at HTC HTP
  rw [← HE.out, ← HS.out] at HSL
  rw [← HP.out] at HX
  rw [← HE.out, ← HS.out]
  by_cases e0 : E = 0
  case neg =>
    have e0' : (E != 0) = true := by simpa using e0
    have HF : Hid (trE C row p = 70) := by show _ = _; rw [HTR.out, if_pos e0]
    go_wp2
    obtain ⟨hfx, hfb⟩ := rput (a' := 0) (b' := 0) HBX.out
    obtain ⟨f0, f1⟩ := hfx.cells
    refine bodyPost_ret (v := .tuple #[.agg #[.int .i64 0, .int .i64 0], .int .i64 70]) (by simp [results, Tryd.results61, go_sem, f0, f1]) rfl ?_
    exact ⟨0, 0, _, by rw [HF.out]; rfl, Nat.le_of_lt hfx.lt, HX.out.front.keep (HLOW.out.set HI.out) hsz hfb, fun h => by rw [HF.out] at h; omega⟩
  subst e0
  have hs := HSL.out rfl
  have hs' : (s : Int) < 19 := by omega
  have HTB := hide (HT.out.mono HB1.out)
  have t0 := HTB.out.least s hs
  have t1 := HTB.out.further s hs
  have hF := frt_le (s : Nat)
  have hA := lst_pos (s : Nat)
  obtain ⟨A, HA⟩ : ∃ A, Hid (A = lst s) := ⟨_, rfl⟩
  obtain ⟨F, HFF⟩ : ∃ F, Hid (F = frt s) := ⟨_, rfl⟩
  rw [← HA.out] at t0 hA HTC
  rw [← HFF.out] at t1 hF HTC HTR HTP
  have HTK := hide (htake HX.out i (get_front (getset HI.out)) (F : Nat))
  rw [setf (getset HI.out), List.set_set] at HTK
  have hab := ahead_bound HBT.out p1 F
  have hpw : (2 : Int) ^ F ≤ 128 := by have := pow_le hF; have e : (2 : Int) ^ 7 = 128 := by decide
                                       omega
  clear HSL
  go_wp2_with fail
  refine HTK.out.mono ?_
  rintro e w2 ⟨rfl, h2⟩
  have HX2 := hide h2
  have hbx : Rbox w2 w.heap.size 0 0 := h2.tbs
  have HTB2 := hide (HT.out.mono h2.bel)
  clear c0 c1 z0 z1 t0 t1
  obtain ⟨c0, c1⟩ := hbx.cells
  obtain ⟨z0, z1⟩ := hbx.frozen
  have HBX2 := hide hbx
  have t0 := HTB2.out.least s hs
  rw [← HA.out] at t0
  clear h2 hbx
  by_cases hl : row.length < p1 + F
  · have HF : Hid (trE C row p = 70) := by show _ = _; rw [HTR.out, if_neg (by simp), if_pos hl]
    have e30 : takeE row p1 (F : Nat) = 30 := by unfold takeE; rw [if_pos ⟨by omega, by omega⟩, if_neg (by omega)]
    rw [e30]
    go_wp2
    obtain ⟨hfx, hfb⟩ := rput (a' := 0) (b' := 0) HBX2.out
    obtain ⟨f0, f1⟩ := hfx.cells
    refine bodyPost_ret (v := .tuple #[.agg #[.int .i64 0, .int .i64 0], .int .i64 70]) (by simp [results, Tryd.results61, go_sem, f0, f1]) rfl ?_
    exact ⟨0, 0, _, by rw [HF.out]; rfl, Nat.le_of_lt hfx.lt, HX2.out.front.keep (HLOW.out.set HI.out) hsz hfb, fun h => by rw [HF.out] at h; omega⟩
  · have HF : Hid (trE C row p = 0) := by show _ = _; rw [HTR.out, if_neg (by simp), if_neg hl]
    obtain ⟨t1, t2, t3⟩ := take_ok (takeOk_of (row := row) (p := p1) (n := F) (by omega) (by omega))
    rw [t1, t2]
    rw [t3] at HX2
    obtain ⟨V, HV⟩ : ∃ V, Hid (V = ahead row p1 F) := ⟨_, rfl⟩
    rw [← HV.out] at hab HTC ⊢
    have hv1 := hab.1
    have hv2 : V < 128 := by omega
    clear hab t1 t2 t3
    go_wp2
    obtain ⟨hfx, hfb⟩ := rput (a' := (s : Int)) (b' := A + V) HBX2.out
    obtain ⟨f0, f1⟩ := hfx.cells
    refine bodyPost_ret (v := .tuple #[.agg #[.int .i64 (s : Int), .int .i64 (A + V)], .int .i64 0]) (by simp [results, Tryd.results61, go_sem, f0, f1]) rfl ?_
    exact ⟨s, A + V, _, by rw [HF.out], Nat.le_of_lt hfx.lt, HX2.out.front.keep (HLOW.out.set HI.out) hsz hfb, fun _ => ⟨HTP.out.symm, HS.out, HTC.out.symm⟩⟩
end Go.Proofs.YtcgeaidegppiaaaDoor

