import Derived.Test.YtiabhmdefaabgabDoorGRhs
namespace Go.Proofs.YtiabhmdefaabgabDoor
open Go.RowKit Go.Maps
set_option maxRecDepth 20000
set_option linter.unusedVariables false

theorem cput {w : World} {g : Nat} {a b c a' b' c' : Int} {o : Obj} (h : Cbox w g a b c) : Cbox ((((w.setCell ⟨g, 0, none⟩ (.int .i64 a')).setCell ⟨g, 1, none⟩ (.int .i64 b')).setCell ⟨g, 2, none⟩ (.int .i64 c')).alloc o) g a' b' c' ∧ Below g w ((((w.setCell ⟨g, 0, none⟩ (.int .i64 a')).setCell ⟨g, 1, none⟩ (.int .i64 b')).setCell ⟨g, 2, none⟩ (.int .i64 c')).alloc o) := by
  have h1 := h.put (a' := a') (b' := b') (c' := c')
  have h2 := h1.lt
  exact ⟨h1.below ((Below.refl _ _).alloc (Nat.le_refl _) _), (put3 (Below.refl _ _) (Nat.le_refl _)).alloc (Nat.le_of_lt h2) _⟩

set_option maxHeartbeats 2000000 in
theorem hcounts {W w : World} {xs : List ((Nat → Nat) × Thing)} (H : Herd W w xs) (i : Nat) {K : Nat → Nat} {g : Nat} {row : List Int} {p : Nat} (hi : xs[i]? = some (K, tr g row p)) :
    Calls Tryd.prog 41 #[.pointer (some ⟨g, 0, none⟩)] w fun e w' => ∃ a b c q : Nat, e = .returned (.tuple #[.agg #[.int .i64 a, .int .i64 b, .int .i64 c], .int .i64 (rcE row p)]) ∧ Herd W w' (xs.set i (K, tr g row q)) ∧ (rcE row p = 0 → q = p + 14 ∧ a = rcL row p ∧ b = rcD row p ∧ c = rcN row p) := by
  have hR : Rp w K g row p := H.rep i _ hi
  have hab := ahead_bound hR.bit p 14
  have hpl := hR.le
  have HLOW := hide H.low
  have hsz := H.bel.size
  have HI := hide hi
  obtain ⟨KB, hbox⟩ := H.box1 (.cells #[.int .i64 0, .int .i64 0, .int .i64 0] 73)
  obtain ⟨wb, hwb⟩ : ∃ wb, w.alloc (.cells #[.int .i64 0, .int .i64 0, .int .i64 0] 73) = wb := ⟨_, rfl⟩
  rw [hwb] at hbox
  have HT := hide (htake hbox i (get_front hi) 14)
  rw [setf hi] at HT
  have HWB := hide hwb
  clear hbox hwb H hi hR
  go_enter Tryd.func41, Tryd.ntmps41
  go_wp2_with fail
  rw [HWB.out]
  refine HT.out.mono ?_
  rintro e w1 ⟨rfl, h1⟩
  have HX := hide h1
  have hbx : Cbox w1 w.heap.size 0 0 0 := h1.tbs
  obtain ⟨c0, c1, c2⟩ := hbx.cells
  obtain ⟨z0, z1, z2⟩ := hbx.frozen
  have HBX := hide hbx
  clear h1 hbx
  by_cases hl : row.length < p + 14
  · have HE : Hid (rcE row p = 70) := by show _ = _; unfold rcE; rw [if_pos hl]
    have e30 : takeE row p 14 = 30 := by unfold takeE; rw [if_pos ⟨by omega, by omega⟩, if_neg (by omega)]
    rw [e30]
    clear hab
    go_wp2
    obtain ⟨wf, hwf⟩ : ∃ wf, (((w1.setCell ⟨w.heap.size, 0, none⟩ (.int .i64 0)).setCell ⟨w.heap.size, 1, none⟩ (.int .i64 0)).setCell ⟨w.heap.size, 2, none⟩ (.int .i64 0)) = wf := ⟨_, rfl⟩
    have hfx : Cbox wf w.heap.size 0 0 0 := by rw [← hwf]; exact HBX.out.put
    have hfb : Below w.heap.size w1 wf := by rw [← hwf]; exact put3 (Below.refl _ _) (Nat.le_refl _)
    rw [hwf]
    obtain ⟨f0, f1, f2⟩ := hfx.cells
    refine bodyPost_ret (v := .tuple #[.agg #[.int .i64 0, .int .i64 0, .int .i64 0], .int .i64 70]) (by simp [results, Tryd.results41, go_sem, f0, f1, f2]) rfl ?_
    exact ⟨0, 0, 0, _, by rw [HE.out]; rfl, HX.out.front.keep (HLOW.out.set HI.out) hsz hfb, fun h => by rw [HE.out] at h; omega⟩
  · obtain ⟨t1, t2, t3⟩ := take_ok (takeOk_of (row := row) (p := p) (n := 14) (by omega) (by omega))
    have HT3 := hide t3
    have t1' : takeE row p 14 = 0 := t1
    have t2' : takeV row p 14 = ahead row p 14 := t2
    rw [t1', t2']
    have hv2 : ahead row p 14 < 16384 := hab.2
    have hv1 := hab.1
    obtain ⟨V, HV⟩ : ∃ V, Hid (V = ahead row p 14) := ⟨_, rfl⟩
    rw [← HV.out] at hv1 hv2 ⊢
    have m1 := u32_31 (v := V) hv1 (by omega)
    have m2 := u32_31 (v := V / 32) (by omega) (by omega)
    obtain ⟨a, ha⟩ := Int.eq_ofNat_of_zero_le (show 0 ≤ V % 32 by omega)
    obtain ⟨b, hb⟩ := Int.eq_ofNat_of_zero_le (show 0 ≤ V / 32 % 32 by omega)
    obtain ⟨c, hc⟩ := Int.eq_ofNat_of_zero_le (show 0 ≤ V / 1024 by omega)
    have HL : Hid (rcL row p = 257 + a) := by show _ = _; unfold rcL; rw [← HV.out, ha]; rfl
    have HD : Hid (rcD row p = 1 + b) := by show _ = _; unfold rcD; rw [← HV.out, hb]; rfl
    have HN : Hid (rcN row p = 4 + c) := by show _ = _; unfold rcN; rw [← HV.out, hc]; rfl
    have ha2 : (a : Int) < 32 := by omega
    have hb2 : (b : Int) < 32 := by omega
    have hc2 : (c : Int) < 16 := by omega
    rw [ha] at m1
    rw [hb] at m2
    have hlt1 := HBX.out.lt
    have HC := hide hc
    clear hab t1 t2 t3 t1' t2' ha hb hc
    by_cases q1 : 286 < 257 + (a : Int)
    · have HE : Hid (rcE row p = 71) := by show _ = _; unfold rcE; rw [if_neg hl, HL.out, HD.out, if_pos (by omega)]
      go_wp2
      obtain ⟨hfx, hfb⟩ := cput (a' := 0) (b' := 0) (c' := 0) (o := .cells #[.int .i64 (257 + (a : Int)), .int .i64 (1 + (b : Int)), .int .i64 (4 + (V / 1024))] 73) HBX.out
      obtain ⟨f0, f1, f2⟩ := hfx.cells
      refine bodyPost_ret (v := .tuple #[.agg #[.int .i64 0, .int .i64 0, .int .i64 0], .int .i64 71]) (by simp [results, Tryd.results41, go_sem, f0, f1, f2]) rfl ?_
      exact ⟨0, 0, 0, _, by rw [HE.out]; rfl, HX.out.front.keep (HLOW.out.set HI.out) hsz hfb, fun h => by rw [HE.out] at h; omega⟩
    by_cases q2 : 30 < 1 + (b : Int)
    · have HE : Hid (rcE row p = 71) := by show _ = _; unfold rcE; rw [if_neg hl, HL.out, HD.out, if_pos (by omega)]
      have q1' : decide (286 < 257 + (a : Int)) = false := decide_eq_false q1
      go_wp2
      obtain ⟨hfx, hfb⟩ := cput (a' := 0) (b' := 0) (c' := 0) (o := .cells #[.int .i64 (257 + (a : Int)), .int .i64 (1 + (b : Int)), .int .i64 (4 + (V / 1024))] 73) HBX.out
      obtain ⟨f0, f1, f2⟩ := hfx.cells
      refine bodyPost_ret (v := .tuple #[.agg #[.int .i64 0, .int .i64 0, .int .i64 0], .int .i64 71]) (by simp [results, Tryd.results41, go_sem, f0, f1, f2]) rfl ?_
      exact ⟨0, 0, 0, _, by rw [HE.out]; rfl, HX.out.front.keep (HLOW.out.set HI.out) hsz hfb, fun h => by rw [HE.out] at h; omega⟩
    · have HE : Hid (rcE row p = 0) := by show _ = _; unfold rcE; rw [if_neg hl, HL.out, HD.out, if_neg (by omega)]
      go_wp2
      obtain ⟨hfx, hfb⟩ := cput (a' := 257 + (a : Int)) (b' := 1 + (b : Int)) (c' := 4 + V / 1024) (o := .cells #[.int .i64 (257 + (a : Int)), .int .i64 (1 + (b : Int)), .int .i64 (4 + (V / 1024))] 73) HBX.out
      obtain ⟨f0, f1, f2⟩ := hfx.cells
      refine bodyPost_ret (v := .tuple #[.agg #[.int .i64 (257 + (a : Int)), .int .i64 (1 + (b : Int)), .int .i64 (4 + V / 1024)], .int .i64 0]) (by simp [results, Tryd.results41, go_sem, f0, f1, f2]) rfl ?_
      exact ⟨257 + a, 1 + b, 4 + c, _, by rw [HE.out, HC.out]; rfl, HX.out.front.keep (HLOW.out.set HI.out) hsz hfb, fun _ => ⟨HT3.out, HL.out.symm, HD.out.symm, HN.out.symm⟩⟩
end Go.Proofs.YtiabhmdefaabgabDoor

