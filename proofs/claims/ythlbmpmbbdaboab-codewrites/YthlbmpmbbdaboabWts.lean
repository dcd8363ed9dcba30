import Derived.Test.YthlbmpmbbdaboabXen
import Derived.Test.YthlbmpmbbdaboabSpo
import Derived.Deep.QuietTactic
import Derived.BigQuiet
namespace Go.Proofs.Ythlbmpmbbdaboab
open Go.RowKit Go.Maps
set_option maxRecDepth 20000

set_option maxHeartbeats 4000000 in
theorem writes_no (v u : Value) (l syms : List Int) (lead : Int) (w : World) (h : SI w v l) (h2 : SI w u syms) (hr : l.length ≤ 17592186043904) (hd : bkE l ≠ 0) :
    Calls Try.prog 6 #[v, .int .i64 lead, u] w fun e w' => e = .returned (.bool true) ∧ Below w.heap.size w w' := by
  have HS := hide h
  obtain ⟨ao, cap, rfl, hlc, hcm⟩ := h.open
  obtain ⟨au, cau, rfl, hlu, hcu⟩ := h2.open
  clear h h2
  obtain ⟨cD, HCD⟩ : ∃ c, Hid (c = bkE l) := ⟨_, rfl⟩
  have HD := hide hd
  clear hd
  go_enter Try.func6, Try.ntmps6
  go_wp2_with fail
  refine (framed_any _ l w HS.out hr).mono ?_
  rintro e w1 ⟨v', rfl, hf, hb1⟩
  obtain ⟨g, c, hv, h1, h2, h3, h4, hsi⟩ := hf.form
  obtain ⟨KF, hh1⟩ := (Herd.nil w).ilist hb1 (show OI w1 w.heap.size v' (l ++ mk3) from hf)
  have HI := hide hsi
  have HH1 : Hid (Herd w w1 [(KF, ti v' (l ++ mk3))]) := hh1
  subst hv
  clear hf hb1 hsi hh1
  go_wp2_with fail
  refine (hencode HH1.out _ l HI.out).mono ?_
  rintro e w2 (⟨_, rfl, hh2⟩ | ⟨h0, _⟩)
  case inr => exact absurd h0 HD.out
  rw [← HCD.out]
  have HH2 := hide hh2
  have HS2 := hide (HS.out.below hh2.bel)
  clear hh2
  go_wp2_with fail
  refine (hxencode HH2.out _ l HS2.out).mono ?_
  rintro e w3 (⟨_, rfl, hh3⟩ | ⟨h0, _⟩)
  case inr => exact absurd h0 HD.out
  rw [← HCD.out]
  have HH3 := hide hh3
  have HS3 := hide (HS.out.below hh3.bel)
  have HF3 : Hid (Framed w3 0 (.slice (some ⟨g, 0, none⟩) (l.length + 3) c) l) := hh3.ioi 0 rfl
  clear hh3
  go_wp2_with fail
  refine (num_any _ _).mono ?_
  rintro e w4 ⟨rfl, rfl⟩
  go_wp2_with fail
  refine (whole_any _ _ l _ _ HF3.out HS3.out hr).mono ?_
  rintro e w5 ⟨rfl, n5, rfl⟩
  have HB := hide (HH3.out.drewN n5).bel
  go_wp2
  go_ret
  exact ⟨rfl, HB.out⟩

def Wts (W : World) (g0 cg xg wg vg : Nat) (c0 : Nat) (l0 l : List Int) (wr : World) : Prop :=
  ∃ K0 K1 K2 K3 K4 row, Herd W wr [(K0, ti (.slice (some ⟨g0, 0, none⟩) l0.length c0) l0), (K1, te cg l), (K2, tex xg l), (K3, tw wg row), (K4, tx vg row)]

set_option maxHeartbeats 8000000 in
theorem writes_yes (v u : Value) (l syms : List Int) (lead : Int) (w : World) (h : SI w v l) (h2 : SI w u syms) (hr : l.length ≤ 17592186043904) (hi64 : ∀ x ∈ syms, -9223372036854775808 ≤ x ∧ x ≤ 9223372036854775807) (hd : bkE l = 0) :
    Calls Try.prog 6 #[v, .int .i64 lead, u] w fun e w' => e = .returned (.bool true) ∧ Below w.heap.size w w' := by
  have HS := hide h
  have HU := hide h2
  obtain ⟨ao, cap, rfl, hlc, hcm⟩ := h.open
  obtain ⟨au, cau, rfl, hlu, hcu⟩ := h2.open
  clear h h2
  have HD := hide hd
  have HI64 := hide hi64
  clear hd hi64
  go_enter Try.func6, Try.ntmps6
  go_wp2_with fail
  refine (framed_any _ l w HS.out hr).mono ?_
  rintro e w1 ⟨v', rfl, hf, hb1⟩
  obtain ⟨g, c, hv, h1, h2, h3, h4, hsi⟩ := hf.form
  obtain ⟨KF, hh1⟩ := (Herd.nil w).ilist hb1 (show OI w1 w.heap.size v' (l ++ mk3) from hf)
  have HI := hide hsi
  have HH1 : Hid (Herd w w1 [(KF, ti v' (l ++ mk3))]) := hh1
  have hl3 : (l ++ mk3).length = l.length + 3 := length_fr l
  have HL3 := hide hl3
  subst hv
  clear hf hb1 hsi hh1 hl3
  go_wp2_with fail
  refine (hencode HH1.out _ l HI.out).mono ?_
  rintro e w2 (⟨h0, _⟩ | ⟨_, cg, K1, rfl, hh2⟩)
  · exact absurd HD.out h0
  have HH2 : Hid (Herd w w2 [(KF, ti (.slice (some ⟨g, 0, none⟩) (l.length + 3) c) (l ++ mk3)), (K1, te cg l)]) := hh2
  have HS2 := hide (HS.out.below hh2.bel)
  clear hh2
  go_wp2_with fail
  refine (hxencode HH2.out _ l HS2.out).mono ?_
  rintro e w3 (⟨h0, _⟩ | ⟨_, xg, K2, rfl, hh3⟩)
  · exact absurd HD.out h0
  have HH3 : Hid (Herd w w3 [(KF, ti (.slice (some ⟨g, 0, none⟩) (l.length + 3) c) (l ++ mk3)), (K1, te cg l), (K2, tex xg l)]) := hh3
  have HS3 := hide (HS.out.below hh3.bel)
  have HF3 : Hid (Framed w3 0 (.slice (some ⟨g, 0, none⟩) (l.length + 3) c) l) := HH3.out.ioi 0 rfl
  clear hh3
  go_wp2_with fail
  refine (num_any _ _).mono ?_
  rintro e w4 ⟨rfl, rfl⟩
  go_wp2_with fail
  refine (whole_any _ _ l _ _ HF3.out HS3.out hr).mono ?_
  rintro e w5 ⟨rfl, n5, rfl⟩
  have HH5 := hide (HH3.out.drewN n5)
  go_wp2_with fail
  refine (spoil_any HH5.out 0 rfl _ l.length c (by rw [HL3.out]; omega) (by omega) (by omega) (fun _ => ⟨g, c, by rw [HL3.out], rfl⟩)).mono ?_
  rintro e w6 ⟨rfl, hh6⟩
  obtain ⟨l0, HL0⟩ : ∃ l0, Hid (l0 = List.replicate l.length (9 : Int) ++ (l ++ mk3).drop l.length) := ⟨_, rfl⟩
  have hl0 : l0.length = l.length + 3 := by rw [HL0.out, len_rep _ _ (by rw [HL3.out]; omega), HL3.out]
  rw [← HL0.out] at hh6
  have HH6 : Hid (Herd w w6 [(KF, ti (.slice (some ⟨g, 0, none⟩) l0.length c) l0), (K1, te cg l), (K2, tex xg l)]) := by rw [hl0]; exact hh6
  clear hh6 HH1 HH2 HH3 HH5 HF3
  go_wp2_with fail
  refine (hnewW HH6.out).mono ?_
  rintro e w7 ⟨wg, K3, rfl, hh7⟩
  have HH7 : Hid (Herd w w7 [(KF, ti (.slice (some ⟨g, 0, none⟩) l0.length c) l0), (K1, te cg l), (K2, tex xg l), (K3, tw wg [])]) := hh7
  clear hh7
  go_wp2_with fail
  refine (hxnew HH7.out).mono ?_
  rintro e w8 ⟨vg, K4, rfl, hh8⟩
  have HH8 : Hid (Herd w w8 [(KF, ti (.slice (some ⟨g, 0, none⟩) l0.length c) l0), (K1, te cg l), (K2, tex xg l), (K3, tw wg []), (K4, tx vg [])]) := hh8
  clear hh8
  obtain ⟨eP, HEP⟩ : ∃ e, Hid (e = putE ([] : List Int) 0 lead) := ⟨_, rfl⟩
  go_wp2_with fail
  refine (hput HH8.out 3 rfl 0 lead (by omega) (by omega)).mono ?_
  rintro e w9 ⟨rfl, K3', hh9⟩
  rw [← HEP.out]
  have HH9 : Hid (Herd w w9 [(KF, ti (.slice (some ⟨g, 0, none⟩) l0.length c) l0), (K1, te cg l), (K2, tex xg l), (K3', tw wg (putRow [] 0 lead)), (K4, tx vg [])]) := hh9
  clear hh9
  go_wp2_with fail
  refine (hxput HH9.out 4 rfl 0 lead (by omega) (by omega)).mono ?_
  rintro e w10 ⟨rfl, K4', hh10⟩
  rw [← HEP.out]
  have HR0 : Hid (Wts w g cg xg wg vg c l0 l w10) := ⟨KF, K1, K2, K3', K4', putRow [] 0 lead, hh10⟩
  clear hh10 HH6 HH7 HH8 HH9
  go_wp2
  go_loopw [15] (fun q wr => ∃ k : Nat, k ≤ syms.length ∧ q = .int .i64 k ∧ Hid (Wts w g cg xg wg vg c l0 l wr)) (fun q _ => syms.length - (intOf q).toNat)
  case atStart => exact ⟨0, Nat.zero_le _, rfl, HR0⟩
  case round =>
    clear HR0
    obtain ⟨k, hk, rfl, HT⟩ := hrel
    obtain ⟨K0', K1', K2', K3'', K4'', row, hh⟩ := HT.out
    have HH := hide hh
    clear hh HT
    by_cases hlt : k < syms.length
    · have hlt' : (k : Int) < (syms.length : Int) := by omega
      obtain ⟨s, HSy⟩ : ∃ s, Hid (syms.getD k 0 = s) := ⟨_, rfl⟩
      obtain ⟨bu, ou, hau, hcu1⟩ := HU.out.get HH.out.bel hlt
      subst hau
      rw [HSy.out] at hcu1
      obtain ⟨hs0, hs1⟩ := HI64.out s (by rw [← HSy.out]; exact getD_mem hlt)
      obtain ⟨x, HX⟩ : ∃ x, Hid (x = epE l row s) := ⟨_, rfl⟩
      obtain ⟨row2, HR2⟩ : ∃ x, Hid (x = epR l row s) := ⟨_, rfl⟩
      go_wp2_with fail
      refine (heput HH.out 1 3 rfl rfl s hs0 hs1).mono ?_
      rintro e w20 ⟨rfl, K6, h20⟩
      rw [← HX.out]
      rw [← HR2.out] at h20
      have H20 : Hid (Herd w w20 [(K0', ti (.slice (some ⟨g, 0, none⟩) l0.length c) l0), (K1', te cg l), (K2', tex xg l), (K6, tw wg row2), (K4'', tx vg row)]) := h20
      obtain ⟨bu2, ou2, hau2, hcu2⟩ := HU.out.get h20.bel hlt
      simp only [Option.some.injEq, Addr.mk.injEq, and_true] at hau2
      obtain ⟨hq1, hq2⟩ := hau2
      subst hq1
      subst hq2
      rw [HSy.out] at hcu2
      clear h20 hcu1
      go_wp2_with fail
      refine (hxeput H20.out 2 4 rfl rfl s hs0 hs1).mono ?_
      rintro e w21 ⟨rfl, K7, h21⟩
      rw [← HX.out]
      rw [← HR2.out] at h21
      have H21 : Hid (Herd w w21 [(K0', ti (.slice (some ⟨g, 0, none⟩) l0.length c) l0), (K1', te cg l), (K2', tex xg l), (K6, tw wg row2), (K7, tx vg row2)]) := h21
      obtain ⟨bu3, ou3, hau3, hcu3⟩ := HU.out.get h21.bel hlt
      simp only [Option.some.injEq, Addr.mk.injEq, and_true] at hau3
      obtain ⟨hq1, hq2⟩ := hau3
      subst hq1
      subst hq2
      rw [HSy.out] at hcu3
      clear h21 H20 HH hcu2
      have HC1 : Hid (∀ n, Calls Try.prog 11 #[.int .i64 x] (w21.drewN n) fun e w'' => e = .returned (.int .i64 x) ∧ ∃ m, w'' = w21.drewN m) := fun n =>
        (num_any x (w21.drewN n)).mono fun e w' h => ⟨h.1, n, h.2⟩
      have HC2 : Hid (∀ n, Calls Try.prog 34 #[.pointer (some ⟨cg, 0, none⟩), .int .i64 s] (w21.drewN n) fun e w'' => e = .returned (.int .i64 (lnI l s)) ∧ ∃ m, w'' = w21.drewN m) := fun n =>
        (elen_any ((H21.out.drewN n).rep 1 _ rfl) s hs0 hs1).mono fun e w' h => ⟨h.1, n, h.2⟩
      have HC3 : Hid (∀ n, Calls Try.prog 35 #[.pointer (some ⟨xg, 0, none⟩), .int .i64 s] (w21.drewN n) fun e w'' => e = .returned (.int .i64 (lnI l s)) ∧ ∃ m, w'' = w21.drewN m) := fun n =>
        (xelen_any ((H21.out.drewN n).rep 2 _ rfl) s hs0 hs1).mono fun e w' h => ⟨h.1, n, h.2⟩
      have HC4 : Hid (∀ n, Calls Try.prog 14 #[.pointer (some ⟨wg, 0, none⟩)] (w21.drewN n) fun e w'' => e = .returned (.int .i64 row2.length) ∧ ∃ m, w'' = w21.drewN m) := fun n =>
        (wlen_any ((H21.out.drewN n).rep 3 _ rfl)).mono fun e w' h => ⟨h.1, by obtain ⟨q, hq⟩ := h.2; exact ⟨n + q, by rw [hq, World.drewN_drewN]⟩⟩
      have HC5 : Hid (∀ n, Calls Try.prog 36 #[.pointer (some ⟨vg, 0, none⟩)] (w21.drewN n) fun e w'' => e = .returned (.int .i64 row2.length) ∧ ∃ m, w'' = w21.drewN m) := fun n =>
        (xlen_any ((H21.out.drewN n).rep 4 _ rfl)).mono fun e w' h => ⟨h.1, n, h.2⟩
      obtain ⟨m, HM⟩ : ∃ m : Nat, Hid (m = lnI l s) := ⟨_, rfl⟩
      rw [← HM.out] at HC2 HC3
      obtain ⟨q, HQ⟩ : ∃ q : Nat, Hid (q = row2.length) := ⟨_, rfl⟩
      rw [← HQ.out] at HC4 HC5
      go_wp2
      go_quiet (first
        | (go_at_call 11; exact HC1.out _)
        | (go_at_call 34; exact HC2.out _)
        | (go_at_call 35; exact HC3.out _)
        | (go_at_call 14; exact HC4.out _)
        | (go_at_call 36; exact HC5.out _))
      go_wp2
      go_roundw
      case rel => exact ⟨k + 1, by omega, by go_num, ⟨_, _, _, _, _, row2, H21.out.drewN _⟩⟩
      case measure => simp [intOf]; omega
    · obtain rfl : k = syms.length := by omega
      have hlt' : ¬ (syms.length : Int) < (syms.length : Int) := by omega
      go_wp2_with fail
      refine (hbytes HH.out 3 rfl).mono ?_
      rintro e w21 ⟨a21, c21, K21, rfl, h21⟩
      have H21 : Hid (Herd w w21 [(K0', ti (.slice (some ⟨g, 0, none⟩) l0.length c) l0), (K1', te cg l), (K2', tex xg l), (K3'', tw wg row), (K4'', tx vg row), (K21, tl (.slice a21 (pack row).length c21) (pack row))]) := h21
      clear h21
      go_wp2_with fail
      refine (hxbytes H21.out 4 rfl).mono ?_
      rintro e w22 ⟨a22, c22, K22, rfl, h22⟩
      have H22 : Hid (Herd w w22 [(K0', ti (.slice (some ⟨g, 0, none⟩) l0.length c) l0), (K1', te cg l), (K2', tex xg l), (K3'', tw wg row), (K4'', tx vg row), (K21, tl (.slice a21 (pack row).length c21) (pack row)), (K22, tl (.slice a22 (pack row).length c22) (pack row))]) := h22
      clear h22
      go_wp2_with fail
      refine (same_any _ _ _ _ _ (H22.out.sb 5 rfl) (H22.out.sb 6 rfl)).mono ?_
      rintro e w23 ⟨rfl, n23, rfl⟩
      rw [show eqB (pack row) (pack row) = true by simp [eqB]]
      have HB := hide (H22.out.drewN n23).bel
      go_wp2
      go_ret
      exact ⟨by first | rfl | simp, HB.out⟩

theorem writes_walk (v u : Value) (l syms : List Int) (lead : Int) (w : World) (h : SI w v l) (h2 : SI w u syms) (hr : l.length ≤ 17592186043904) (hi64 : ∀ x ∈ syms, -9223372036854775808 ≤ x ∧ x ≤ 9223372036854775807) :
    Calls Try.prog 6 #[v, .int .i64 lead, u] w fun e w' => e = .returned (.bool true) ∧ Below w.heap.size w w' := by
  by_cases hd : bkE l = 0
  · exact writes_yes v u l syms lead w h h2 hr hi64 hd
  · exact writes_no v u l syms lead w h h2 hr hd
end Go.Proofs.Ythlbmpmbbdaboab
