import Derived.Test.YthlbmpmbbdaboabSpo
import Derived.Test.YthlbmpmbbdaboabXnx
namespace Go.Proofs.Ythlbmpmbbdaboab
open Go.RowKit Go.Maps
set_option maxRecDepth 20000

theorem qnewReader_no (u : Value) (l : List Int) (w : World) (h : SB w u l) (hl : ¬ l.length ≤ 33554432) :
    Calls Try.prog 26 #[u] w fun e w' => e = .returned (.pointer none) ∧ w' = w := by
  obtain ⟨ao, cap, rfl, h1, h2, _⟩ := h
  unfold maxLen at h2
  have hl' : (33554432 : Int) < l.length := by omega
  go_enter Try.func26, Try.ntmps26
  go_wp2
  go_ret
  exact ⟨rfl, rfl⟩

theorem nx_move {l row : List Int} {p : Nat} (hl : Lens l) (h : nxE l row p = 0) : p + 1 ≤ nxP l row p ∧ nxP l row p ≤ row.length := by
  have h0 := h
  unfold nxE at h
  by_cases hb : fdB l (rowAt row p) = true
  · rw [if_pos hb] at h
    have hh := fd_has hl hb
    by_cases hf : p + ln l (fdS l (rowAt row p)) ≤ row.length
    · unfold nxP
      rw [if_pos h0]
      have := hh.1.2
      omega
    · rw [if_neg hf] at h; omega
  · rw [if_neg hb] at h; omega

theorem nx_stay {l row : List Int} {p : Nat} (h : nxE l row p ≠ 0) : nxS l row p = 0 ∧ nxP l row p = p := ⟨if_neg h, if_neg h⟩

theorem hxdecode {W w : World} {xs : List ((Nat → Nat) × Thing)} (H : Herd W w xs) (v : Value) (l : List Int) (h : SI w v l) :
    Calls Try.prog 23 #[v] w fun e w' => (dcE l ≠ 0 ∧ e = .returned (.tuple #[.pointer none, .int .i64 (dcE l)]) ∧ Herd W w' xs) ∨ (dcE l = 0 ∧ ∃ g K, e = .returned (.tuple #[.pointer (some ⟨g, 0, none⟩), .int .i64 0]) ∧ Herd W w' (xs ++ [(K, tdx g l)])) := by
  refine (xnewDecoder_any v l w h).mono ?_
  rintro e w1 ⟨hb, h | ⟨h0, g, K, rfl, hd, hk⟩⟩
  · exact .inl ⟨h.1, h.2, H.below hb⟩
  · exact .inr ⟨h0, g, K, rfl, H.push hb hd hk⟩

set_option maxHeartbeats 4000000 in
theorem reads_no (v u : Value) (l data : List Int) (skip : Int) (w : World) (h : SI w v l) (h2 : SB w u data) (hB : Byt data) (hr : l.length ≤ 17592186043904) (hd : dcE l ≠ 0) :
    Calls Try.prog 5 #[v, u, .int .i64 skip] w fun e w' => e = .returned (.bool true) ∧ Below w.heap.size w w' := by
  have HS := hide h
  have HU := hide h2
  have HBy := hide hB
  obtain ⟨ao, cap, rfl, hlc, hcm⟩ := h.open
  obtain ⟨au, cau, rfl⟩ := h2.len
  clear h h2 hB
  obtain ⟨cD, HCD⟩ : ∃ c, Hid (c = dcE l) := ⟨_, rfl⟩
  have HD := hide hd
  clear hd
  go_enter Try.func5, Try.ntmps5
  go_wp2_with fail
  refine (framed_any _ l w HS.out hr).mono ?_
  rintro e w1 ⟨v', rfl, hf, hb1⟩
  obtain ⟨g, c, hv, h1, h2, h3, h4, hsi⟩ := hf.form
  obtain ⟨KF, hh1⟩ := (Herd.nil w).ilist hb1 (show OI w1 w.heap.size v' (l ++ mk3) from hf)
  have HF := hide hf
  have HI := hide hsi
  have HH1 : Hid (Herd w w1 [(KF, ti v' (l ++ mk3))]) := hh1
  have hl3 : (l ++ mk3).length = l.length + 3 := length_fr l
  have HL3 := hide hl3
  have HV := hide hv
  subst hv
  clear hf hb1 hsi hh1 hl3
  go_wp2_with fail
  refine (hdecode HH1.out _ l HI.out).mono ?_
  rintro e w2 (⟨_, rfl, hh2⟩ | ⟨h0, _⟩)
  case inr => exact absurd h0 HD.out
  rw [← HCD.out]
  have HH2 := hide hh2
  have HS2 := hide (HS.out.below hh2.bel)
  clear hh2
  go_wp2_with fail
  refine (hxdecode HH2.out _ l HS2.out).mono ?_
  rintro e w3 (⟨_, rfl, hh3⟩ | ⟨h0, _⟩)
  case inr => exact absurd h0 HD.out
  rw [← HCD.out]
  have HH3 := hide hh3
  have HS3 := hide (HS.out.below hh3.bel)
  have HF3 : Hid (Framed w3 0 (.slice (some ⟨g, 0, none⟩) (l.length + 3) c) l) := hh3.ioi 0 rfl
  clear hh3
  go_wp2_with fail
  refine (num_any _ _).mono ?_
  rintro e w4 ⟨rfl, rfl⟩
  go_wp2_with fail
  refine (whole_any _ _ l _ _ HF3.out HS3.out hr).mono ?_
  rintro e w5 ⟨rfl, n5, rfl⟩
  have HH5 := hide (HH3.out.drewN n5)
  go_wp2_with fail
  refine (spoil_any HH5.out 0 rfl _ l.length c (by rw [HL3.out]; omega) (by omega) (by omega) (fun _ => ⟨g, c, by rw [HL3.out], rfl⟩)).mono ?_
  rintro e w6 ⟨rfl, hh6⟩
  have HH6 := hide hh6
  have HU6 := hide (HU.out.below hh6.bel)
  clear hh6 HH1 HH2 HH3 HH5
  by_cases hdl : data.length ≤ 33554432
  · go_wp2_with fail
    refine (hnewR HH6.out _ data HU6.out HBy.out hdl).mono ?_
    rintro e w7 ⟨rg, Kr, rfl, hh7⟩
    have HH7 : Hid (Herd w w7 [_, (Kr, tr rg (unpack data) 0)]) := hh7
    have HU7 := hide (HU.out.below hh7.bel)
    clear hh7
    go_wp2_with fail
    refine (hqnew HH7.out _ data HU7.out HBy.out hdl).mono ?_
    rintro e w8 ⟨qg, Kq, rfl, hh8⟩
    have HH8 : Hid (Herd w w8 [_, (Kr, tr rg (unpack data) 0), (Kq, tq qg (unpack data) 0)]) := hh8
    clear hh8
    go_wp2_with fail
    refine (hskip HH8.out 1 rfl skip).mono ?_
    rintro e w9 ⟨rfl, hh9⟩
    have HH9 := hide hh9
    clear hh9
    go_wp2_with fail
    refine (hqskip HH9.out 2 rfl skip).mono ?_
    rintro e w10 ⟨rfl, hh10⟩
    have HB := hide hh10.bel
    clear hh10
    go_wp2
    go_ret
    exact ⟨rfl, HB.out⟩
  · go_wp2_with fail
    refine (newReader_no _ data _ HU6.out hdl).mono ?_
    rintro e w7 ⟨rfl, rfl⟩
    go_wp2_with fail
    refine (qnewReader_no _ data _ HU6.out hdl).mono ?_
    rintro e w8 ⟨rfl, rfl⟩
    have HB := hide HH6.out.bel
    go_wp2
    go_ret
    exact ⟨rfl, HB.out⟩
end Go.Proofs.Ythlbmpmbbdaboab
