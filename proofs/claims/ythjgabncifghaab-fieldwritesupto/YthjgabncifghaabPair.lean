import Derived.Test.YthjgabncifghaabNew
namespace Go.Proofs.Ythjgabncifghaab
open Go.RowKit Go.Maps
set_option maxRecDepth 20000

/-- The script of a cursor. -/
def CS (w : World) (v : Value) (ops : List (Int × Int)) : Prop :=
  ∃ ao cap, v = .slice ao ops.length cap ∧ ops.length ≤ cap ∧ cap ≤ maxLen ∧ ∀ (i : Nat) (o : Int × Int), ops[i]? = some o → ∃ b of, ao = some ⟨b, of, none⟩ ∧ w.cell? ⟨b, of + i * 2, none⟩ = some (.int .i64 o.1) ∧ w.cell? ⟨b, of + i * 2 + 1, none⟩ = some (.int .i64 o.2)

theorem Raw.cu {T : Nat} {w : World} {A g : Nat} {v : Value} {l : List Int} {X : Nat → Prop} (h : Raw T w A g v l) (hr : l.length ≤ 140737488351232) (hb : Byt l) (hg : X g) (hx : ∀ k, A ≤ k → k < g → ¬ X k) : Cu X T w g ⟨l, 0, 0⟩ :=
  ⟨v, h.s, h.d, Nat.zero_le _, hr, hb, hg, fun k hk => hx k (h.b k hk).1 (h.b k hk).2⟩

theorem Cu.keep2 {X : Nat → Prop} {T : Nat} {w w' : World} {g g1 g2 B : Nat} {st : CSt} (h : Cu X T w g st) (ht : Tch2 B g1 g2 w w') (h1 : g ≠ g1) (h2 : g ≠ g2) (x1 : X g1) (x2 : X g2) : Cu X T w' g st := by
  obtain ⟨v, k1, k2, k3, k4, k5, k6⟩ := h
  refine ⟨v, (ht.2 g k1.lt h1 h2).trans k1, ?_, k3, k4, k5, k6⟩
  by_cases hd : st.d = []
  · rcases k2 with k2 | ⟨b, cap, rfl, y1, y2, y3⟩
    · exact .inl k2
    · exact .inr ⟨b, cap, rfl, y1, y2, fun i hi => by rw [hd] at hi; exact absurd hi (Nat.not_lt_zero _)⟩
  · exact k2.move fun k hk => ht.2 k (k2.lt hd k hk) (fun e => k6.2 k hk (by rw [e]; exact x1)) (fun e => k6.2 k hk (by rw [e]; exact x2))

theorem Duo.keep2 {X : Nat → Prop} {w w' : World} {g r g1 g2 B : Nat} {st : CSt} (h : Duo X B w g r st) (ht : Tch2 B g1 g2 w w') (h1 : g ≠ g1) (h2 : g ≠ g2) (h3 : r ≠ g1) (h4 : r ≠ g2) (x1 : X g1) (x2 : X g2) : Duo X B w' g r st :=
  ⟨h.c.keep2 ht h1 h2 x1 x2, h.d.keep2 ht h3 h4 x1 x2, h.ne, h.bg, h.br⟩

theorem pair_walk (v u vo : Value) (l m : List Int) (ops : List (Int × Int)) (w : World) (hs : SB w v l) (hsl : l.length ≤ 140737488351232) (hlb : Byt l) (hm : SB w u m) (hml : m.length ≤ 140737488351232) (hmb : Byt m) (ho : CS w vo ops) :
    Calls Try.prog 6 #[v, u, vo] w fun e w' => e = .returned (.bool true) ∧ Below w.heap.size w w' := by
  have HS := hide hs
  have HM := hide hm
  have HLB := hide hlb
  have HMB := hide hmb
  obtain ⟨ao, cap, rfl, hoc, hom, hops⟩ := ho
  unfold maxLen at hom
  have HOPS := hide hops
  clear hs hm hlb hmb hops
  go_enter Try.func6, Try.ntmps6
  go_wp2_with fail
  refine (copied_any v l w HS.out hsl).mono ?_
  rintro e w1 ⟨rfl, ho1, hb1⟩
  have HO1 := hide ho1.sb
  have HB1 := hide hb1
  clear ho1 hb1
  go_wp2_with fail
  refine (newCursor_any _ l w1 HO1.out hsl).mono ?_
  rintro e w2 ⟨g1, u1, rfl, hr1, hb2⟩
  have HR1 := hide hr1
  have HB2 : Hid (Below w.heap.size w w2) := HB1.out.trans (hb2.mono HB1.out.size)
  clear hr1 hb2
  go_wp2_with fail
  refine (copied_any u m w2 (HM.out.below HB2.out) hml).mono ?_
  rintro e w3 ⟨rfl, ho3, hb3⟩
  have HO3 := hide ho3.sb
  have HB3 := hide hb3
  clear ho3 hb3
  go_wp2_with fail
  refine (newCursor_any _ m w3 HO3.out hml).mono ?_
  rintro e w4 ⟨g2, u2, rfl, hr2, hb4⟩
  have HR2 := hide hr2
  have HB4 : Hid (Below w2.heap.size w2 w4) := HB3.out.trans (hb4.mono HB3.out.size)
  have HA2 := hide HB3.out.size
  clear hr2 hb4
  go_wp2_with fail
  refine (rnewCursor_any v l w4 ((HS.out.below HB2.out).below HB4.out) hsl).mono ?_
  rintro e w5 ⟨r1, x1, rfl, hr3, hb5⟩
  have HR3 := hide hr3
  have HB5 := hide hb5
  clear hr3 hb5
  go_wp2_with fail
  refine (rnewCursor_any u m w5 (((HM.out.below HB2.out).below HB4.out).below HB5.out) hml).mono ?_
  rintro e w6 ⟨r2, x2, rfl, hr4, hb6⟩
  have HR4 := hide hr4
  have HB6 := hide hb6
  clear hr4 hb6
  have HBel : Hid (Below w.heap.size w w6) := ((HB2.out.trans (HB4.out.mono HB2.out.size)).trans (HB5.out.mono (Nat.le_trans HB2.out.size HB4.out.size))).trans (HB6.out.mono (Nat.le_trans HB2.out.size (Nat.le_trans HB4.out.size HB5.out.size)))
  obtain ⟨X, HX⟩ : ∃ X : Nat → Prop, Hid (X = fun k => k = g1 ∨ k = g2 ∨ k = r1 ∨ k = r2) := ⟨_, rfl⟩
  have HN : Hid (g1 < g2 ∧ g2 < r1 ∧ r1 < r2) := by
    have a1 := HR1.out.s.lt
    have a2 := HR2.out.s.lt
    have a3 := HR3.out.s.lt
    have b2 := HR2.out.a
    have b3 := HR3.out.a
    have b4 := HR4.out.a
    have c2 := HA2.out
    exact ⟨by omega, by omega, by omega⟩
  have HXs : Hid (X g1 ∧ X g2 ∧ X r1 ∧ X r2) := by
    rw [HX.out]; exact ⟨.inl rfl, .inr (.inl rfl), .inr (.inr (.inl rfl)), .inr (.inr (.inr rfl))⟩
  have HD1 : Hid (Duo X w.heap.size w6 g1 r1 ⟨l, 0, 0⟩) := by
    have a1 := HR1.out.s.lt
    have a2 := HR2.out.s.lt
    have a3 := HR3.out.s.lt
    have b1 := HR1.out.a
    have b2 := HR2.out.a
    have b3 := HR3.out.a
    have b4 := HR4.out.a
    have c1 := HB1.out.size
    have c2 := HA2.out
    have c3 := HB2.out.size
    have c4 := HB4.out.size
    have hn := HN.out
    refine ⟨(((HR1.out.below HB4.out).below HB5.out).below HB6.out).cu hsl HLB.out HXs.out.1 ?_, (HR3.out.below HB6.out).cu hsl HLB.out HXs.out.2.2.1 ?_, by omega, by omega, by omega⟩
    · intro k h1 h2; rw [HX.out]; simp only []; omega
    · intro k h1 h2; rw [HX.out]; simp only []; omega
  have HD2 : Hid (Duo X w.heap.size w6 g2 r2 ⟨m, 0, 0⟩) := by
    have a1 := HR1.out.s.lt
    have a2 := HR2.out.s.lt
    have a3 := HR3.out.s.lt
    have b1 := HR1.out.a
    have b2 := HR2.out.a
    have b3 := HR3.out.a
    have b4 := HR4.out.a
    have c1 := HB1.out.size
    have c2 := HA2.out
    have c3 := HB2.out.size
    have c4 := HB4.out.size
    have c5 := HB5.out.size
    have hn := HN.out
    refine ⟨((HR2.out.below HB5.out).below HB6.out).cu hml HMB.out HXs.out.2.1 ?_, HR4.out.cu hml HMB.out HXs.out.2.2.2 ?_, by omega, by omega, by omega⟩
    · intro k h1 h2; rw [HX.out]; simp only []; omega
    · intro k h1 h2; rw [HX.out]; simp only []; omega
  clear HR1 HR2 HR3 HR4 HB1 HB2 HB3 HB4 HB5 HB6 HO1 HO3 HA2 HX HS HM
  go_wp2
  go_loopw [11] (fun i wr => ∃ k : Nat, k ≤ ops.length ∧ i = .int .i64 k ∧ Hid (∃ st1 st2, Duo X w.heap.size wr g1 r1 st1 ∧ Duo X w.heap.size wr g2 r2 st2) ∧ Hid (Below w.heap.size w wr)) (fun i _ => ops.length - (intOf i).toNat)
  case atStart => exact ⟨0, Nat.zero_le _, rfl, ⟨_, _, HD1.out, HD2.out⟩, HBel.out⟩
  case round =>
    obtain ⟨k, hk, rfl, HQ, HW⟩ := hrel
    clear HD1 HD2 HBel
    obtain ⟨st1, st2, hd1, hd2⟩ := HQ.out
    have HE1 := hide hd1
    have HE2 := hide hd2
    clear hd1 hd2 HQ
    by_cases hlt : k < ops.length
    · obtain ⟨o, hoo⟩ : ∃ o, ops[k]? = some o := ⟨ops[k], by simp [hlt]⟩
      obtain ⟨b, of, hab, hc0, hc1⟩ := HOPS.out k o hoo
      subst hab
      have q0 : wr.cell? ⟨b, of + k * 2, none⟩ = some (.int .i64 o.1) := (HW.out.cell (World.block_lt_of_cell? _ _ hc0)).trans hc0
      have q1 : wr.cell? ⟨b, of + k * 2 + 1, none⟩ = some (.int .i64 o.2) := (HW.out.cell (World.block_lt_of_cell? _ _ hc1)).trans hc1
      clear hc0 hc1 hoo
      by_cases hpar : k % 2 = 0
      · have hpar' : (k : Int) % 2 = 0 := by omega
        go_wp2_with fail
        refine (curStep_any HE1.out HW.out.size o.1 o.2).mono ?_
        rintro e wq ⟨rfl, hD, hT⟩
        have HF : Hid (∃ st1 st2, Duo X w.heap.size wq g1 r1 st1 ∧ Duo X w.heap.size wq g2 r2 st2) := by
          have hn := HN.out
          exact ⟨_, _, hD, HE2.out.keep2 hT (by omega) (by omega) (by omega) (by omega) HXs.out.1 HXs.out.2.2.1⟩
        have HG : Hid (Below w.heap.size w wq) := HW.out.trans hT.1
        clear hD hT
        go_wp2
        go_roundw
        case rel => exact ⟨k + 1, by omega, by go_num, HF.out, HG.out⟩
        case measure => simp [intOf]; omega
      · have hpar' : (k : Int) % 2 = 1 := by omega
        go_wp2_with fail
        refine (curStep_any HE2.out HW.out.size o.1 o.2).mono ?_
        rintro e wq ⟨rfl, hD, hT⟩
        have HF : Hid (∃ st1 st2, Duo X w.heap.size wq g1 r1 st1 ∧ Duo X w.heap.size wq g2 r2 st2) := by
          have hn := HN.out
          exact ⟨_, _, HE1.out.keep2 hT (by omega) (by omega) (by omega) (by omega) HXs.out.2.1 HXs.out.2.2.2, hD⟩
        have HG : Hid (Below w.heap.size w wq) := HW.out.trans hT.1
        clear hD hT
        go_wp2
        go_roundw
        case rel => exact ⟨k + 1, by omega, by go_num, HF.out, HG.out⟩
        case measure => simp [intOf]; omega
    · go_wp2_with fail
      refine (at_any HE1.out.c).mono ?_
      rintro e w' ⟨rfl, hw⟩
      subst hw
      go_wp2_with fail
      refine (rat_any HE1.out.d).mono ?_
      rintro e w' ⟨rfl, hw⟩
      subst hw
      go_wp2_with fail
      refine (err_any HE1.out.c).mono ?_
      rintro e w' ⟨rfl, hw⟩
      subst hw
      go_wp2_with fail
      refine (num_any _ _).mono ?_
      rintro e w' ⟨rfl, hw⟩
      subst hw
      go_wp2_with fail
      refine (rerr_any HE1.out.d).mono ?_
      rintro e w' ⟨rfl, hw⟩
      subst hw
      go_wp2_with fail
      refine (at_any HE2.out.c).mono ?_
      rintro e w' ⟨rfl, hw⟩
      subst hw
      go_wp2_with fail
      refine (rat_any HE2.out.d).mono ?_
      rintro e w' ⟨rfl, hw⟩
      subst hw
      go_wp2_with fail
      refine (err_any HE2.out.c).mono ?_
      rintro e w' ⟨rfl, hw⟩
      subst hw
      go_wp2_with fail
      refine (num_any _ _).mono ?_
      rintro e w' ⟨rfl, hw⟩
      subst hw
      go_wp2_with fail
      refine (rerr_any HE2.out.d).mono ?_
      rintro e w' ⟨rfl, hw⟩
      subst hw
      go_wp2
      go_ret
      exact ⟨rfl, HW.out⟩
end Go.Proofs.Ythjgabncifghaab
