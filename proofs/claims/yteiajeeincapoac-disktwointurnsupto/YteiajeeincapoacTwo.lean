import Derived.Test.YteiajeeincapoacRTurn
namespace Go.Proofs.Yteiajeeincapoac
open Go.RowKit Go.Maps

theorem herd_nil (w : World) : Herd w w [] := ⟨Below.refl _ _, (fun i d hd => by simp at hd), (fun i d hd => by simp at hd), (fun i j d e hd => by simp at hd)⟩

set_option maxRecDepth 20000 in
set_option maxHeartbeats 4000000 in
theorem two_walk (v u vo vp : Value) (l m : List Int) (one two : List OpP) (c r : Int) (w : World) (hs : SB w v l) (hsl : l.length ≤ 140737488351232) (hm : SB w u m) (hml : m.length ≤ 140737488351232) (ho : SO w vo one) (hB : OpsB one) (hp : SO w vp two) (hQ : OpsB two)
    (hn1 : one.length ≤ 1500000) (hn2 : two.length ≤ 1500000) (ha1 : ∀ o ∈ one, o.a ≤ 9223372036854775807) (ha2 : ∀ o ∈ two, o.a ≤ 9223372036854775807) :
    Calls Try.prog 4 #[v, .int .i64 c, vo, u, .int .i64 r, vp] w fun e w' => e = .returned (.bool true) ∧ Below w.heap.size w w' := by
  have HS := hide hs
  have HM := hide hm
  have HO := hide ho
  have HPP := hide hp
  obtain ⟨ao, k, hv, _⟩ := hs
  subst hv
  obtain ⟨au, ku, hv, _⟩ := hm
  subst hv
  obtain ⟨aop, kop, hv, _, hop2, _⟩ := ho
  subst hv
  obtain ⟨apt, kpt, hv, _, hpt2, _⟩ := hp
  subst hv
  have HH := hide (herd_nil w)
  by_cases hc : (0 ≤ c ∧ c ≤ 16777216) ∧ (l.length : Int) ≤ c
  case neg =>
    by_cases hd : (0 ≤ r ∧ r ≤ 16777216) ∧ (m.length : Int) ≤ r
    case neg =>
      go_enter Try.func4, Try.ntmps4
      go_wp2_with fail
      refine (made_none _ l c HH.out HS.out hsl hc).mono ?_
      rintro e w1 ⟨rfl, h1⟩
      have HH1 := hide h1
      clear h1
      go_wp2_with fail
      refine (made_none _ m r HH1.out HM.out hml hd).mono ?_
      rintro e w2 ⟨rfl, h2⟩
      have HH2 := hide h2
      clear h2 hc hd
      go_wp2
      go_ret
      exact ⟨rfl, HH2.out.bel⟩
    case pos =>
      obtain ⟨⟨hd0, hd1⟩, hd2⟩ := hd
      obtain ⟨rn, rfl⟩ := Int.eq_ofNat_of_zero_le hd0
      go_enter Try.func4, Try.ntmps4
      go_wp2_with fail
      refine (made_none _ l c HH.out HS.out hsl hc).mono ?_
      rintro e w1 ⟨rfl, h1⟩
      have HH1 := hide h1
      clear h1 hc
      go_wp2_with fail
      refine (made_herd _ m rn HH1.out HM.out (by omega) (by omega)).mono ?_
      rintro e w2 ⟨gb, gs, K2, KR2, rfl, h2⟩
      have HH2 := hide h2
      clear h2
      go_wp2
      go_ret
      exact ⟨rfl, HH2.out.bel⟩
  case pos =>
    obtain ⟨⟨hc0, hc1⟩, hc2⟩ := hc
    obtain ⟨cn, rfl⟩ := Int.eq_ofNat_of_zero_le hc0
    by_cases hd : (0 ≤ r ∧ r ≤ 16777216) ∧ (m.length : Int) ≤ r
    case neg =>
      go_enter Try.func4, Try.ntmps4
      go_wp2_with fail
      refine (made_herd _ l cn HH.out HS.out (by omega) (by omega)).mono ?_
      rintro e w1 ⟨g, gr, K1, KR1, rfl, h1⟩
      have HH1 := hide h1
      clear h1
      go_wp2_with fail
      refine (made_none _ m r HH1.out HM.out hml hd).mono ?_
      rintro e w2 ⟨rfl, h2⟩
      have HH2 := hide h2
      clear h2 hd
      go_wp2
      go_ret
      exact ⟨rfl, HH2.out.bel⟩
    case pos =>
      obtain ⟨⟨hd0, hd1⟩, hd2⟩ := hd
      obtain ⟨rn, rfl⟩ := Int.eq_ofNat_of_zero_le hd0
      have HB := hide hB
      have HQ := hide hQ
      have HA1 := hide ha1
      have HA2 := hide ha2
      clear hB hQ ha1 ha2
      go_enter Try.func4, Try.ntmps4
      go_wp2_with fail
      refine (made_herd _ l cn HH.out HS.out (by omega) (by omega)).mono ?_
      rintro e w1 ⟨g, gr, K1, KR1, rfl, h1⟩
      have HH1 := hide h1
      clear h1
      go_wp2_with fail
      refine (made_herd _ m rn HH1.out HM.out (by omega) (by omega)).mono ?_
      rintro e w2 ⟨gb, gs, K2, KR2, rfl, h2⟩
      have HH2 : Hid (Herd w w2 [(K1, g, .inl (stNew l cn)), (KR1, gr, .inr (rsNew l cn)), (K2, gb, .inl (stNew m rn)), (KR2, gs, .inr (rsNew m rn))]) := h2
      clear h2
      go_wp2_with fail
      refine (turned_walk g gb gr gs K1 KR1 K2 KR2 l m cn rn _ _ one two HH2.out (by omega) (by omega) (by omega) (by omega) HO.out HB.out HPP.out HQ.out hn1 hn2 HA1.out HA2.out).mono ?_
      rintro e w3 ⟨rfl, hb3⟩
      have HB3 := hide hb3
      clear hb3
      go_wp2
      go_ret
      exact ⟨rfl, HB3.out⟩
end Go.Proofs.Yteiajeeincapoac
