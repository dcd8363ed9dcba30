import Derived.Test.YteiajeeincapoaaCalls1
import Derived.Test.YteiajeeincapoaaFresh
namespace Go.Proofs.Yteiajeeincapoaa
open Go.RowKit Go.Maps

theorem pinv_new (l : List Int) (c : Nat) (h1 : c ≤ 16777216) (h2 : l.length ≤ c) : PInv (stNew l c) :=
  ⟨h1, h2, h2, fun n hn => by simp [stNew] at hn, fun s p hp => by simp [stNew] at hp⟩

theorem small_new (l : List Int) (c : Nat) : Small (stNew l c) :=
  ⟨by simp [stNew], by simp [stNew], by simp [stNew], by simp [stNew], fun s => by simp [stNew]⟩

def shrunk (l : List Int) (c n : Nat) : St := { cap := c, now := resz l n, dur := l, pcs := fun _ => [], sizes := [n], calls := 1, dead := false, fused := false, left := 0, ents := 0 }

theorem trunc_new (l : List Int) (c n : Nat) (h2 : l.length ≤ c) (hn : n < l.length) : truncErr (stNew l c) n = 0 ∧ truncSt (stNew l c) n = shrunk l c n := by
  have hd : (stNew l c).dead = false := rfl
  have hs : spendNo (stNew l c) = false := rfl
  constructor
  · unfold truncErr
    rw [hd, hs, if_neg (by simp), if_neg (by omega), if_neg (by show ¬ ((c : Nat) : Int) < n; omega), if_neg (by simp)]
  · unfold truncSt
    rw [hd, hs, if_neg (by simp), if_neg (by omega), if_neg (by show ¬ ((c : Nat) : Int) < n; omega), if_neg (by simp), if_neg (by show ¬ ((l.length : Nat) : Int) < n; omega), if_pos (by show ((n : Nat) : Int) < l.length; omega)]
    rfl

theorem outTo_none (st : St) (sec : List Int) (rest : Int) (size : Nat) (h : ∀ s, st.pcs s = []) : ∀ k, outTo st sec rest size k = resz st.dur size
  | 0 => rfl
  | k + 1 => by unfold outTo; rw [h k, List.take_nil]; exact outTo_none st sec rest size h k

theorem out_shrunk (l : List Int) (c n : Nat) (hn : n < l.length) (k : Int × List Int × Int) : outcomeL (shrunk l c n) k = if 0 < k.1 then l.take n else l := by
  unfold outcomeL
  rw [outTo_none _ _ _ _ (fun _ => rfl)]
  have hb : behind (shrunk l c n) k.1 = if 0 < k.1 then n else l.length := by
    unfold behind keptN shrunk
    simp only [List.length_singleton]
    by_cases h : 0 < k.1
    · rw [if_pos h, if_pos (by omega), show min k.1.toNat 1 = 1 by omega]; rfl
    · rw [if_neg h, if_neg (by omega)]
  rw [hb]
  show resz l _ = _
  unfold resz
  by_cases h : 0 < k.1
  · rw [if_pos h, if_pos h, if_pos (by omega)]
  · rw [if_neg h, if_neg h, if_pos (Nat.le_refl _), List.take_length]

theorem SB.pre {w : World} {a : Option Addr} {k : Nat} {l : List Int} (h : SB w (.slice a l.length k) l) {n : Nat} (hn : n ≤ l.length) : SB w (.slice a n k) (l.take n) := by
  obtain ⟨ao, cap, he, h1, h2, h3, h4⟩ := h
  simp only [Value.slice.injEq] at he
  obtain ⟨rfl, -, rfl⟩ := he
  have e : (l.take n).length = n := by simp; omega
  refine ⟨a, k, by rw [e], by rw [e]; omega, h2, h3, fun x hx i hi => ?_⟩
  rw [e] at hi
  rw [h4 x hx i (by omega)]
  simp [List.getD, hi]

theorem shrinks_walk (v vsec : Value) (l sec : List Int) (c size cs rest : Int) (w : World) (hs : SB w v l) (hsec : SI w vsec sec) (hr : sec.length ≤ 17592186043904) :
    Calls Try.prog 4 #[v, .int .i64 c, .int .i64 size, .agg #[.int .i64 cs, vsec, .int .i64 rest]] w fun e w' => e = .returned (.bool true) ∧ Below w.heap.size w w' := by
  have HS := hide hs
  have HSEC := hide hsec
  obtain ⟨ao, k, hv, hk1, hk2, _⟩ := hs
  unfold maxLen at hk2
  subst hv
  obtain ⟨asx, ks, hv, hks1, hks2, _⟩ := hsec
  subst hv
  obtain ⟨W0, hW0⟩ : ∃ W0, W0 = w.alloc (.cells #[.int .i64 cs, .slice asx sec.length ks, .int .i64 rest] 34) := ⟨_, rfl⟩
  have hb0 : Below w.heap.size w W0 := by rw [hW0]; exact (Below.refl _ _).alloc (Nat.le_refl _) _
  have hs0 : W0.heap.size = w.heap.size + 1 := by rw [hW0]; exact size_alloc' _ _
  have hbx0 : W0.heap[w.heap.size]? = some (.cells #[.int .i64 cs, .slice asx sec.length ks, .int .i64 rest] 34 (0, 0)) := by rw [hW0]; exact heap_alloc_new _ _
  have HW0 := hide hW0
  have HS0 := hide hs0
  have HB0 := hide hb0
  have HBX := hide hbx0
  clear hW0 hs0 hb0 hbx0
  by_cases hfit : 0 ≤ c ∧ c ≤ 16777216 ∧ (l.length : Int) ≤ c
  case neg =>
    go_enter Try.func4, Try.ntmps4
    go_wp2_with fail
    rw [← HW0.out]
    refine (fits_no ao l.length k c _ hfit (by omega)).mono ?_
    rintro e W0 ⟨rfl, rfl⟩
    clear hfit
    go_wp2
    go_ret
    exact ⟨rfl, HB0.out⟩
  case pos =>
    obtain ⟨hf0, hf1, hf2⟩ := hfit
    obtain ⟨cn, rfl⟩ := Int.eq_ofNat_of_zero_le hf0
    by_cases hz0 : size < 0
    · go_enter Try.func4, Try.ntmps4
      go_wp2_with fail
      rw [← HW0.out]
      refine (fits_yes ao l.length k cn _ (by omega) hf1 hf2 (by omega)).mono ?_
      rintro e W0 ⟨rfl, rfl⟩
      go_wp2
      go_ret
      exact ⟨rfl, HB0.out⟩
    · by_cases hz1 : (l.length : Int) ≤ size
      · go_enter Try.func4, Try.ntmps4
        go_wp2_with fail
        rw [← HW0.out]
        refine (fits_yes ao l.length k cn _ (by omega) hf1 hf2 (by omega)).mono ?_
        rintro e W0 ⟨rfl, rfl⟩
        go_wp2
        go_ret
        exact ⟨rfl, HB0.out⟩
      · obtain ⟨n, rfl⟩ := Int.eq_ofNat_of_zero_le (show 0 ≤ size by omega)
        have HTN := hide (trunc_new l cn n (by omega) (by omega))
        go_enter Try.func4, Try.ntmps4
        go_wp2_with fail
        rw [← HW0.out]
        refine (fits_yes ao l.length k cn _ (by omega) hf1 hf2 (by omega)).mono ?_
        rintro e W0 ⟨rfl, rfl⟩
        go_wp2_with fail
        refine (fresh_any _ l cn _ (HS.out.below HB0.out) (by omega) (by omega)).mono ?_
        rintro e w1 ⟨g, K, rfl, hR1, hU1, hb1⟩
        have HR1 := hide hR1
        have HU1 := hide hU1
        have HB1 := hide hb1
        clear hR1 hU1 hb1
        go_wp2_with fail
        refine (truncate_any n HR1.out (pinv_new l cn (by omega) (by omega)) (small_new l cn)).mono ?_
        rintro e w2 ⟨rfl, K2, hR2, hF2⟩
        rw [HTN.out.1]
        rw [HTN.out.2] at hR2
        have HR2 := hide hR2
        have HB2 : Hid (Below W0.heap.size W0 w2) := HB1.out.trans (hF2.below HU1.out HB1.out.size)
        have HU2 := hide (hF2.up HU1.out HB1.out.size)
        have HBw2 : Hid (Below w.heap.size w w2) := HB0.out.trans (HB2.out.mono HB0.out.size)
        have hbx2 : w2.heap[w.heap.size]? = some (.cells #[.int .i64 cs, .slice asx sec.length ks, .int .i64 rest] 34 (0, 0)) := (HB2.out.block w.heap.size (by rw [HS0.out]; omega)).trans HBX.out
        have x0 : w2.cell? ⟨w.heap.size, 0, none⟩ = some (.int .i64 cs) := by simp [World.cell?, hbx2]
        have x1 : w2.cell? ⟨w.heap.size, 1, none⟩ = some (.slice asx sec.length ks) := by simp [World.cell?, hbx2]
        have x2 : w2.cell? ⟨w.heap.size, 2, none⟩ = some (.int .i64 rest) := by simp [World.cell?, hbx2]
        clear hR2 hF2 hbx2
        go_wp2_with fail
        refine (choice_any cs rest _ sec _ (HSEC.out.below HBw2.out) hr).mono ?_
        rintro e w3 ⟨b, rfl, hsi, hbb, hb3⟩
        have HSI := hide hsi
        have HB3 := hide hb3
        have HR3 := hide (HR2.out.below hb3)
        have HK3 : Hid (Role K2 (.slice (some ⟨b, 0, none⟩) sec.length sec.length) 0) := fun q hq => by
          simp only [Value.ownBlock, Option.some.injEq] at hq
          obtain ⟨_, _, _, _, _, hv⟩ := HR2.out
          by_cases hk : K2 q = 0
          · exact hk
          · have := hv.sup q hk; omega
        have y0 := keep1 hb3 x0
        clear hsi hb3 x0 x1 x2 hbb
        go_wp2_with fail
        refine (crash_any (st := shrunk l cn n) cs rest HR3.out ?p1 ?p2 HSI.out HK3.out).mono ?_
        case p1 => exact ⟨by show cn ≤ _; omega, by show (resz l n).length ≤ cn; rw [length_resz]; omega, by show l.length ≤ cn; omega, fun q hq => by simp [shrunk] at hq; show q ≤ cn; omega, fun s p hp => by simp [shrunk] at hp⟩
        case p2 => show 1 ≤ _; omega
        rintro e w4 ⟨g4, K4, rfl, _, hR4, hU4, hF4⟩
        rw [out_shrunk l cn n (by omega)] at hR4
        have HR4 := hide hR4
        have HF4 := hide hF4
        have HBw4 : Hid (Below w.heap.size w w4) := by
          have s2 := HB2.out.size
          have s3 := HB3.out.size
          have s0 := HB0.out.size
          have h4 := hF4.below HU2.out (show W0.heap.size ≤ w3.heap.size by omega)
          exact HBw2.out.trans ((HB3.out.mono HBw2.out.size).trans (h4.mono s0))
        have y4 : w4.cell? ⟨w.heap.size, 0, none⟩ = some (.int .i64 cs) := by
          have s2 := HB2.out.size
          have s3 := HB3.out.size
          have h4 := hF4.below HU2.out (show W0.heap.size ≤ w3.heap.size by omega)
          rw [h4.cell (by show w.heap.size < _; rw [HS0.out]; omega)]
          exact y0
        clear hR4 hF4 y0 hU4
        obtain ⟨vn, vd, m, vs, D, hV⟩ := HR4.out
        have HV := hide hV
        clear hV
        by_cases hcs : 0 < cs
        · have HV' := HV
          rw [if_pos hcs] at HV'
          have e1 : (stNew (l.take n) cn).now.length = n := by show (l.take n).length = n; simp; omega
          have HI : Hid (∀ W : World, W.heap = w4.heap → Calls Try.prog 10 #[.pointer (some ⟨g4, 0, none⟩)] W fun e w' => ∃ a c, e = .returned (.slice a n c) ∧ OB w' W.heap.size (.slice a n c) (l.take n) ∧ Below W.heap.size W w') := by
            intro W hW
            have hd : DC W g4 (stNew (l.take n) cn).cap vn vd m vs (stNew (l.take n) cn).calls (stNew (l.take n) cn).dead (stNew (l.take n) cn).fused (stNew (l.take n) cn).left := by
              unfold DC; rw [hW]; exact HV'.out.dc
            have hn2 : SB W vn (l.take n) := HV'.out.hn.sb.same fun k hk => by rw [hW]
            have := image_any hd hn2 (by simp; omega)
            have e2 : (l.take n).length = n := e1
            rw [e2] at this
            exact this
          have hn' : (n : Int) ≤ (k : Int) := by omega
          have hn0 : (0 : Int) ≤ (n : Int) := by omega
          have hV2 := hide (HS.out.pre (n := n) (by omega))
          clear e1
          go_wp2_with fail
          go_region_held3 (fun _ => True) (trivial)
            (first
              | (go_at_call 10; refine (HI.out _ (by rfl)).mono ?_; rintro e w5 ⟨a5, c5, rfl, hob5, hb5⟩; have hbw5 := HBw4.out.trans (((Below.refl w4.heap.size w4).drew.trans hb5).mono HBw4.out.size))
              | (go_at_call 15; refine (same_any _ _ (l.take n) (l.take n) _ (by exact hob5.sb) (by exact hV2.out.below hbw5)).mono ?_; rintro e w6 ⟨rfl, n6, hw6⟩; subst hw6))
          all_goals
            go_wp2
            go_ret
            rw [eqB_self]
            exact ⟨rfl, below_drewN hbw5 _⟩
        · have HV' := HV
          rw [if_neg hcs] at HV'
          go_wp2_with fail
          refine (image_any HV'.out.dc HV'.out.hn.sb (by show l.length ≤ _; omega)).mono ?_
          rintro e w5 ⟨a5, c5, rfl, hob5, hb5⟩
          have HOB5 := hide hob5
          have HBw5 := hide (HBw4.out.trans (hb5.mono HBw4.out.size))
          clear hob5 hb5
          go_wp2_with fail
          refine (same_any _ _ l l _ HOB5.out.sb (HS.out.below HBw5.out)).mono ?_
          rintro e w6 ⟨rfl, n6, rfl⟩
          rw [eqB_self]
          go_wp2
          go_ret
          exact ⟨rfl, below_drewN HBw5.out _⟩
end Go.Proofs.Yteiajeeincapoaa
