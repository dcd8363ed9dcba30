import Derived.Test.YtdpfjfkknimlfaaDoorGStk
namespace Go.Proofs.YtdpfjfkknimlfaaDoor
open Go.RowKit Go.Maps
set_option maxRecDepth 20000
set_option linter.unusedVariables false
set_option linter.unusedSimpArgs false

def clf (f g : Nat → Int) : Bool := decide (f 0 = 8192) || decide (65535 < f 1 + g 1) || (decide (g 0 = 128) && decide (g 0 * f 0 ≤ 2 * aps f g 8))

set_option maxHeartbeats 1000000 in
theorem closed_any (f g : Nat → Int) (w : World) (hf : Few f) (hg : Few g) (hf2 : Fwt f) (hg2 : Fwt g) :
    Calls Tryd.prog 17 #[.agg (a10 f), .agg (a10 g)] w fun e w' => e = .returned (.bool (clf f g)) ∧ Below w.heap.size w w' := by
  obtain ⟨w3, hw3⟩ : ∃ w3, (w.alloc (.cells (a10 f) 40)).alloc (.cells (a10 g) 40) = w3 := ⟨_, rfl⟩
  have HJ3 : Hid (Hbx w f g w3) := by rw [← hw3]; exact hbx_start w f g
  have HB3 := hide HJ3.out.bel
  have x0 := HJ3.out.at1 (n := 0) (by omega)
  have x1 := HJ3.out.at1 (n := 1) (by omega)
  have y0 := HJ3.out.at2 (n := 0) (by omega)
  have y1 := HJ3.out.at2 (n := 1) (by omega)
  have b1 := hf 1
  have b2 := hg 1
  have HO := hide HJ3.out.one
  have HT := hide HJ3.out.two
  have HC := hide (changes_any f g w3 hf2 hg2)
  have v1 : wrap64 (f 1 + g 1) = f 1 + g 1 := by unfold wrap64; omega
  clear hf hg hf2 hg2
  by_cases h0 : f 0 = 8192
  · have HE : Hid (clf f g = true) := by show _ = _; unfold clf; rw [decide_eq_true h0]; rfl
    have g0 : (f 0 == 8192) = true := by simpa using h0
    rw [HE.out]
    clear h0 HE HC
    go_enter Tryd.func17, Tryd.ntmps17
    go_wp2
    go_ret
    exact ⟨rfl, HB3.out⟩
  · have g0 : (f 0 == 8192) = false := by simpa using h0
    by_cases h1 : 65535 < f 1 + g 1
    · have HE : Hid (clf f g = true) := by show _ = _; unfold clf; rw [decide_eq_false h0, decide_eq_true h1]; rfl
      have g1 : decide (65535 < f 1 + g 1) = true := decide_eq_true h1
      rw [HE.out]
      clear h0 HE HC
      go_enter Tryd.func17, Tryd.ntmps17
      go_wp2
      go_ret
      exact ⟨rfl, HB3.out⟩
    · have g1 : decide (65535 < f 1 + g 1) = false := decide_eq_false h1
      by_cases h2 : g 0 = 128
      · have HE : Hid (clf f g = decide (g 0 * f 0 ≤ 2 * aps f g 8)) := by show _ = _; unfold clf; rw [decide_eq_false h0, decide_eq_false h1, decide_eq_true h2]; rfl
        have g2 : (g 0 == 128) = true := by simpa using h2
        rw [HE.out]
        obtain ⟨cc, hcc⟩ : ∃ c, decide (g 0 * f 0 ≤ 2 * aps f g 8) = c := ⟨_, rfl⟩
        rw [hcc] at HC ⊢
        clear h0 HE h2 hcc
        go_enter Tryd.func17, Tryd.ntmps17
        go_wp2_with (first | ((with_reducible refine wpList_ldS w.heap.size _ rfl ?hx HO.out ?_); case hx => rfl) | ((with_reducible refine wpList_ldS (w.heap.size + 1) _ rfl ?hx HT.out ?_); case hx => rfl))
        refine HC.out.mono ?_
        rintro e w4 ⟨rfl, b4⟩
        have HB4 := hide (HB3.out.trans (b4.mono HB3.out.size))
        clear b4
        go_wp2
        go_ret
        exact ⟨rfl, HB4.out⟩
      · have HE : Hid (clf f g = false) := by show _ = _; unfold clf; rw [decide_eq_false h0, decide_eq_false h1, decide_eq_false h2]; rfl
        have g2 : (g 0 == 128) = false := by simpa using h2
        rw [HE.out]
        clear h0 HE HC h2
        go_enter Tryd.func17, Tryd.ntmps17
        go_wp2
        go_ret
        exact ⟨rfl, HB3.out⟩
end Go.Proofs.YtdpfjfkknimlfaaDoor

