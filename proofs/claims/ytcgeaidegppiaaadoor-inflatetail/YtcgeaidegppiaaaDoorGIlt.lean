import Derived.Test.YtcgeaidegppiaaaDoorGIfm
import Derived.Test.YtcgeaidegppiaaaDoorGIfq
import Derived.Test.YtcgeaidegppiaaaDoorGA31
namespace Go.Proofs.YtcgeaidegppiaaaDoor
open Go.RowKit Go.Maps
set_option maxRecDepth 20000
set_option linter.unusedVariables false

theorem num8_any (e : Int) (w : World) : Calls Tryd.prog 8 #[.int .i64 e] w fun x w' => x = .returned (.int .i64 e) ∧ w' = w := by
  go_enter Tryd.func8, Tryd.ntmps8
  go_wp2
  go_ret
  exact ⟨rfl, rfl⟩

/-- One call of Inflate whose answer is known. -/
theorem hInf {w : World} {v : Value} {l : List Int} (h : SB w v l) (hB : Byt l) (limit : Int) (T : Tab w) (O : Odr w) : Calls Tryd.prog 6 #[v, .int .i64 limit] w fun e w' => ∃ E n o a c, Ifl l limit E n o ∧ e = .returned (.tuple #[.slice a o.length c, .int .i64 (n : Nat), .int .i64 E]) ∧ OB w' w.heap.size (.slice a o.length c) o ∧ Below w.heap.size w w' := hInflate h hB limit T O

theorem ob_one {w : World} {B : Nat} {a : Option Addr} {c : Nat} {x : Int} (h : OB w B (.slice a 1 c) [x]) : ∃ b, a = some ⟨b, 0, none⟩ ∧ 1 ≤ c ∧ w.cell? ⟨b, 0, none⟩ = some (.int .u8 x) := by
  obtain ⟨b, p, hv, h1, h2⟩ := ob_some8 h (by simp)
  simp only [Value.slice.injEq] at hv
  obtain ⟨rfl, -, rfl⟩ := hv
  exact ⟨b, rfl, by simpa using h1, by have := OB.get h (b := b) rfl (i := 0) (by simp); simpa using this⟩

set_option maxHeartbeats 2000000 in
theorem letter_any (w : World) (T : Tab w) (O : Odr w) : Calls Tryd.prog 5 #[] w fun e w' => e = .returned (.bool true) ∧ Below w.heap.size w w' := by
  have hb0 : Below w.heap.size w (w.alloc (.cells #[.int .u8 75, .int .u8 4, .int .u8 0] 5)) := (Below.refl _ _).alloc (Nat.le_refl _) _
  have hsb : SB (w.alloc (.cells #[.int .u8 75, .int .u8 4, .int .u8 0] 5)) (.slice (some ⟨w.heap.size, 0, none⟩) 3 3) [75, 4, 0] :=
    (OB.of_full (base := 0) (l := [75, 4, 0]) (heap_alloc_new w _) (Nat.zero_le _) (by unfold maxLen; decide)).sb
  have HIN := hide (hInf hsb (by intro i; match i with | 0 => decide | 1 => decide | 2 => decide | n + 3 => simp) 1 (T.mono hb0) (O.mono hb0))
  have HB0 := hide hb0
  clear hsb hb0 T O
  go_enter Tryd.func5, Tryd.ntmps5
  go_wp2_with fail
  refine HIN.out.mono ?_
  rintro e w1 ⟨E, n, o, a, c, hI, rfl, ho, hb⟩
  obtain ⟨rfl, rfl, rfl⟩ := hI.det letter_is
  obtain ⟨b, rfl, hc1, hcell⟩ := ob_one ho
  have hn := num8_any 0
  have HB := hide (HB0.out.trans (hb.mono HB0.out.size))
  have HN : Hid (∀ w, Calls Tryd.prog 8 #[.int .i64 0] w fun x w' => x = .returned (.int .i64 0) ∧ w' = w) := hn
  clear ho hb hI HIN hn
  go_wp2_with (go_at_call 8; refine (HN.out _).mono ?_; rintro e w2 ⟨rfl, rfl⟩)
  go_ret
  exact ⟨rfl, HB.out⟩

theorem same_yes {w : World} {v1 v2 : Value} {l : List Int} (h1 : SB w v1 l) (h2 : SB w v2 l) : Calls Tryd.prog 9 #[v1, v2] w fun e w' => e = .returned (.bool true) ∧ ∃ n, w' = w.drewN n := by
  refine (same_any v1 v2 l l w h1 h2).mono ?_
  rintro e w1 ⟨rfl, hn⟩
  exact ⟨by simp [eqB], hn⟩

/-- Bytes copied into new memory are unpacked. -/
theorem hcopinf {W w : World} {v : Value} {l : List Int} (h : SB W v l) (hB : Byt l) (hr : l.length ≤ 140737488351232) (hb : Below W.heap.size W w) : Calls Tryd.prog 7 #[v] w fun e w' => ∃ a c, e = .returned (.slice a l.length c) ∧ SB w' (.slice a l.length c) l ∧ Below w.heap.size w w' := by
  refine (copied8_any v l w (h.below hb) hr).mono ?_
  rintro e w1 ⟨rfl, ho, hb1⟩
  exact ⟨_, _, rfl, ho.sb, hb1⟩

set_option maxHeartbeats 4000000 in
theorem inflateLimits_walk (v : Value) (l : List Int) (limit other : Int) (W : World) (h : SB W v l) (hB : Byt l) (hr : l.length ≤ 140737488351232) (T : Tab W) (O : Odr W) :
    Calls Tryd.prog 3 #[v, .int .i64 limit, .int .i64 other] W fun e w' => e = .returned (.bool true) ∧ Below W.heap.size W w' := by
  have HLT := hide (letter_any W T O)
  have HS := hide h
  have HB := hide hB
  have HR := hide hr
  have HT := hide T
  have HO := hide O
  clear h hB hr T O
  go_enter Tryd.func3, Tryd.ntmps3
  go_wp2_with fail
  refine HLT.out.mono ?_
  rintro e w1 ⟨rfl, hb1⟩
  have HB1 := hide hb1
  clear hb1 HLT
  by_cases c0 : other < 0
  · go_wp2
    go_ret
    exact ⟨rfl, HB1.out⟩
  by_cases c1 : 16777216 < other
  · go_wp2
    go_ret
    exact ⟨rfl, HB1.out⟩
  go_wp2_with fail
  refine (hcopinf HS.out HB.out HR.out HB1.out).mono ?_
  rintro e w2 ⟨a2, x2, rfl, s2, b2⟩
  have hb2 := HB1.out.trans (b2.mono HB1.out.size)
  have HI1 := hide (hInf s2 HB.out limit (HT.out.mono hb2) (HO.out.mono hb2))
  have HB2 := hide hb2
  clear s2 b2 hb2
  go_wp2_with fail
  refine HI1.out.mono ?_
  rintro e w3 ⟨E, n, o, a3, x3, hI, rfl, ho, b3⟩
  have HB3 := hide (HB2.out.trans (b3.mono HB2.out.size))
  have HN : Hid (∀ (e : Int) (w : World), Calls Tryd.prog 8 #[.int .i64 e] w fun x w' => x = .returned (.int .i64 e) ∧ w' = w) := num8_any
  have HII := hide hI
  have HOO := hide ho
  clear hI ho b3 HI1
  obtain ⟨M, HM⟩ : ∃ M : Nat, Hid (M = o.length) := ⟨_, rfl⟩
  rw [← HM.out]
  by_cases he : E = 0
  case neg =>
    have he' : (E != 0) = true := by simpa using he
    go_wp2_with (go_at_call 8; refine (HN.out _ _).mono ?_; rintro e w4 ⟨rfl, rfl⟩)
    go_ret
    exact ⟨rfl, HB3.out⟩
  subst he
  go_wp2_with (go_at_call 8; refine (HN.out _ _).mono ?_; rintro e w4 ⟨rfl, rfl⟩)
  refine (hcopinf HS.out HB.out HR.out HB3.out).mono ?_
  rintro e w5 ⟨a5, x5, rfl, s5, b5⟩
  have hb5 := HB3.out.trans (b5.mono HB3.out.size)
  have HI2 := hide (hInf s5 HB.out other (HT.out.mono hb5) (HO.out.mono hb5))
  have HB5 := hide hb5
  have HO5 := hide (HOO.out.sb.below b5)
  clear s5 b5 hb5
  go_wp2_with fail
  refine HI2.out.mono ?_
  rintro e w6 ⟨E2, n2, o2, a6, x6, hI2, rfl, ho2, b6⟩
  have HB6 := hide (HB5.out.trans (b6.mono HB5.out.size))
  have HO6 := hide (HO5.out.below b6)
  have HS6 := hide ho2.sb
  have hlim := HII.out.limit (other := other) (by omega) (by omega)
  clear b6 ho2 HI2
  by_cases hm : other < (M : Int)
  · obtain ⟨rfl, rfl, rfl⟩ := hI2.det (hlim.1 (by rw [← HM.out]; exact hm))
    clear hI2 hlim
    go_wp2_with (go_at_call 8; refine (HN.out _ _).mono ?_; rintro e w7 ⟨rfl, rfl⟩)
    go_ret
    exact ⟨rfl, HB6.out⟩
  · obtain ⟨rfl, rfl, rfl⟩ := hI2.det (hlim.2 (by rw [← HM.out]; exact hm))
    have HSM := hide (same_yes HO6.out HS6.out)
    rw [← HM.out] at HSM ⊢
    clear hI2 hlim
    go_wp2_with (first | (go_at_call 8; refine (HN.out _ _).mono ?_; rintro e w7 ⟨rfl, rfl⟩) | (go_at_call 9; refine HSM.out.mono ?_; rintro e w8 ⟨rfl, nq, rfl⟩))
    go_ret
    exact ⟨rfl, below_drewN HB6.out nq⟩
end Go.Proofs.YtcgeaidegppiaaaDoor

