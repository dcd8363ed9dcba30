import Derived.Test.YtippppcdongahaaDoorG16Exq
import Derived.Test.YtippppcdongahaaDoorG35Icp
namespace Go.Proofs.YtippppcdongahaaDoor
open Go.RowKit Go.Maps
set_option maxRecDepth 20000
set_option linter.unusedVariables false

theorem num8_any (e : Int) (w : World) : Calls Tryd.prog 9 #[.int .i64 e] w fun x w' => x = .returned (.int .i64 e) ∧ w' = w := by
  go_enter Tryd.func9, Tryd.ntmps9
  go_wp2
  go_ret
  exact ⟨rfl, rfl⟩

theorem hInf {w : World} {v : Value} {l : List Int} (h : SB w v l) (hB : Byt l) (limit : Int) (T : Tab w) (O : Odr w) : Calls Tryd.prog 5 #[v, .int .i64 limit] w fun e w' => ∃ E n o a c, Ifl l limit E n o ∧ e = .returned (.tuple #[.slice a o.length c, .int .i64 (n : Nat), .int .i64 E]) ∧ OB w' w.heap.size (.slice a o.length c) o ∧ Below w.heap.size w w' := hInflate h hB limit T O

theorem ob_one {w : World} {B : Nat} {a : Option Addr} {c : Nat} {x : Int} (h : OB w B (.slice a 1 c) [x]) : ∃ b, a = some ⟨b, 0, none⟩ ∧ 1 ≤ c ∧ w.cell? ⟨b, 0, none⟩ = some (.int .u8 x) := by
  obtain ⟨b, p, hv, h1, h2⟩ := ob_some8 h (by simp)
  simp only [Value.slice.injEq] at hv
  obtain ⟨rfl, -, rfl⟩ := hv
  exact ⟨b, rfl, by simpa using h1, by have := OB.get h (b := b) rfl (i := 0) (by simp); simpa using this⟩

set_option maxHeartbeats 2000000 in
theorem letter_any (w : World) (T : Tab w) (O : Odr w) : Calls Tryd.prog 4 #[] w fun e w' => e = .returned (.bool true) ∧ Below w.heap.size w w' := by
  have hb0 : Below w.heap.size w (w.alloc (.cells #[.int .u8 75, .int .u8 4, .int .u8 0] 5)) := (Below.refl _ _).alloc (Nat.le_refl _) _
  have hsb : SB (w.alloc (.cells #[.int .u8 75, .int .u8 4, .int .u8 0] 5)) (.slice (some ⟨w.heap.size, 0, none⟩) 3 3) [75, 4, 0] :=
    (OB.of_full (base := 0) (l := [75, 4, 0]) (heap_alloc_new w _) (Nat.zero_le _) (by unfold maxLen; decide)).sb
  have HIN := hide (hInf hsb (by intro i; match i with | 0 => decide | 1 => decide | 2 => decide | n + 3 => simp) 1 (T.mono hb0) (O.mono hb0))
  have HB0 := hide hb0
  clear hsb hb0 T O
  go_enter Tryd.func4, Tryd.ntmps4
  go_wp2_with fail
  refine HIN.out.mono ?_
  rintro e w1 ⟨E, n, o, a, c, hI, rfl, ho, hb⟩
  obtain ⟨rfl, rfl, rfl⟩ := hI.det letter_is
  obtain ⟨b, rfl, hc1, hcell⟩ := ob_one ho
  have hn := num8_any 0
  have HB := hide (HB0.out.trans (hb.mono HB0.out.size))
  have HN : Hid (∀ w, Calls Tryd.prog 9 #[.int .i64 0] w fun x w' => x = .returned (.int .i64 0) ∧ w' = w) := hn
  clear ho hb hI HIN hn
  go_wp2_with (go_at_call 9; refine (HN.out _).mono ?_; rintro e w2 ⟨rfl, rfl⟩)
  go_ret
  exact ⟨rfl, HB.out⟩

theorem same_yes {w : World} {v1 v2 : Value} {l : List Int} (h1 : SB w v1 l) (h2 : SB w v2 l) : Calls Tryd.prog 12 #[v1, v2] w fun e w' => e = .returned (.bool true) ∧ ∃ n, w' = w.drewN n := by
  refine (same_any v1 v2 l l w h1 h2).mono ?_
  rintro e w1 ⟨rfl, hn⟩
  exact ⟨by simp [eqB], hn⟩

theorem hcopinf {W w : World} {v : Value} {l : List Int} (h : SB W v l) (hB : Byt l) (hr : l.length ≤ 140737488351232) (hb : Below W.heap.size W w) : Calls Tryd.prog 6 #[v] w fun e w' => ∃ a c, e = .returned (.slice a l.length c) ∧ SB w' (.slice a l.length c) l ∧ Below w.heap.size w w' := by
  refine (copied8_any v l w (h.below hb) hr).mono ?_
  rintro e w1 ⟨rfl, ho, hb1⟩
  exact ⟨_, _, rfl, ho.sb, hb1⟩

end Go.Proofs.YtippppcdongahaaDoor

