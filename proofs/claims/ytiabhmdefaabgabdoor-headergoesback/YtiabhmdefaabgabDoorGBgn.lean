import Derived.Test.YtiabhmdefaabgabDoorGMk1
namespace Go.Proofs.YtiabhmdefaabgabDoor
open Go.RowKit Go.Maps
set_option maxRecDepth 20000
set_option linter.unusedVariables false

theorem getD_out {l : List Int} {k : Nat} (h : ¬ k < l.length) : l.getD k 0 = 0 := by rw [List.getD_eq_getElem?_getD, List.getElem?_eq_none (by omega)]; rfl

set_option maxHeartbeats 1000000 in
theorem begins_any (v1 v2 : Value) (l m : List Int) (w : World) (s1 : SI w v1 l) (s2 : SI w v2 m) (he : ∀ k, l.getD k 0 = m.getD k 0) :
    Calls Tryd.prog 16 #[v1, v2] w fun e w' => e = .returned (.bool true) ∧ w' = w := by
  have H1 := hide s1
  have H2 := hide s2
  have HE := hide he
  obtain ⟨a1, c1, rfl, hc1, hd1⟩ := s1.open
  obtain ⟨a2, c2, rfl, hc2, hd2⟩ := s2.open
  clear s1 s2 he
  go_enter Tryd.func16, Tryd.ntmps16
  go_wp2
  go_loopw [5] (fun i wr => ∃ k : Nat, i = .int .i64 k ∧ wr = w ∧ k ≤ max l.length m.length) (fun i _ => max l.length m.length - (intOf i).toNat)
  case atStart => exact ⟨0, rfl, rfl, Nat.zero_le _⟩
  case round =>
    obtain ⟨k, rfl, rfl, hk⟩ := hrel
    have hek := HE.out k
    by_cases h1 : k < l.length
    · have h1' : (k : Int) < (l.length : Int) := by omega
      obtain ⟨b1, o1, rfl, x1⟩ := H1.out.get (Below.refl _ _) h1
      by_cases h2 : k < m.length
      · have h2' : (k : Int) < (m.length : Int) := by omega
        obtain ⟨b2, o2, rfl, x2⟩ := H2.out.get (Below.refl _ _) h2
        rw [hek] at x1
        obtain ⟨Y, HY⟩ : ∃ Y, Hid (Y = m.getD k 0) := ⟨_, rfl⟩
        rw [← HY.out] at x1 x2
        clear hek
        go_wp2
        go_roundw
        case rel => exact ⟨k + 1, by go_num, trivial, by omega⟩
        case measure => simp [intOf]; omega
      · have h2' : ¬ (k : Int) < (m.length : Int) := by omega
        rw [hek, getD_out h2] at x1
        clear hek
        go_wp2
        go_roundw
        case rel => exact ⟨k + 1, by go_num, trivial, by omega⟩
        case measure => simp [intOf]; omega
    · have h1' : ¬ (k : Int) < (l.length : Int) := by omega
      by_cases h2 : k < m.length
      · have h2' : (k : Int) < (m.length : Int) := by omega
        obtain ⟨b2, o2, rfl, x2⟩ := H2.out.get (Below.refl _ _) h2
        rw [← hek, getD_out h1] at x2
        clear hek
        go_wp2
        go_roundw
        case rel => exact ⟨k + 1, by go_num, trivial, by omega⟩
        case measure => simp [intOf]; omega
      · have h2' : ¬ (k : Int) < (m.length : Int) := by omega
        clear hek
        go_wp2
        go_ret
        exact ⟨rfl, rfl⟩
end Go.Proofs.YtiabhmdefaabgabDoor

