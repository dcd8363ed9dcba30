import Derived.Test.YtpbghgddeodabaaGStn
import Derived.Test.YtpbghgddeodabaaGHerdJ
namespace Go.Proofs.Ytpbghgddeodabaa
open Go.RowKit Go.Maps
set_option maxRecDepth 20000
set_option linter.unusedVariables false

theorem put_fits {row : List Int} {v : Int} {n : Nat} (hn : 1 ≤ n ∧ n ≤ 32) (hv : v < 2 ^ n) (hl : row.length + n ≤ 268435456) : putRow row v (n : Int) = row ++ bts v n := by
  have h : putOk row v (n : Int) := ⟨⟨⟨by omega, by omega⟩, by simpa using hv⟩, by omega⟩
  unfold putRow
  rw [if_pos h, Int.toNat_natCast]

theorem lt16 {n : Nat} (h : n ≤ 65535) : (n : Int) < 2 ^ 16 := by
  have e : (2 : Int) ^ 16 = 65536 := by decide
  rw [e]
  omega

theorem pad3 {r : List Int} {n : Nat} (h : r.length = 8 * n + 3) : pad r = r ++ List.replicate 5 0 := by
  unfold pad
  rw [h, show (8 * n + 3 + 7) / 8 * 8 - (8 * n + 3) = 5 by omega]

/-- putStored over a herd: the writer stands at the border of a byte; the raw bytes lay there ahead of all. -/
theorem hputStored {W w : World} {xs : List ((Nat → Nat) × Thing)} (H : Herd W w xs) (i : Nat) {K : Nat → Nat} {g : Nat} {d : List Int} (hi : xs[i]? = some (K, tw g (unpack d))) (u : Value) (x : List Int) (hB : Byt x) (hS : SB W u x) (hu : ∀ k, u.ownBlock = some k → k < W.heap.size)
    (f : Int) (hf : f = 0 ∨ f = 1) (hx : x.length ≤ 65535) (hd : d.length + x.length + 5 ≤ 33554432) :
    Calls Try.prog 17 #[.pointer (some ⟨g, 0, none⟩), u, .int .u32 f] w fun e w' => e = .returned (.tuple #[]) ∧ ∃ K', Herd W w' (xs.set i (K', tw g (unpack (d ++ sblk f x)))) := by
  have hil : i < xs.length := (List.getElem?_eq_some_iff.1 hi).1
  have hlen : (unpack d).length = 8 * d.length := length_unpack d
  obtain ⟨row, hrow⟩ : ∃ row, unpack d = row := ⟨_, rfl⟩
  rw [hrow] at hi hlen
  have e1 : putRow row f 1 = row ++ bts f 1 := put_fits (n := 1) (by omega) (by rcases hf with rfl | rfl <;> decide) (by omega)
  have e2 : putRow (row ++ bts f 1) 0 2 = row ++ bts f 1 ++ bts 0 2 := put_fits (n := 2) (by omega) (by decide) (by simp only [List.length_append, length_bts]; omega)
  have e3 : pad (row ++ bts f 1 ++ bts 0 2) = row ++ bts f 1 ++ bts 0 2 ++ List.replicate 5 0 := pad3 (n := d.length) (by simp only [List.length_append, length_bts, hlen])
  have e4 : putRow (row ++ bts f 1 ++ bts 0 2 ++ List.replicate 5 0) (x.length : Int) 16 = row ++ bts f 1 ++ bts 0 2 ++ List.replicate 5 0 ++ bts (x.length : Int) 16 := put_fits (n := 16) (by omega) (lt16 (by omega)) (by simp only [List.length_append, length_bts, List.length_replicate]; omega)
  have e5 : putRow (row ++ bts f 1 ++ bts 0 2 ++ List.replicate 5 0 ++ bts (x.length : Int) 16) (((65535 - x.length : Nat) : Nat) : Int) 16 = row ++ bts f 1 ++ bts 0 2 ++ List.replicate 5 0 ++ bts (x.length : Int) 16 ++ bts (((65535 - x.length : Nat) : Nat) : Int) 16 := put_fits (n := 16) (by omega) (lt16 (by omega)) (by simp only [List.length_append, length_bts, List.length_replicate]; omega)
  have e6 : rawRow (row ++ bts f 1 ++ bts 0 2 ++ List.replicate 5 0 ++ bts (x.length : Int) 16 ++ bts (((65535 - x.length : Nat) : Nat) : Int) 16) x = row ++ unpack (sblk f x) := by
    have hl : (row ++ bts f 1 ++ bts 0 2 ++ List.replicate 5 0 ++ bts (x.length : Int) 16 ++ bts (((65535 - x.length : Nat) : Nat) : Int) 16).length = 8 * d.length + 40 := by simp only [List.length_append, length_bts, List.length_replicate]; omega
    unfold rawRow
    rw [if_neg (by omega), if_neg (by omega)]
    exact sblk_bits hf hx row
  have e7 : row ++ unpack (sblk f x) = unpack (d ++ sblk f x) := by rw [unpack_append, hrow]
  obtain ⟨r1, q1⟩ : ∃ r, row ++ bts f 1 = r := ⟨_, rfl⟩
  rw [q1] at e1 e2 e3 e4 e5 e6
  obtain ⟨r2, q2⟩ : ∃ r, r1 ++ bts 0 2 = r := ⟨_, rfl⟩
  rw [q2] at e2 e3 e4 e5 e6
  obtain ⟨r3, q3⟩ : ∃ r, r2 ++ List.replicate 5 0 = r := ⟨_, rfl⟩
  rw [q3] at e3 e4 e5 e6
  obtain ⟨r4, q4⟩ : ∃ r, r3 ++ bts (x.length : Int) 16 = r := ⟨_, rfl⟩
  rw [q4] at e4 e5 e6
  obtain ⟨r5, q5⟩ : ∃ r, r4 ++ bts (((65535 - x.length : Nat) : Nat) : Int) 16 = r := ⟨_, rfl⟩
  rw [q5] at e5 e6
  have HP1 := hide (hput H i hi f 1 (by omega) (by omega))
  rw [e1] at HP1
  have HP2 : Hid (∀ w1 K1, Herd W w1 (xs.set i (K1, tw g r1)) → Calls Try.prog 19 #[.pointer (some ⟨g, 0, none⟩), .int .u32 0, .int .i64 2] w1 fun e w' => (∃ z, e = .returned (.int .i64 z)) ∧ ∃ K', Herd W w' (xs.set i (K', tw g r2))) := fun w1 K1 H1 => by
    refine (hput H1 i (List.getElem?_set_self hil) 0 2 (by omega) (by omega)).mono ?_
    rintro e w' ⟨rfl, K', h⟩
    rw [e2, List.set_set] at h
    exact ⟨⟨_, rfl⟩, K', h⟩
  have HP3 : Hid (∀ w1 K1, Herd W w1 (xs.set i (K1, tw g r2)) → Calls Try.prog 20 #[.pointer (some ⟨g, 0, none⟩)] w1 fun e w' => e = .returned (.tuple #[]) ∧ ∃ K', Herd W w' (xs.set i (K', tw g r3))) := fun w1 K1 H1 => by
    refine (halign H1 i (List.getElem?_set_self hil)).mono ?_
    rintro e w' ⟨rfl, K', h⟩
    rw [e3, List.set_set] at h
    exact ⟨rfl, K', h⟩
  have HP4 : Hid (∀ w1 K1, Herd W w1 (xs.set i (K1, tw g r3)) → Calls Try.prog 19 #[.pointer (some ⟨g, 0, none⟩), .int .u32 (x.length : Int), .int .i64 16] w1 fun e w' => (∃ z, e = .returned (.int .i64 z)) ∧ ∃ K', Herd W w' (xs.set i (K', tw g r4))) := fun w1 K1 H1 => by
    refine (hput H1 i (List.getElem?_set_self hil) (x.length : Int) 16 (by omega) (by omega)).mono ?_
    rintro e w' ⟨rfl, K', h⟩
    rw [e4, List.set_set] at h
    exact ⟨⟨_, rfl⟩, K', h⟩
  have HP5 : Hid (∀ w1 K1, Herd W w1 (xs.set i (K1, tw g r4)) → Calls Try.prog 19 #[.pointer (some ⟨g, 0, none⟩), .int .u32 (((65535 - x.length : Nat) : Nat) : Int), .int .i64 16] w1 fun e w' => (∃ z, e = .returned (.int .i64 z)) ∧ ∃ K', Herd W w' (xs.set i (K', tw g r5))) := fun w1 K1 H1 => by
    refine (hput H1 i (List.getElem?_set_self hil) (((65535 - x.length : Nat) : Nat) : Int) 16 (by omega) (by omega)).mono ?_
    rintro e w' ⟨rfl, K', h⟩
    rw [e5, List.set_set] at h
    exact ⟨⟨_, rfl⟩, K', h⟩
  have HP6 : Hid (∀ w1 K1, Herd W w1 (xs.set i (K1, tw g r5)) → Calls Try.prog 21 #[.pointer (some ⟨g, 0, none⟩), u] w1 fun e w' => (∃ z, e = .returned (.int .i64 z)) ∧ ∃ K', Herd W w' (xs.set i (K', tw g (unpack (d ++ sblk f x))))) := fun w1 K1 H1 => by
    refine (hraw H1 i (K := K1) (row := r5) (List.getElem?_set_self hil) u x hB (hS.below H1.bel) (fun k hk _ => Decidable.byContradiction fun h0 => ?_)).mono ?_
    · have := H1.up i _ (List.getElem?_set_self hil) k h0
      have := hu k hk
      omega
    · rintro e w' ⟨rfl, K', h⟩
      rw [e6, e7, List.set_set] at h
      exact ⟨⟨_, rfl⟩, K', h⟩
  obtain ⟨ao, cap, rfl, hlc, hcm, _⟩ := hS
  unfold maxLen at hcm
  clear e1 e2 e3 e4 e5 e6 e7 q1 q2 q3 q4 q5 H hi hrow hlen hB hu
  have hsub : (65535 : Int) - (x.length : Int) = ((65535 - x.length : Nat) : Int) := by omega
  have hc1 : IntKind.u32.wrap (x.length : Int) = (x.length : Int) := by rw [IntKind.wrap_u32]; omega
  obtain ⟨y, hy⟩ : ∃ y, 65535 - x.length = y := ⟨_, rfl⟩
  rw [hy] at hsub HP5
  have hyl : y ≤ 65535 := by omega
  have hc2 : IntKind.u32.wrap (y : Int) = (y : Int) := by rw [IntKind.wrap_u32]; omega
  clear hy
  go_enter Try.func17, Try.ntmps17
  go_wp2_with fail
  refine HP1.out.mono ?_
  rintro e w1 ⟨rfl, K1, H1⟩
  have HQ2 := hide (HP2.out w1 K1 H1)
  clear H1 HP1 HP2
  go_wp2_with fail
  refine HQ2.out.mono ?_
  rintro e w2 ⟨⟨z2, rfl⟩, K2, H2⟩
  have HQ3 := hide (HP3.out w2 K2 H2)
  clear H2 HQ2 HP3
  go_wp2_with fail
  refine HQ3.out.mono ?_
  rintro e w3 ⟨rfl, K3, H3⟩
  have HQ4 := hide (HP4.out w3 K3 H3)
  clear H3 HQ3 HP4
  go_wp2_with fail
  refine HQ4.out.mono ?_
  rintro e w4 ⟨⟨z4, rfl⟩, K4, H4⟩
  have HQ5 := hide (HP5.out w4 K4 H4)
  clear H4 HQ4 HP5
  go_wp2_with fail
  refine HQ5.out.mono ?_
  rintro e w5 ⟨⟨z5, rfl⟩, K5, H5⟩
  have HQ6 := hide (HP6.out w5 K5 H5)
  clear H5 HQ5 HP6
  go_wp2_with fail
  refine HQ6.out.mono ?_
  rintro e w6 ⟨⟨z6, rfl⟩, K6, H6⟩
  have HH := hide H6
  clear H6 HQ6
  go_wp2
  (try simp only [Exit.inBlock, Exit.then])
  refine bodyPost_end (results_none rfl _ _ _) rfl ?_
  exact ⟨rfl, K6, HH.out⟩
end Go.Proofs.Ytpbghgddeodabaa

