import Derived.Test.YtgengoffkoonfabQHrise
namespace Go.Proofs.Ytgengoffkoonfab.H4
open Go.RowKit Go.Maps
set_option maxRecDepth 20000

/-- Which child is looked at, and which was the first so far. -/
structure Kid (ys : List (It Int)) (a c f : Nat) : Prop where
  lo : 2 * a + 1 ≤ c
  hi : c ≤ 2 * a + 3
  lt : f < ys.length
  is : f = a ∨ 0 < f ∧ (f - 1) / 2 = a ∧ Lt (pt ys f) (pt ys a)
  least : ∀ i, 0 < i → i < ys.length → (i - 1) / 2 = a → i < c → ¬ Lt (pt ys i) (pt ys f)

theorem Kid.start {ys : List (It Int)} {a : Nat} (h : a < ys.length) : Kid ys a (2 * a + 1) a :=
  ⟨Nat.le_refl _, by omega, h, .inl rfl, fun i h0 _ h1 h2 => by omega⟩

theorem Kid.take {ys : List (It Int)} {a c f : Nat} (h : Kid ys a c f) (hc : c < ys.length) (hh : c ≤ 2 * a + 2) (hl : Lt (pt ys c) (pt ys f)) : Kid ys a (c + 1) c := by
  have hlo := h.lo
  refine ⟨by omega, by omega, hc, .inr ⟨by omega, by omega, ?_⟩, fun i h0 h1 h2 h3 => ?_⟩
  · rcases h.is with rfl | ⟨_, _, h4⟩
    · exact hl
    · unfold Lt at *; omega
  · by_cases e : i = c
    · subst e; exact fun q => q.asymm q
    · exact Lt.ntrans (h.least i h0 h1 h2 (by omega)) hl.asymm

theorem Kid.pass {ys : List (It Int)} {a c f : Nat} (h : Kid ys a c f) (hh : c ≤ 2 * a + 2) (hl : ¬ Lt (pt ys c) (pt ys f)) : Kid ys a (c + 1) f := by
  have hlo := h.lo
  refine ⟨by omega, by omega, h.lt, h.is, fun i h0 h1 h2 h3 => ?_⟩
  by_cases e : i = c
  · subst e; exact hl
  · exact h.least i h0 h1 h2 (by omega)

theorem Kid.all {ys : List (It Int)} {a c f : Nat} (h : Kid ys a c f) (hh : ¬ (c ≤ 2 * a + 2 ∧ c < ys.length)) : ∀ i, 0 < i → i < ys.length → (i - 1) / 2 = a → ¬ Lt (pt ys i) (pt ys f) := by
  intro i h0 h1 h2
  have := h.hi
  exact h.least i h0 h1 h2 (by omega)

theorem sinkEnd {w w1 w2 : World} {g b cap : Nat} {xs ys : List (It Int)} {n : Int} {q c f : Nat} (hlen : ys.length = xs.length) (hm : xs.length ≤ 6000000000000) (k1 : Kid ys q c f) (h1 : q < ys.length) (h4 : Down ys q) (h5 : ys.Perm xs) (k3 : Only w w1 b)
    (ha : ∀ i, 0 < i → i < ys.length → (i - 1) / 2 = q → ¬ Lt (pt ys i) (pt ys f)) (hfq : ¬ f = q) (hB : At w2 g b cap (swp ys q f) n) (hO : Only w1 w2 b) :
    ∃ (q' : Nat) (zs : List (It Int)), Value.int .i64 (f : Int) = .int .i64 q' ∧ q' < 6000000000000 ∧ Hid (q' < zs.length ∧ zs.length = xs.length ∧ At w2 g b cap zs n ∧ Only w w2 b ∧ Down zs q' ∧ zs.Perm xs) := by
  have hf := k1.lt
  rcases k1.is with e | ⟨e1, e2, e3⟩
  · exact absurd e hfq
  · exact ⟨f, swp ys q f, rfl, by omega, by simpa using hf, by simpa using hlen, hB, k3.trans hO, h4.sink e1 hf e2 e3 ha, (swp_perm h1 hf).trans h5⟩

theorem sinkLess {xs ys : List (It Int)} {q c f : Nat} (hlen : ys.length = xs.length) (k1 : Kid ys q c f) (hfq : ¬ f = q) : xs.length - f < xs.length - q := by
  have hf := k1.lt
  rcases k1.is with e | ⟨e1, e2, e3⟩
  · exact absurd e hfq
  · omega

set_option maxHeartbeats 1000000 in
theorem sink_at {w : World} {g b cap : Nat} {xs : List (It Int)} {n : Int} (h : At w g b cap xs n) (hm : xs.length ≤ 6000000000000) (hu : Down xs 0) (hp : 0 < xs.length) :
    Calls Try.prog 85 #[.pointer (some ⟨g, 0, none⟩), .int .i64 0] w fun e w' => e = .returned (.tuple #[]) ∧ ∃ ys, At w' g b cap ys n ∧ Only w w' b ∧ Tree ys ∧ ys.Perm xs := by
  have HU := hide hu
  clear hu
  go_enter Try.func85, Try.ntmps85
  go_wp2
  go_loopw [1] (fun a wr => ∃ (q : Nat) (ys : List (It Int)), a = .int .i64 q ∧ q < 6000000000000 ∧ Hid (q < ys.length ∧ ys.length = xs.length ∧ At wr g b cap ys n ∧ Only w wr b ∧ Down ys q ∧ ys.Perm xs)) (fun a _ => xs.length - (intOf a).toNat)
  case atStart => exact ⟨0, xs, rfl, by omega, hp, rfl, h, Only.refl _ _, HU.out, List.Perm.refl _⟩
  case round =>
    obtain ⟨q, ys, rfl, hq, HR⟩ := hrel
    obtain ⟨h1, hlen, h2, h3, h4, h5⟩ := HR.out
    have HL := hide hlen
    clear hlen
    have hy : (ys.length : Int) ≤ 6000000000000 := by have := HL.out; omega
    go_wp2
    go_loopw [4, 5] (fun fv cv wr => ∃ (f c : Nat), fv = .int .i64 f ∧ cv = .int .i64 c ∧ f < 20000000000000 ∧ c < 20000000000000 ∧ Hid (Kid ys q c f ∧ At wr g b cap ys n ∧ Only w wr b)) (fun _ cv _ => 2 * q + 3 - (intOf cv).toNat)
    case atStart => exact ⟨q, 2 * q + 1, rfl, by go_num, by omega, by omega, Kid.start h1, h2, h3⟩
    case round =>
      obtain ⟨f, c, rfl, rfl, hf, hc, HK⟩ := hrel
      obtain ⟨k1, k2, k3⟩ := HK.out
      have k0 := k2.h0
      by_cases hcc : c ≤ 2 * q + 2
      · have hcc' : (c : Int) ≤ 2 * q + 2 := by omega
        by_cases hcl : c < ys.length
        · have hcl' : (c : Int) < (ys.length : Int) := by omega
          have hA := ahead_at k2 hcl k1.lt
          by_cases hl : Lt (pt ys c) (pt ys f)
          · rw [decide_eq_true hl] at hA
            go_wp2_with fail
            refine hA.mono ?_
            rintro e w1 ⟨rfl, k, rfl⟩
            go_wp2
            go_roundw
            case rel => exact ⟨c, c + 1, rfl, by go_num, hc, by omega, k1.take hcl hcc hl, k2.drewN k, k3.drewN k⟩
            case measure => simp [intOf]; omega
          · rw [decide_eq_false hl] at hA
            go_wp2_with fail
            refine hA.mono ?_
            rintro e w1 ⟨rfl, k, rfl⟩
            go_wp2
            go_roundw
            case rel => exact ⟨f, c + 1, rfl, by go_num, hf, by omega, k1.pass hcc hl, k2.drewN k, k3.drewN k⟩
            case measure => simp [intOf]; omega
        · have hcl' : ¬ (c : Int) < (ys.length : Int) := by omega
          have HA := hide (k1.all (by omega))
          clear hcl
          by_cases hfq : f = q
          · subst hfq
            go_wp2
            refine bodyPost_ret (results_none rfl _ _ _) rfl ?_
            exact ⟨rfl, ys, k2, k3, h4.stay HA.out, h5⟩
          · have hfq' : ¬ (f : Int) = (q : Int) := by omega
            go_wp2_with fail
            refine (swap_at k2 h1 k1.lt (fun e => hfq e.symm)).mono ?_
            rintro e w2 ⟨rfl, hB, hO⟩
            go_wp2
            go_roundw
            case rel => exact sinkEnd HL.out hm k1 h1 h4 h5 k3 HA.out hfq hB hO
            case measure => simp [intOf]; exact sinkLess HL.out k1 hfq
      · have hcc' : ¬ (c : Int) ≤ 2 * q + 2 := by omega
        have HA := hide (k1.all (by omega))
        clear hcc
        by_cases hfq : f = q
        · subst hfq
          go_wp2
          refine bodyPost_ret (results_none rfl _ _ _) rfl ?_
          exact ⟨rfl, ys, k2, k3, h4.stay HA.out, h5⟩
        · have hfq' : ¬ (f : Int) = (q : Int) := by omega
          go_wp2_with fail
          refine (swap_at k2 h1 k1.lt (fun e => hfq e.symm)).mono ?_
          rintro e w2 ⟨rfl, hB, hO⟩
          go_wp2
          go_roundw
          case rel => exact sinkEnd HL.out hm k1 h1 h4 h5 k3 HA.out hfq hB hO
          case measure => simp [intOf]; exact sinkLess HL.out k1 hfq

set_option maxHeartbeats 1000000 in
theorem sink_nil {w : World} {g b cap : Nat} {n : Int} (h : At w g b cap [] n) :
    Calls Try.prog 85 #[.pointer (some ⟨g, 0, none⟩), .int .i64 0] w fun e w' => e = .returned (.tuple #[]) ∧ w' = w := by
  have h0 : w.cell? ⟨g, 0, none⟩ = some (.slice (some ⟨b, 0, none⟩) 0 cap) := h.h0
  go_enter Try.func85, Try.ntmps85
  go_wp2
  go_loopw [1] (fun a wr => a = .int .i64 0 ∧ wr = w) (fun _ _ => 0)
  case atStart => exact ⟨rfl, rfl⟩
  case round =>
    obtain ⟨rfl, rfl⟩ := hrel
    go_wp2
    go_loopw [4, 5] (fun fv cv wr' => fv = .int .i64 0 ∧ cv = .int .i64 1 ∧ wr' = wr) (fun _ _ _ => 0)
    case atStart => exact ⟨rfl, rfl, rfl⟩
    case round =>
      obtain ⟨rfl, rfl, rfl⟩ := hrel
      go_wp2
      refine bodyPost_ret (results_none rfl _ _ _) rfl ?_
      exact ⟨rfl, rfl⟩

end Go.Proofs.Ytgengoffkoonfab.H4
