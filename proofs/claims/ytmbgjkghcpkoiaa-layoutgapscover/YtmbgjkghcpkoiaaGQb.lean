import Derived.Test.YtmbgjkghcpkoiaaGQa
namespace Go.Proofs.Ytmbgjkghcpkoiaa.H4
open Go.RowKit Go.Maps
set_option maxRecDepth 20000

set_option maxHeartbeats 1000000 in
theorem rise_at {w : World} {g b cap : Nat} {xs : List (It Int)} {n : Int} (h : At w g b cap xs n) (p : Nat) (hp : p < xs.length) (hm : xs.length ≤ 6000000000000) (hu : Up xs p) :
    Calls Try.prog 24 #[.pointer (some ⟨g, 0, none⟩), .int .i64 p] w fun e w' => e = .returned (.tuple #[]) ∧ ∃ ys, At w' g b cap ys n ∧ Only w w' b ∧ Tree ys ∧ ys.Perm xs := by
  have HU := hide hu
  clear hu
  go_enter Try.func24, Try.ntmps24
  go_wp2
  go_loopw [1] (fun a wr => ∃ (q : Nat) (ys : List (It Int)), a = .int .i64 q ∧ q < 6000000000000 ∧ Hid (q < ys.length ∧ At wr g b cap ys n ∧ Only w wr b ∧ Up ys q ∧ ys.Perm xs)) (fun a _ => (intOf a).toNat)
  case atStart => exact ⟨p, xs, rfl, by omega, hp, h, Only.refl _ _, HU.out, List.Perm.refl _⟩
  case round =>
    obtain ⟨q, ys, rfl, hq, HR⟩ := hrel
    obtain ⟨h1, h2, h3, h4, h5⟩ := HR.out
    by_cases h0 : 0 < q
    · have e0 : ((q : Int) - 1) / 2 = (((q - 1) / 2 : Nat) : Int) := by omega
      obtain ⟨r, hr⟩ : ∃ r, r = (q - 1) / 2 := ⟨_, rfl⟩
      rw [← hr] at e0
      have hrl : r < ys.length := by omega
      have hA := ahead_at h2 h1 hrl
      have HQ := hide hr
      clear hr
      by_cases hl : Lt (pt ys q) (pt ys r)
      · rw [decide_eq_true hl] at hA
        go_wp2_with fail
        refine hA.mono ?_
        rintro e w1 ⟨rfl, k, rfl⟩
        go_wp2_with fail
        refine (swap_at (h2.drewN k) h1 hrl (by have := HQ.out; omega)).mono ?_
        rintro e w2 ⟨rfl, hB, hO⟩
        go_wp2
        go_roundw
        case rel =>
          refine ⟨r, swp ys q r, rfl, by omega, by simpa using hrl, hB, (h3.drewN k).trans hO, ?_, (swp_perm h1 hrl).trans h5⟩
          have := HQ.out
          subst this
          exact h4.rise h0 h1 hl
        case measure => simp [intOf]; have := HQ.out; omega
      · rw [decide_eq_false hl] at hA
        go_wp2_with fail
        refine hA.mono ?_
        rintro e w1 ⟨rfl, k, rfl⟩
        go_wp2
        refine bodyPost_ret (results_none rfl _ _ _) rfl ?_
        have := HQ.out
        subst this
        exact ⟨rfl, ys, h2.drewN k, h3.drewN k, h4.stay hl, h5⟩
    · obtain rfl : q = 0 := by omega
      go_wp2
      (try simp only [Exit.inBlock, Exit.then]); refine bodyPost_end (results_none rfl _ _ _) rfl ?_
      exact ⟨rfl, ys, h2, h3, h4.top, h5⟩

end Go.Proofs.Ytmbgjkghcpkoiaa.H4

namespace Go.Proofs.Ytmbgjkghcpkoiaa.H4
open Go.RowKit Go.Maps
set_option maxRecDepth 20000

/-- Which child is looked at, and which was the first so far. -/
structure Kid (ys : List (It Int)) (a c f : Nat) : Prop where
  lo : 2 * a + 1 ≤ c
  hi : c ≤ 2 * a + 3
  lt : f < ys.length
  is : f = a ∨ 0 < f ∧ (f - 1) / 2 = a ∧ Lt (pt ys f) (pt ys a)
  least : ∀ i, 0 < i → i < ys.length → (i - 1) / 2 = a → i < c → ¬ Lt (pt ys i) (pt ys f)

theorem Kid.start {ys : List (It Int)} {a : Nat} (h : a < ys.length) : Kid ys a (2 * a + 1) a :=
  ⟨Nat.le_refl _, by omega, h, .inl rfl, fun i h0 _ h1 h2 => by omega⟩

theorem Kid.take {ys : List (It Int)} {a c f : Nat} (h : Kid ys a c f) (hc : c < ys.length) (hh : c ≤ 2 * a + 2) (hl : Lt (pt ys c) (pt ys f)) : Kid ys a (c + 1) c := by
  have hlo := h.lo
  refine ⟨by omega, by omega, hc, .inr ⟨by omega, by omega, ?_⟩, fun i h0 h1 h2 h3 => ?_⟩
  · rcases h.is with rfl | ⟨_, _, h4⟩
    · exact hl
    · unfold Lt at *; omega
  · by_cases e : i = c
    · subst e; exact fun q => q.asymm q
    · exact Lt.ntrans (h.least i h0 h1 h2 (by omega)) hl.asymm

theorem Kid.pass {ys : List (It Int)} {a c f : Nat} (h : Kid ys a c f) (hh : c ≤ 2 * a + 2) (hl : ¬ Lt (pt ys c) (pt ys f)) : Kid ys a (c + 1) f := by
  have hlo := h.lo
  refine ⟨by omega, by omega, h.lt, h.is, fun i h0 h1 h2 h3 => ?_⟩
  by_cases e : i = c
  · subst e; exact hl
  · exact h.least i h0 h1 h2 (by omega)

theorem Kid.all {ys : List (It Int)} {a c f : Nat} (h : Kid ys a c f) (hh : ¬ (c ≤ 2 * a + 2 ∧ c < ys.length)) : ∀ i, 0 < i → i < ys.length → (i - 1) / 2 = a → ¬ Lt (pt ys i) (pt ys f) := by
  intro i h0 h1 h2
  have := h.hi
  exact h.least i h0 h1 h2 (by omega)

theorem sinkEnd {w w1 w2 : World} {g b cap : Nat} {xs ys : List (It Int)} {n : Int} {q c f : Nat} (hlen : ys.length = xs.length) (hm : xs.length ≤ 6000000000000) (k1 : Kid ys q c f) (h1 : q < ys.length) (h4 : Down ys q) (h5 : ys.Perm xs) (k3 : Only w w1 b)
    (ha : ∀ i, 0 < i → i < ys.length → (i - 1) / 2 = q → ¬ Lt (pt ys i) (pt ys f)) (hfq : ¬ f = q) (hB : At w2 g b cap (swp ys q f) n) (hO : Only w1 w2 b) :
    ∃ (q' : Nat) (zs : List (It Int)), Value.int .i64 (f : Int) = .int .i64 q' ∧ q' < 6000000000000 ∧ Hid (q' < zs.length ∧ zs.length = xs.length ∧ At w2 g b cap zs n ∧ Only w w2 b ∧ Down zs q' ∧ zs.Perm xs) := by
  have hf := k1.lt
  rcases k1.is with e | ⟨e1, e2, e3⟩
  · exact absurd e hfq
  · exact ⟨f, swp ys q f, rfl, by omega, by simpa using hf, by simpa using hlen, hB, k3.trans hO, h4.sink e1 hf e2 e3 ha, (swp_perm h1 hf).trans h5⟩

theorem sinkLess {xs ys : List (It Int)} {q c f : Nat} (hlen : ys.length = xs.length) (k1 : Kid ys q c f) (hfq : ¬ f = q) : xs.length - f < xs.length - q := by
  have hf := k1.lt
  rcases k1.is with e | ⟨e1, e2, e3⟩
  · exact absurd e hfq
  · omega

set_option maxHeartbeats 1000000 in
theorem sink_at {w : World} {g b cap : Nat} {xs : List (It Int)} {n : Int} (h : At w g b cap xs n) (hm : xs.length ≤ 6000000000000) (hu : Down xs 0) (hp : 0 < xs.length) :
    Calls Try.prog 33 #[.pointer (some ⟨g, 0, none⟩), .int .i64 0] w fun e w' => e = .returned (.tuple #[]) ∧ ∃ ys, At w' g b cap ys n ∧ Only w w' b ∧ Tree ys ∧ ys.Perm xs := by
  have HU := hide hu
  clear hu
  go_enter Try.func33, Try.ntmps33
  go_wp2
  go_loopw [1] (fun a wr => ∃ (q : Nat) (ys : List (It Int)), a = .int .i64 q ∧ q < 6000000000000 ∧ Hid (q < ys.length ∧ ys.length = xs.length ∧ At wr g b cap ys n ∧ Only w wr b ∧ Down ys q ∧ ys.Perm xs)) (fun a _ => xs.length - (intOf a).toNat)
  case atStart => exact ⟨0, xs, rfl, by omega, hp, rfl, h, Only.refl _ _, HU.out, List.Perm.refl _⟩
  case round =>
    obtain ⟨q, ys, rfl, hq, HR⟩ := hrel
    obtain ⟨h1, hlen, h2, h3, h4, h5⟩ := HR.out
    have HL := hide hlen
    clear hlen
    have hy : (ys.length : Int) ≤ 6000000000000 := by have := HL.out; omega
    go_wp2
    go_loopw [4, 5] (fun fv cv wr => ∃ (f c : Nat), fv = .int .i64 f ∧ cv = .int .i64 c ∧ f < 20000000000000 ∧ c < 20000000000000 ∧ Hid (Kid ys q c f ∧ At wr g b cap ys n ∧ Only w wr b)) (fun _ cv _ => 2 * q + 3 - (intOf cv).toNat)
    case atStart => exact ⟨q, 2 * q + 1, rfl, by go_num, by omega, by omega, Kid.start h1, h2, h3⟩
    case round =>
      obtain ⟨f, c, rfl, rfl, hf, hc, HK⟩ := hrel
      obtain ⟨k1, k2, k3⟩ := HK.out
      have k0 := k2.h0
      by_cases hcc : c ≤ 2 * q + 2
      · have hcc' : (c : Int) ≤ 2 * q + 2 := by omega
        by_cases hcl : c < ys.length
        · have hcl' : (c : Int) < (ys.length : Int) := by omega
          have hA := ahead_at k2 hcl k1.lt
          by_cases hl : Lt (pt ys c) (pt ys f)
          · rw [decide_eq_true hl] at hA
            go_wp2_with fail
            refine hA.mono ?_
            rintro e w1 ⟨rfl, k, rfl⟩
            go_wp2
            go_roundw
            case rel => exact ⟨c, c + 1, rfl, by go_num, hc, by omega, k1.take hcl hcc hl, k2.drewN k, k3.drewN k⟩
            case measure => simp [intOf]; omega
          · rw [decide_eq_false hl] at hA
            go_wp2_with fail
            refine hA.mono ?_
            rintro e w1 ⟨rfl, k, rfl⟩
            go_wp2
            go_roundw
            case rel => exact ⟨f, c + 1, rfl, by go_num, hf, by omega, k1.pass hcc hl, k2.drewN k, k3.drewN k⟩
            case measure => simp [intOf]; omega
        · have hcl' : ¬ (c : Int) < (ys.length : Int) := by omega
          have HA := hide (k1.all (by omega))
          clear hcl
          by_cases hfq : f = q
          · subst hfq
            go_wp2
            refine bodyPost_ret (results_none rfl _ _ _) rfl ?_
            exact ⟨rfl, ys, k2, k3, h4.stay HA.out, h5⟩
          · have hfq' : ¬ (f : Int) = (q : Int) := by omega
            go_wp2_with fail
            refine (swap_at k2 h1 k1.lt (fun e => hfq e.symm)).mono ?_
            rintro e w2 ⟨rfl, hB, hO⟩
            go_wp2
            go_roundw
            case rel => exact sinkEnd HL.out hm k1 h1 h4 h5 k3 HA.out hfq hB hO
            case measure => simp [intOf]; exact sinkLess HL.out k1 hfq
      · have hcc' : ¬ (c : Int) ≤ 2 * q + 2 := by omega
        have HA := hide (k1.all (by omega))
        clear hcc
        by_cases hfq : f = q
        · subst hfq
          go_wp2
          refine bodyPost_ret (results_none rfl _ _ _) rfl ?_
          exact ⟨rfl, ys, k2, k3, h4.stay HA.out, h5⟩
        · have hfq' : ¬ (f : Int) = (q : Int) := by omega
          go_wp2_with fail
          refine (swap_at k2 h1 k1.lt (fun e => hfq e.symm)).mono ?_
          rintro e w2 ⟨rfl, hB, hO⟩
          go_wp2
          go_roundw
          case rel => exact sinkEnd HL.out hm k1 h1 h4 h5 k3 HA.out hfq hB hO
          case measure => simp [intOf]; exact sinkLess HL.out k1 hfq

set_option maxHeartbeats 1000000 in
theorem sink_nil {w : World} {g b cap : Nat} {n : Int} (h : At w g b cap [] n) :
    Calls Try.prog 33 #[.pointer (some ⟨g, 0, none⟩), .int .i64 0] w fun e w' => e = .returned (.tuple #[]) ∧ w' = w := by
  have h0 : w.cell? ⟨g, 0, none⟩ = some (.slice (some ⟨b, 0, none⟩) 0 cap) := h.h0
  go_enter Try.func33, Try.ntmps33
  go_wp2
  go_loopw [1] (fun a wr => a = .int .i64 0 ∧ wr = w) (fun _ _ => 0)
  case atStart => exact ⟨rfl, rfl⟩
  case round =>
    obtain ⟨rfl, rfl⟩ := hrel
    go_wp2
    go_loopw [4, 5] (fun fv cv wr' => fv = .int .i64 0 ∧ cv = .int .i64 1 ∧ wr' = wr) (fun _ _ _ => 0)
    case atStart => exact ⟨rfl, rfl, rfl⟩
    case round =>
      obtain ⟨rfl, rfl, rfl⟩ := hrel
      go_wp2
      refine bodyPost_ret (results_none rfl _ _ _) rfl ?_
      exact ⟨rfl, rfl⟩

end Go.Proofs.Ytmbgjkghcpkoiaa.H4

namespace Go.Proofs.Ytmbgjkghcpkoiaa.H4
open Go.RowKit Go.Maps
set_option maxRecDepth 20000

theorem At.shrink {w : World} {g b cap : Nat} {xs : List (It Int)} {n : Int} (h : At w g b cap xs n) {m : Nat} (hm : m ≤ xs.length) :
    At (w.setCell ⟨g, 0, none⟩ (.slice (some ⟨b, 0, none⟩) m cap)) g b cap (xs.take m) n := by
  obtain ⟨cur, a, c, d⟩ := h.row
  have e : (xs.take m).length = m := by simp [hm]
  refine ⟨?_, ⟨cur, ?_, c, ?_⟩, by rw [e]; exact Nat.le_trans hm h.le, h.cap, h.ne⟩
  · rw [e, heap_setCell_at _ h.head]; rfl
  · rw [setCell_others _ _ _ _ _ (fun q => h.ne q.symm)]; exact a
  · rw [e, ← flatI_take, ← d, List.take_take, Nat.min_eq_left (by omega)]

/-- Only these two are written. -/
structure Only2 (w w' : World) (g b : Nat) : Prop where
  os : w'.os = w.os
  tape : w'.tape = w.tape
  output : w'.output = w.output
  size : w'.heap.size = w.heap.size
  block : ∀ k, k ≠ b → k ≠ g → w'.heap[k]? = w.heap[k]?

theorem Only2.of {w w' : World} {g b : Nat} (h : Only w w' b) : Only2 w w' g b := ⟨h.os, h.tape, h.output, h.size, fun k hk _ => h.block k hk⟩
theorem Only2.then {w w' w'' : World} {g b : Nat} (h : Only2 w w' g b) (k : Only w' w'' b) : Only2 w w'' g b := ⟨k.os.trans h.os, k.tape.trans h.tape, k.output.trans h.output, k.size.trans h.size, fun i hi hg => (k.block i hi).trans (h.block i hi hg)⟩
theorem Only2.set {a w : World} {g b : Nat} (h : Only2 a w g b) (o : Nat) (u : Value) : Only2 a (w.setCell ⟨g, o, none⟩ u) g b :=
  ⟨h.os, h.tape, h.output, (size_setCell _ _ _).trans h.size, fun i hi hg => (setCell_others _ _ _ _ i hg).trans (h.block i hi hg)⟩

def zeroI : It Int := ⟨0, 0, 0⟩

theorem cut_eq (xs : List (It Int)) : (((xs.set 0 (pt xs (xs.length - 1))).set (xs.length - 1) zeroI).take (xs.length - 1)) = cut xs := by
  unfold cut
  rw [List.take_set]
  exact List.set_eq_of_length_le (by simp)

theorem At.put0 {w : World} {g b cap : Nat} {xs : List (It Int)} {n : Int} (h : At w g b cap xs n) (hi : 0 < xs.length) (x : It Int) :
    At (((w.setCell ⟨b, 0, none⟩ (.int .i64 x.key)).setCell ⟨b, 1, none⟩ (.int .i64 x.turn)).setCell ⟨b, 2, none⟩ (.int .i64 x.val)).drew g b cap (xs.set 0 x) n := by
  have := (h.put hi x).drew
  simpa using this

set_option maxHeartbeats 1000000 in
theorem drop_at {w : World} {g b cap : Nat} {xs : List (It Int)} {n : Int} (h : At w g b cap xs n) (hp : 0 < xs.length) (hm : xs.length ≤ 6000000000000) (ht : Tree xs) :
    Calls Try.prog 31 #[.pointer (some ⟨g, 0, none⟩)] w fun e w' => e = .returned (.tuple #[]) ∧ ∃ ys, At w' g b cap ys n ∧ Only2 w w' g b ∧ Tree ys ∧ ys.Perm (cut xs) := by
  obtain ⟨m, hm1⟩ : ∃ m, xs.length = m + 1 := ⟨xs.length - 1, by omega⟩
  have h0 := h.h0
  have hle := h.le
  have hg := frozenOf (k := 0) h.head
  have hne := h.ne
  have hne' : ¬ b = g := fun e => hne e.symm
  obtain ⟨d1, d2, d3⟩ := h.cells (i := 0) hp
  obtain ⟨c1, c2, c3⟩ := h.cells (i := m) (by omega)
  simp only [Nat.zero_mul, Nat.zero_add] at d1 d2 d3
  have P1 := hide (h.put0 hp (pt xs m))
  obtain ⟨x, hx⟩ : ∃ x, pt xs m = x := ⟨_, rfl⟩
  obtain ⟨y, hy⟩ : ∃ y, pt xs 0 = y := ⟨_, rfl⟩
  rw [hx] at c1 c2 c3 P1
  rw [hy] at d1 d2 d3
  have HX := hide hx
  have HT := hide ht
  have HM := hide hm1
  have HA := hide h
  rw [hm1] at h0 hle hm
  have f1 := h.fr 0
  have f2 := h.fr 1
  have f3 := h.fr 2
  clear hx hy ht hm1 hp h
  go_enter Try.func31, Try.ntmps31
  go_wp2
  go_region
  obtain ⟨W1, hW1⟩ : ∃ W1, (((w.setCell { block := b, off := 0 } (Value.int IntKind.i64 x.key)).setCell { block := b, off := 1 } (Value.int IntKind.i64 x.turn)).setCell { block := b, off := 2 } (Value.int IntKind.i64 x.val)).drew = W1 := ⟨_, rfl⟩
  have O1 := hide ((((Only.refl w b).set 0 (.int .i64 x.key)).set 1 (.int .i64 x.turn)).set 2 (.int .i64 x.val)).drew
  rw [hW1] at O1 P1 ⊢
  have hA1 := P1.out
  have hl1 : (xs.set 0 x).length = m + 1 := by rw [List.length_set]; exact HM.out
  have e0 := hA1.h0
  rw [hl1] at e0
  obtain ⟨a1, a2, a3⟩ := hA1.cells (i := m) (by omega)
  have g1 := hA1.fr (m * 3)
  have g2 := hA1.fr (m * 3 + 1)
  have g3 := hA1.fr (m * 3 + 2)
  have g4 := frozenOf (k := 0) hA1.head
  have P2 := hide ((hA1.put (i := m) (by omega) zeroI).shrink (m := m) (by rw [List.length_set]; omega))
  clear hW1 h0 hg d1 d2 d3 c1 c2 c3 f1 f2 f3 hA1 hl1
  unfold zeroI at P2
  go_wp2_with fail
  have hL : ((xs.set 0 x).set m ⟨0, 0, 0⟩).take m = cut xs := by
    have := cut_eq xs
    rw [HM.out] at this
    simp only [Nat.add_sub_cancel] at this
    rw [HX.out] at this
    exact this
  have P3 := P2.out
  rw [hL] at P3
  have hlc : (cut xs).length = m := by rw [length_cut, HM.out]; rfl
  have O2 := (Only2.of (g := g) ((((O1.out).set (m * 3) (.int .i64 0)).set (m * 3 + 1) (.int .i64 0)).set (m * 3 + 2) (.int .i64 0))).set 0 (.slice (some ⟨b, 0, none⟩) m cap)
  by_cases hm0 : m = 0
  · have hcn : cut xs = [] := List.eq_nil_of_length_eq_zero (by omega)
    rw [hcn] at P3
    clear hm0
    refine (sink_nil P3).mono ?_
    rintro e w2 ⟨rfl, rfl⟩
    go_wp2
    (try simp only [Exit.inBlock, Exit.then]); refine bodyPost_end (results_none rfl _ _ _) rfl ?_
    exact ⟨rfl, [], P3, O2, (fun i _ hi => by simp at hi), by rw [hcn]⟩
  · refine (sink_at P3 (by omega) (down_cut HT.out) (by omega)).mono ?_
    rintro e w2 ⟨rfl, ys, q1, q2, q3, q4⟩
    go_wp2
    (try simp only [Exit.inBlock, Exit.then]); refine bodyPost_end (results_none rfl _ _ _) rfl ?_
    exact ⟨rfl, ys, q1, O2.then q2, q3, q4⟩

end Go.Proofs.Ytmbgjkghcpkoiaa.H4

