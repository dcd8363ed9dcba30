import Derived.Test.YtgengoffkoonfabQHdrop
import Derived.Test.YtgengoffkoonfabQRng
namespace Go.Proofs.Ytgengoffkoonfab.H4
open Go.RowKit Go.Maps
set_option maxRecDepth 20000

/-- What is not one's own stays. -/
structure Fr (K K' : Nat → Nat) (w w' : World) : Prop where
  os : w'.os = w.os
  tape : w'.tape = w.tape
  output : w'.output = w.output
  size : w.heap.size ≤ w'.heap.size
  block : ∀ k, k < w.heap.size → K k = 0 → w'.heap[k]? = w.heap[k]?
  role : ∀ k, k < w.heap.size → K' k = K k

theorem Fr.refl (K : Nat → Nat) (w : World) : Fr K K w w := ⟨rfl, rfl, rfl, Nat.le_refl _, fun _ _ _ => rfl, fun _ _ => rfl⟩

theorem Fr.trans {K K' K'' : Nat → Nat} {a b c : World} (h : Fr K K' a b) (k : Fr K' K'' b c) : Fr K K'' a c :=
  ⟨k.os.trans h.os, k.tape.trans h.tape, k.output.trans h.output, Nat.le_trans h.size k.size,
   fun i hi h0 => (k.block i (Nat.lt_of_lt_of_le hi h.size) (by rw [h.role i hi]; exact h0)).trans (h.block i hi h0),
   fun i hi => (k.role i (Nat.lt_of_lt_of_le hi h.size)).trans (h.role i hi)⟩

theorem Fr.of_below {K : Nat → Nat} {w w' : World} (h : Below w.heap.size w w') : Fr K K w w' :=
  ⟨h.os, h.tape, h.output, h.size, fun k hk _ => h.block k hk, fun _ _ => rfl⟩

theorem Fr.below {K K' : Nat → Nat} {w w' : World} {B : Nat} (h : Fr K K' w w') (hu : ∀ k, K k ≠ 0 → B ≤ k) (hB : B ≤ w.heap.size) : Below B w w' :=
  ⟨h.os, h.tape, h.output, h.size, fun k hk => h.block k (by omega) (by
    by_cases hz : K k = 0
    · exact hz
    · have := hu k hz; omega)⟩

theorem Fr.up {K K' : Nat → Nat} {w w' : World} {B : Nat} (h : Fr K K' w w') (hu : ∀ k, K k ≠ 0 → B ≤ k) (hB : B ≤ w.heap.size) : ∀ k, K' k ≠ 0 → B ≤ k := by
  intro k hk
  by_cases hl : k < w.heap.size
  · exact hu k (by rw [← h.role k hl]; exact hk)
  · omega

theorem Fr.drewN {K K' : Nat → Nat} {w w' : World} (h : Fr K K' w w') (n : Nat) : Fr K K' w (w'.drewN n) := ⟨h.os, h.tape, h.output, h.size, h.block, h.role⟩

/-- A heap of the program: what was put in and not yet taken, in the order of putting in; the next turn. -/
structure Hq (w : World) (K : Nat → Nat) (g : Nat) (R : List (It Int)) (n : Nat) : Prop where
  is : (R = [] ∧ n = 0 ∧ w.heap[g]? = some (.cells #[.slice none 0 0, .int .i64 0] 123 (0, 0))) ∨ ∃ b cap xs, At w g b cap xs n ∧ Holds xs R n ∧ K b ≠ 0
  kg : K g ≠ 0
  sup : ∀ k, K k ≠ 0 → k < w.heap.size

theorem Hq.far {w w' : World} {K : Nat → Nat} {g : Nat} {R : List (It Int)} {n : Nat} (h : Hq w K g R n) (hs : w.heap.size ≤ w'.heap.size) (hb : ∀ k, K k ≠ 0 → w'.heap[k]? = w.heap[k]?) : Hq w' K g R n := by
  refine ⟨?_, h.kg, fun k hk => Nat.lt_of_lt_of_le (h.sup k hk) hs⟩
  rcases h.is with ⟨a, b, c⟩ | ⟨b, cap, xs, a, c, d⟩
  · exact .inl ⟨a, b, (hb g h.kg).trans c⟩
  · exact .inr ⟨b, cap, xs, a.move (hb g h.kg) (hb b d), c, d⟩

theorem holds_nil {n : Int} : Holds ([] : List (It Int)) [] n := ⟨fun i _ hi => by simp at hi, List.Perm.refl _, fun i j _ hj => by simp at hj, fun i hi => by simp at hi⟩

theorem new_any (w : World) : Calls Try.prog 59 #[] w fun e w' => e = .returned (.pointer (some ⟨w.heap.size, 0, none⟩)) ∧ w' = w.alloc (.cells #[.slice none 0 0, .int .i64 0] 123) := by
  go_enter Try.func59, Try.ntmps59
  go_wp2
  go_ret
  exact ⟨rfl, rfl⟩

theorem len_any {w : World} {K : Nat → Nat} {g : Nat} {R : List (It Int)} {n : Nat} (h : Hq w K g R n) : Calls Try.prog 61 #[.pointer (some ⟨g, 0, none⟩)] w fun e w' => e = .returned (.int .i64 R.length) ∧ w' = w := by
  rcases h.is with ⟨rfl, rfl, c⟩ | ⟨b, cap, xs, a, c, d⟩
  · have h0 : w.cell? ⟨g, 0, none⟩ = some (.slice none 0 0) := cellOf c rfl
    go_enter Try.func61, Try.ntmps61
    go_wp2
    go_ret
    exact ⟨rfl, rfl⟩
  · have h0 := a.h0
    rw [c.len] at h0
    go_enter Try.func61, Try.ntmps61
    go_wp2
    go_ret
    exact ⟨rfl, rfl⟩

def pkK (R : List (It Int)) : Int := if R = [] then 0 else (pt R (fstTo R R.length)).key
def pkV (R : List (It Int)) : Int := if R = [] then 0 else (pt R (fstTo R R.length)).val
def pkB (R : List (It Int)) : Bool := decide (R ≠ [])
def rest (R : List (It Int)) : List (It Int) := R.eraseIdx (fstTo R R.length)

theorem peek_any {w : World} {K : Nat → Nat} {g : Nat} {R : List (It Int)} {n : Nat} (h : Hq w K g R n) : Calls Try.prog 79 #[.pointer (some ⟨g, 0, none⟩)] w fun e w' => e = .returned (.tuple #[.int .i64 (pkK R), .int .i64 (pkV R), .bool (pkB R)]) ∧ ∃ n, w' = w.drewN n := by
  have hL := len_any h
  by_cases hR : R = []
  · subst hR
    go_enter Try.func79, Try.ntmps79
    go_wp2_with fail
    refine hL.mono ?_
    rintro e w1 ⟨rfl, rfl⟩
    go_wp2
    go_ret3
    exact ⟨by simp [pkK, pkV, pkB], 0, rfl⟩
  · rcases h.is with ⟨a, b, c⟩ | ⟨b, cap, xs, a, c, d⟩
    · exact absurd a hR
    · have hpos : 0 < R.length := List.length_pos_iff.2 hR
      have h0 := a.h0
      obtain ⟨c1, c2, c3⟩ := a.cells (i := 0) (by rw [c.len]; exact hpos)
      simp only [Nat.zero_mul, Nat.zero_add] at c1 c2 c3
      rw [c.first hpos] at c1 c2 c3
      rw [c.len] at h0
      have HK := hide (show pkK R = (pt R (fstTo R R.length)).key by unfold pkK; rw [if_neg hR])
      have HV := hide (show pkV R = (pt R (fstTo R R.length)).val by unfold pkV; rw [if_neg hR])
      have HB := hide (show pkB R = true by simp [pkB, hR])
      obtain ⟨x, hx⟩ : ∃ x, pt R (fstTo R R.length) = x := ⟨_, rfl⟩
      rw [hx] at c1 c2 c3 HK HV
      have h1 : ¬ (R.length : Int) = 0 := by omega
      clear hx hR
      go_enter Try.func79, Try.ntmps79
      go_wp2_with fail
      refine hL.mono ?_
      rintro e w1 ⟨rfl, rfl⟩
      go_wp2
      go_quiet (fail)
      go_wp2
      go_ret3
      exact ⟨by rw [HK.out, HV.out, HB.out]; rfl, _, rfl⟩

/-- The head and the row, whether there is one yet or not. -/
theorem Hq.open {w : World} {K : Nat → Nat} {g : Nat} {R : List (It Int)} {n : Nat} (h : Hq w K g R n) : ∃ v xs, w.heap[g]? = some (.cells #[v, .int .i64 n] 123 (0, 0)) ∧ w.ownsRow 0 125 3 v xs.length (flatI xs) ∧ Holds xs R n ∧ v.ownBlock ≠ some g ∧ ∀ k, v.ownBlock = some k → K k ≠ 0 := by
  rcases h.is with ⟨rfl, rfl, c⟩ | ⟨b, cap, xs, a, c, d⟩
  · exact ⟨_, [], c, World.ownsRow_nil _ _ _ _, holds_nil, by simp [Value.ownBlock], fun k hk => by simp [Value.ownBlock] at hk⟩
  · obtain ⟨cur, q1, q2, q3⟩ := a.row
    refine ⟨_, xs, a.head, ⟨flatI_length xs, .inr ⟨b, cap, cur, rfl, Nat.zero_le _, q1, a.le, a.cap, q2, q3⟩⟩, c, ?_, fun k hk => ?_⟩
    · simp only [Value.ownBlock, ne_eq, Option.some.injEq]; exact fun e => a.ne e.symm
    · simp only [Value.ownBlock, Option.some.injEq] at hk; subst hk; exact d

end Go.Proofs.Ytgengoffkoonfab.H4
