import Derived.Test.YtjhgjohnfkgleaaPdrop
import Derived.Test.YtjhgjohnfkgleaaHpop
namespace Go.Proofs.Ytjhgjohnfkgleaa
namespace Pp
open Go.RowKit Go.Maps
set_option maxRecDepth 20000

/-- A heap of the program: what was put in and not yet taken, in the order of putting in; the next turn. -/
structure Hq (w : World) (K : Nat → Nat) (g : Nat) (R : List (It Int)) (n : Nat) : Prop where
  is : (R = [] ∧ n = 0 ∧ w.heap[g]? = some (.cells #[.slice none 0 0, .int .i64 0] 60 (0, 0))) ∨ ∃ b cap xs, At w g b cap xs n ∧ Holds xs R n ∧ K b ≠ 0
  kg : K g ≠ 0
  sup : ∀ k, K k ≠ 0 → k < w.heap.size

theorem Hq.far {w w' : World} {K : Nat → Nat} {g : Nat} {R : List (It Int)} {n : Nat} (h : Hq w K g R n) (hs : w.heap.size ≤ w'.heap.size) (hb : ∀ k, K k ≠ 0 → w'.heap[k]? = w.heap[k]?) : Hq w' K g R n := by
  refine ⟨?_, h.kg, fun k hk => Nat.lt_of_lt_of_le (h.sup k hk) hs⟩
  rcases h.is with ⟨a, b, c⟩ | ⟨b, cap, xs, a, c, d⟩
  · exact .inl ⟨a, b, (hb g h.kg).trans c⟩
  · exact .inr ⟨b, cap, xs, a.move (hb g h.kg) (hb b d), c, d⟩

theorem new_any (w : World) : Calls Try.prog 9 #[] w fun e w' => e = .returned (.pointer (some ⟨w.heap.size, 0, none⟩)) ∧ w' = w.alloc (.cells #[.slice none 0 0, .int .i64 0] 60) := by
  go_enter Try.func9, Try.ntmps9
  go_wp2
  go_ret
  exact ⟨rfl, rfl⟩

theorem len_any {w : World} {K : Nat → Nat} {g : Nat} {R : List (It Int)} {n : Nat} (h : Hq w K g R n) : Calls Try.prog 11 #[.pointer (some ⟨g, 0, none⟩)] w fun e w' => e = .returned (.int .i64 R.length) ∧ w' = w := by
  rcases h.is with ⟨rfl, rfl, c⟩ | ⟨b, cap, xs, a, c, d⟩
  · have h0 : w.cell? ⟨g, 0, none⟩ = some (.slice none 0 0) := cellOf c rfl
    go_enter Try.func11, Try.ntmps11
    go_wp2
    go_ret
    exact ⟨rfl, rfl⟩
  · have h0 := a.h0
    rw [c.len] at h0
    go_enter Try.func11, Try.ntmps11
    go_wp2
    go_ret
    exact ⟨rfl, rfl⟩

theorem results3 {P : Program} {fn : Func} {t p u : Tmp} {ty : TypeId} (h : fn.results = #[.tmp t, .cell p ty, .tmp u]) (tmps : Array Value) (w : World) (g : Nat) (t' : TypeId) (cs : Array Value) (fr : Nat × Nat) (d : TypeDesc)
    (hp : tmps.getD p undef = .pointer (some ⟨g, 0, none⟩)) (hg : w.heap[g]? = some (.cells cs t' fr))
    (hu : P.underlying ty = some d) (hd : (match d with | .struct _ | .array _ _ => true | _ => false) = true) (hi : (P.info? ty).map (·.size) = some cs.size) :
    (results fn tmps).run P w = .ok (.tuple #[tmps.getD t undef, .agg cs, tmps.getD u undef]) w := by
  have hp' : tmps[p]?.getD undef = .pointer (some ⟨g, 0, none⟩) := by simpa using hp
  simp [results, h, hp', asAddr, run_loadVar_row w g t' ty cs fr d hg hu hd hi]

theorem sizePair : (Try.prog.info? 26).map (·.size) = some 2 := by kernel_rfl

/-- The pair that is told. -/
def pkS (R : List (It Int)) : ByteArray := if R = [] then ByteArray.empty else NM

theorem Hq.below {w w' : World} {K : Nat → Nat} {g : Nat} {R : List (It Int)} {n : Nat} (h : Hq w K g R n) (hb : Below w.heap.size w w') : Hq w' K g R n := h.far hb.size fun k hk => hb.block k (h.sup k hk)

theorem peek_any {w : World} {K : Nat → Nat} {g : Nat} {R : List (It Int)} {n : Nat} (h : Hq w K g R n) : Calls Try.prog 12 #[.pointer (some ⟨g, 0, none⟩)] w fun e w' => e = .returned (.tuple #[.int .i64 (pkK R), .agg #[.string (pkS R), .int .i64 (pkV R)], .bool (pkB R)]) ∧ Below w.heap.size w w' := by
  have hb1 : Below w.heap.size w (w.alloc (.cells #[.string ByteArray.empty, .int .i64 0] 26)) := (Below.refl _ _).alloc (Nat.le_refl _) _
  have h1 := h.below hb1
  have hL := len_any h1
  by_cases hR : R = []
  · subst hR
    go_enter Try.func12, Try.ntmps12
    go_wp2_with fail
    refine hL.mono ?_
    rintro e w1 ⟨rfl, rfl⟩
    go_wp2
    go_region
    go_wp2
    (try simp only [Exit.inBlock, Exit.then])
    refine bodyPost_ret (results3 rfl _ _ w.heap.size 26 #[.string ByteArray.empty, .int .i64 0] (0, 0) _ rfl ?_ Try.underlying26 rfl sizePair) rfl ?_
    · exact (Below.heap_alloc _ _ _ (by rw [size_alloc']; omega)).trans (heap_alloc_new w _)
    · refine ⟨rfl, ?_⟩
      have q := hb1.alloc (by rw [size_alloc']; omega) (.cells #[.string ByteArray.empty, .int .i64 0] 26)
      exact ⟨q.os, q.tape, q.output, q.size, q.block⟩
  · rcases h1.is with ⟨a, b, c⟩ | ⟨b, cap, xs, a, c, d⟩
    · exact absurd a hR
    · have hpos : 0 < R.length := List.length_pos_iff.2 hR
      have h0 := a.h0
      obtain ⟨c1, c2, c3, c4⟩ := a.cells (i := 0) (by rw [c.len]; exact hpos)
      simp only [Nat.zero_mul, Nat.zero_add] at c1 c2 c3 c4
      rw [c.first hpos] at c1 c2 c4
      rw [c.len] at h0
      have HK := hide (show pkK R = (pt R (fstTo R R.length)).key by unfold pkK; rw [if_neg hR])
      have HV := hide (show pkV R = (pt R (fstTo R R.length)).val by unfold pkV; rw [if_neg hR])
      have HB := hide (show pkB R = true by simp [pkB, hR])
      have HN := hide (show pkS R = NM by simp [pkS, hR])
      obtain ⟨x, hx⟩ : ∃ x, pt R (fstTo R R.length) = x := ⟨_, rfl⟩
      rw [hx] at c1 c2 c4 HK HV
      have h1' : ¬ (R.length : Int) = 0 := by omega
      clear hx hR
      go_enter Try.func12, Try.ntmps12
      go_wp2_with fail
      refine hL.mono ?_
      rintro e w1 ⟨rfl, rfl⟩
      go_wp2
      go_region
      go_wp2
      (try simp only [Exit.inBlock, Exit.then])
      refine bodyPost_ret (results3 rfl _ _ w.heap.size 26 #[.string NM, .int .i64 x.val] (0, 0) _ rfl ?_ Try.underlying26 rfl sizePair) rfl ?_
      · exact heap_alloc_new w _
      · refine ⟨by rw [HK.out, HV.out, HB.out, HN.out]; rfl, ?_⟩
        have q := (Below.refl w.heap.size w).alloc (Nat.le_refl _) (.cells #[.string NM, .int .i64 x.val] 26)
        exact ⟨q.os, q.tape, q.output, q.size, q.block⟩

/-- The head and the row, whether there is one yet or not. -/
theorem Hq.open {w : World} {K : Nat → Nat} {g : Nat} {R : List (It Int)} {n : Nat} (h : Hq w K g R n) : ∃ v xs, w.heap[g]? = some (.cells #[v, .int .i64 n] 60 (0, 0)) ∧ w.ownsRow 0 62 4 v xs.length (flatI xs) ∧ Holds xs R n ∧ v.ownBlock ≠ some g ∧ ∀ k, v.ownBlock = some k → K k ≠ 0 := by
  rcases h.is with ⟨rfl, rfl, c⟩ | ⟨b, cap, xs, a, c, d⟩
  · exact ⟨_, [], c, World.ownsRow_nil _ _ _ _, holds_nil, by simp [Value.ownBlock], fun k hk => by simp [Value.ownBlock] at hk⟩
  · obtain ⟨cur, q1, q2, q3⟩ := a.row
    refine ⟨_, xs, a.head, ⟨flatI_length xs, .inr ⟨b, cap, cur, rfl, Nat.zero_le _, q1, a.le, a.cap, q2, q3⟩⟩, c, ?_, fun k hk => ?_⟩
    · simp only [Value.ownBlock, ne_eq, Option.some.injEq]; exact fun e => a.ne e.symm
    · simp only [Value.ownBlock, Option.some.injEq] at hk; subst hk; exact d

end Pp
end Go.Proofs.Ytjhgjohnfkgleaa
