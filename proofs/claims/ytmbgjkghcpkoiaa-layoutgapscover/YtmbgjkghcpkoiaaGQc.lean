import Derived.Test.YtmbgjkghcpkoiaaRows
import Derived.RangeFuncNested
import Derived.RangeFuncBound
import Derived.RangeFuncCalls
import Derived.RangeFuncLeaves
import Derived.RangeFuncBox
import Derived.Test.YtmbgjkghcpkoiaaGQb
namespace Go.Proofs.Ytmbgjkghcpkoiaa.H4
open Go.RowKit
variable {F : Fence} {n : Nat} {P : Program}

theorem cellNew (W : World) (v : Value) (t : TypeId) : (W.alloc (.cells #[v] t)).cell? ⟨W.heap.size, 0, none⟩ = some v ∧ (W.alloc (.cells #[v] t)).frozen? ⟨W.heap.size, 0, none⟩ = false :=
  ⟨by rw [World.cell?_alloc_at _ _ _ _ rfl]; rfl, World.frozen?_alloc_at _ _ _ _ rfl⟩

theorem cellAlloc {W : World} {a : Addr} {v : Value} (o : Obj) (h : W.cell? a = some v) : (W.alloc o).cell? a = some v := cell_kept h (World.grownBy_alloc W o none) (fun r e => by cases e)

theorem frozenAlloc {W : World} {a : Addr} {v : Value} (o : Obj) (h : W.cell? a = some v) (hf : W.frozen? a = false) : (W.alloc o).frozen? a = false := (frozen_kept h (World.grownBy_alloc W o none) (fun r e => by cases e)).trans hf

theorem put_alloc (w : World) (o o' : Obj) : (w.alloc o).putObj w.heap.size o' = w.alloc o' := by
  have e : (w.heap.push o).setIfInBounds w.heap.size o' = w.heap.push o' := by
    apply Array.ext'
    simp [Array.toList_setIfInBounds]
  show { w with heap := (w.heap.push o).setIfInBounds w.heap.size o' } = { w with heap := w.heap.push o' }
  rw [e]

/-- How the body of a round may be left. -/
def roundEnd (I : Nat → Obj → World → Prop) (Ix : Code → Obj → World → Prop) (m : Nat) (o : Obj) : Exit → Act → World → Prop
  | .normal, _, W => ∃ m', m' < m ∧ I m' o W
  | .ret, _, W => Ix .ret o W
  | .exit id, _, W => Ix (.exit id) o W
  | .goto t, _, W => Ix (.goto t) o W
  | .panic _, _, _ => False
  | .outgrown, _, _ => False

/-- What holds of a world with the loop's record in it, whatever stands in the record. -/
structure Rec (l : Nat) (I : Obj → World → Prop) : Prop where
  get : ∀ o W, I o W → W.heap[l]? = some o
  put : ∀ o o' W, I o W → I o' (W.putObj l o')

/-- A loop over an iterator that may itself write memory, and whose body may write what the iterator reads. -/
theorem wp_range {α : Type} {g : Operand} {ps : Array Tmp} {assign body : Code} {Q : Exit → Act → World → Prop} {a : Act} {w : World} (m0 : Nat)
    (hro : F.round = none) (h1 : 1 ≤ n) {gf : Nat} {lb : Array Value} (hg : a.eval g = .func (.func gf) #[] lb) (hFg : F.fn gf) (eg : ∀ args w, (callFunc gf args).run P w = .ok (.enter gf args) w)
    {encs : α → Array Value} (hps : ∀ x, (encs x).size = ps.size)
    (I : Nat → Obj → World → Prop) (Iy : Nat → α → Obj → World → Prop) (Ie : Obj → World → Prop) (Ix : Code → Obj → World → Prop)
    (rI : ∀ m, Rec (w.heap.size + 1) (I m)) (ry : ∀ m x, Rec (w.heap.size + 1) (Iy m x)) (re : Rec (w.heap.size + 1) Ie) (rx : ∀ c, Rec (w.heap.size + 1) (Ix c))
    (h0 : ∀ o, I m0 o ((w.alloc (.deferred (some []))).alloc o))
    (hseq : ∀ (o : Obj) (Jx : World → Prop), (∀ m x W, Iy m x o W → YieldAt F (n - 1 - 1) P (w.heap.size + 1) (encs x) W fun e W' => (e = .returned (.bool true) ∧ ∃ m', m' < m ∧ I m' o W') ∨ (e = .returned (.bool false) ∧ Jx W')) →
      ∀ W, I m0 o W → CallsIn F (n - 1) P gf (#[.func (.yield (w.heap.size + 1)) #[] #[]] ++ lb) W fun e W' => (∃ v, e = .returned v) ∧ (Ie o W' ∨ Jx W'))
    (a₁ : α → Act)
    (hassign : ∀ (x : α) (W : World) (K : Act → World → Prop), K (a₁ x) W →
      assign.wpIn (F.inRound (w.heap.size + 1)) (n - 1 - 1) P (Exit.then K (fun _ _ _ => False)) { tmps := (ps.zip (encs x)).foldl (fun t (p, v) => t.setIfInBounds p v) a.tmps, defers := [] } W)
    (hbody : ∀ m x o W, Iy m x o W → body.wpIn (F.inRound (w.heap.size + 1)) (n - 1 - 1) P (roundEnd I Ix m o) (a₁ x) W)
    (hdone : ∀ o W, Ie o W → Q .normal { a with defers := { target := .collected w.heap.size, args := #[] } :: a.defers } W)
    (hstop : ∀ c o W, Ix c o W → c.wpIn F n P Q { a with defers := { target := .collected w.heap.size, args := #[] } :: a.defers } W) :
    (Code.rangeFunc g ps assign body).wpIn F n P Q a w := by
  refine wpIn_rangeFunc ?_
  intro fn hfn
  rw [hro]
  obtain ⟨rec, hrec⟩ : ∃ rec : LoopState → Option Code → Loop, rec = fun st pe => { state := st, pending := pe, fn, tmps := a.tmps, params := ps, assign, body, defers := w.heap.size } := ⟨_, rfl⟩
  obtain ⟨W1, hW1⟩ : ∃ W1, (w.alloc (.deferred (some []))).alloc (.loop (rec .ready none)) = W1 := ⟨_, rfl⟩
  have hI1 : I m0 (.loop (rec .ready none)) W1 := by rw [← hW1]; exact h0 _
  refine ⟨w.heap.size + 1, [{ target := .collected w.heap.size, args := #[] }], W1, { target := .fn (.func gf) lb, args := #[.func (.yield (w.heap.size + 1)) #[] #[]] }, W1, gf,
    #[.func (.yield (w.heap.size + 1)) #[] #[]] ++ lb, W1, ?_, ?_, ?_, ?_, fun _ => h1, ?_⟩
  · rw [← hW1, hrec]; exact run_enterLoop_outer _ _ _ _ _
  · simp only [resolve, hg]
    simp [go_sem]
  · intro f' hf'; simp [Target.leads] at hf'; subst hf'; exact hFg
  · simp [invoke, go_sem, eg]
  · refine (hseq (.loop (rec .ready none)) (fun W => ∃ c, Ix c (.loop (rec .done (some c))) W) ?_ W1 hI1).mono ?_
    · rintro m x W hi
      have hl := (ry m x).get _ _ hi
      have hlt : w.heap.size + 1 < W.heap.size := (Array.getElem?_eq_some_iff.1 hl).1
      have hy := run_yield (P := P) (args := encs x) hl (by rw [hrec]; exact hps x)
      rw [hrec] at hy
      refine ⟨fn, _, assign, body, hy, roundIn_of_wpIn hfn (hassign x W _ ⟨_, run_beginRound hl (by rw [hrec]), ?_⟩)⟩
      refine wpIn_mono (hbody m x (.loop { rec .ready none with state := .busy }) _ ((ry m x).put _ _ _ hi)) ?_
      have fin : ∀ (jump : Option Code) (W3 : World), W3.heap[w.heap.size + 1]? = some (.loop { rec .ready none with state := .busy }) →
          (Instr.endRound (w.heap.size + 1) jump).run P W3 = .ok (.bool jump.isNone) (W3.putObj (w.heap.size + 1) (.loop (rec (if jump.isNone then .ready else .done) jump))) := fun jump W3 hl3 => by
        have := run_endRound (P := P) jump hl3
        rw [hrec] at this ⊢
        exact this
      rintro e a3 W3 hp
      cases e with
      | normal =>
        obtain ⟨m', hm', hi3⟩ := hp
        exact ⟨_, _, fin none W3 ((rI m').get _ _ hi3), .inl ⟨rfl, m', hm', (rI m').put _ _ _ hi3⟩⟩
      | ret => exact ⟨_, _, fin (some .ret) W3 ((rx _).get _ _ hp), .inr ⟨rfl, .ret, (rx _).put _ _ _ hp⟩⟩
      | exit id => exact ⟨_, _, fin (some (.exit id)) W3 ((rx _).get _ _ hp), .inr ⟨rfl, .exit id, (rx _).put _ _ _ hp⟩⟩
      | goto t => exact ⟨_, _, fin (some (.goto t)) W3 ((rx _).get _ _ hp), .inr ⟨rfl, .goto t, (rx _).put _ _ _ hp⟩⟩
      | panic ch => exact hp.elim
      | outgrown => exact hp.elim
    · rintro e W2 ⟨⟨v, rfl⟩, (hi | ⟨c, hi⟩)⟩
      · exact ⟨none, _, by have := run_endLoop (P := P) (re.get _ _ hi) (by rw [hrec]; simp); rw [hrec] at this; exact this, hdone _ _ (re.put _ _ _ hi)⟩
      · exact ⟨some c, _, by have := run_endLoop (P := P) ((rx c).get _ _ hi) (by rw [hrec]; simp); rw [hrec] at this; exact this, hstop c _ _ ((rx c).put _ _ _ hi)⟩

end Go.Proofs.Ytmbgjkghcpkoiaa.H4

namespace Go.Proofs.Ytmbgjkghcpkoiaa.H4
open Go.RowKit Go.Maps
set_option maxRecDepth 20000

/-- What is not one's own stays. -/
structure Fr (K K' : Nat → Nat) (w w' : World) : Prop where
  os : w'.os = w.os
  tape : w'.tape = w.tape
  output : w'.output = w.output
  size : w.heap.size ≤ w'.heap.size
  block : ∀ k, k < w.heap.size → K k = 0 → w'.heap[k]? = w.heap[k]?
  role : ∀ k, k < w.heap.size → K' k = K k

theorem Fr.refl (K : Nat → Nat) (w : World) : Fr K K w w := ⟨rfl, rfl, rfl, Nat.le_refl _, fun _ _ _ => rfl, fun _ _ => rfl⟩

theorem Fr.trans {K K' K'' : Nat → Nat} {a b c : World} (h : Fr K K' a b) (k : Fr K' K'' b c) : Fr K K'' a c :=
  ⟨k.os.trans h.os, k.tape.trans h.tape, k.output.trans h.output, Nat.le_trans h.size k.size,
   fun i hi h0 => (k.block i (Nat.lt_of_lt_of_le hi h.size) (by rw [h.role i hi]; exact h0)).trans (h.block i hi h0),
   fun i hi => (k.role i (Nat.lt_of_lt_of_le hi h.size)).trans (h.role i hi)⟩

theorem Fr.of_below {K : Nat → Nat} {w w' : World} (h : Below w.heap.size w w') : Fr K K w w' :=
  ⟨h.os, h.tape, h.output, h.size, fun k hk _ => h.block k hk, fun _ _ => rfl⟩

theorem Fr.below {K K' : Nat → Nat} {w w' : World} {B : Nat} (h : Fr K K' w w') (hu : ∀ k, K k ≠ 0 → B ≤ k) (hB : B ≤ w.heap.size) : Below B w w' :=
  ⟨h.os, h.tape, h.output, h.size, fun k hk => h.block k (by omega) (by
    by_cases hz : K k = 0
    · exact hz
    · have := hu k hz; omega)⟩

theorem Fr.up {K K' : Nat → Nat} {w w' : World} {B : Nat} (h : Fr K K' w w') (hu : ∀ k, K k ≠ 0 → B ≤ k) (hB : B ≤ w.heap.size) : ∀ k, K' k ≠ 0 → B ≤ k := by
  intro k hk
  by_cases hl : k < w.heap.size
  · exact hu k (by rw [← h.role k hl]; exact hk)
  · omega

theorem Fr.drewN {K K' : Nat → Nat} {w w' : World} (h : Fr K K' w w') (n : Nat) : Fr K K' w (w'.drewN n) := ⟨h.os, h.tape, h.output, h.size, h.block, h.role⟩

/-- A heap of the program: what was put in and not yet taken, in the order of putting in; the next turn. -/
structure Hq (w : World) (K : Nat → Nat) (g : Nat) (R : List (It Int)) (n : Nat) : Prop where
  is : (R = [] ∧ n = 0 ∧ w.heap[g]? = some (.cells #[.slice none 0 0, .int .i64 0] 59 (0, 0))) ∨ ∃ b cap xs, At w g b cap xs n ∧ Holds xs R n ∧ K b ≠ 0
  kg : K g ≠ 0
  sup : ∀ k, K k ≠ 0 → k < w.heap.size

theorem Hq.far {w w' : World} {K : Nat → Nat} {g : Nat} {R : List (It Int)} {n : Nat} (h : Hq w K g R n) (hs : w.heap.size ≤ w'.heap.size) (hb : ∀ k, K k ≠ 0 → w'.heap[k]? = w.heap[k]?) : Hq w' K g R n := by
  refine ⟨?_, h.kg, fun k hk => Nat.lt_of_lt_of_le (h.sup k hk) hs⟩
  rcases h.is with ⟨a, b, c⟩ | ⟨b, cap, xs, a, c, d⟩
  · exact .inl ⟨a, b, (hb g h.kg).trans c⟩
  · exact .inr ⟨b, cap, xs, a.move (hb g h.kg) (hb b d), c, d⟩

theorem holds_nil {n : Int} : Holds ([] : List (It Int)) [] n := ⟨fun i _ hi => by simp at hi, List.Perm.refl _, fun i j _ hj => by simp at hj, fun i hi => by simp at hi⟩

theorem new_any (w : World) : Calls Try.prog 20 #[] w fun e w' => e = .returned (.pointer (some ⟨w.heap.size, 0, none⟩)) ∧ w' = w.alloc (.cells #[.slice none 0 0, .int .i64 0] 59) := by
  go_enter Try.func20, Try.ntmps20
  go_wp2
  go_ret
  exact ⟨rfl, rfl⟩

theorem len_any {w : World} {K : Nat → Nat} {g : Nat} {R : List (It Int)} {n : Nat} (h : Hq w K g R n) : Calls Try.prog 32 #[.pointer (some ⟨g, 0, none⟩)] w fun e w' => e = .returned (.int .i64 R.length) ∧ w' = w := by
  rcases h.is with ⟨rfl, rfl, c⟩ | ⟨b, cap, xs, a, c, d⟩
  · have h0 : w.cell? ⟨g, 0, none⟩ = some (.slice none 0 0) := cellOf c rfl
    go_enter Try.func32, Try.ntmps32
    go_wp2
    go_ret
    exact ⟨rfl, rfl⟩
  · have h0 := a.h0
    rw [c.len] at h0
    go_enter Try.func32, Try.ntmps32
    go_wp2
    go_ret
    exact ⟨rfl, rfl⟩

def pkK (R : List (It Int)) : Int := if R = [] then 0 else (pt R (fstTo R R.length)).key
def pkV (R : List (It Int)) : Int := if R = [] then 0 else (pt R (fstTo R R.length)).val
def pkB (R : List (It Int)) : Bool := decide (R ≠ [])
def rest (R : List (It Int)) : List (It Int) := R.eraseIdx (fstTo R R.length)

theorem peek_any {w : World} {K : Nat → Nat} {g : Nat} {R : List (It Int)} {n : Nat} (h : Hq w K g R n) : Calls Try.prog 30 #[.pointer (some ⟨g, 0, none⟩)] w fun e w' => e = .returned (.tuple #[.int .i64 (pkK R), .int .i64 (pkV R), .bool (pkB R)]) ∧ ∃ n, w' = w.drewN n := by
  have hL := len_any h
  by_cases hR : R = []
  · subst hR
    go_enter Try.func30, Try.ntmps30
    go_wp2_with fail
    refine hL.mono ?_
    rintro e w1 ⟨rfl, rfl⟩
    go_wp2
    go_ret3
    exact ⟨by simp [pkK, pkV, pkB], 0, rfl⟩
  · rcases h.is with ⟨a, b, c⟩ | ⟨b, cap, xs, a, c, d⟩
    · exact absurd a hR
    · have hpos : 0 < R.length := List.length_pos_iff.2 hR
      have h0 := a.h0
      obtain ⟨c1, c2, c3⟩ := a.cells (i := 0) (by rw [c.len]; exact hpos)
      simp only [Nat.zero_mul, Nat.zero_add] at c1 c2 c3
      rw [c.first hpos] at c1 c2 c3
      rw [c.len] at h0
      have HK := hide (show pkK R = (pt R (fstTo R R.length)).key by unfold pkK; rw [if_neg hR])
      have HV := hide (show pkV R = (pt R (fstTo R R.length)).val by unfold pkV; rw [if_neg hR])
      have HB := hide (show pkB R = true by simp [pkB, hR])
      obtain ⟨x, hx⟩ : ∃ x, pt R (fstTo R R.length) = x := ⟨_, rfl⟩
      rw [hx] at c1 c2 c3 HK HV
      have h1 : ¬ (R.length : Int) = 0 := by omega
      clear hx hR
      go_enter Try.func30, Try.ntmps30
      go_wp2_with fail
      refine hL.mono ?_
      rintro e w1 ⟨rfl, rfl⟩
      go_wp2
      go_quiet (fail)
      go_wp2
      go_ret3
      exact ⟨by rw [HK.out, HV.out, HB.out]; rfl, _, rfl⟩

/-- The head and the row, whether there is one yet or not. -/
theorem Hq.open {w : World} {K : Nat → Nat} {g : Nat} {R : List (It Int)} {n : Nat} (h : Hq w K g R n) : ∃ v xs, w.heap[g]? = some (.cells #[v, .int .i64 n] 59 (0, 0)) ∧ w.ownsRow 0 61 3 v xs.length (flatI xs) ∧ Holds xs R n ∧ v.ownBlock ≠ some g ∧ ∀ k, v.ownBlock = some k → K k ≠ 0 := by
  rcases h.is with ⟨rfl, rfl, c⟩ | ⟨b, cap, xs, a, c, d⟩
  · exact ⟨_, [], c, World.ownsRow_nil _ _ _ _, holds_nil, by simp [Value.ownBlock], fun k hk => by simp [Value.ownBlock] at hk⟩
  · obtain ⟨cur, q1, q2, q3⟩ := a.row
    refine ⟨_, xs, a.head, ⟨flatI_length xs, .inr ⟨b, cap, cur, rfl, Nat.zero_le _, q1, a.le, a.cap, q2, q3⟩⟩, c, ?_, fun k hk => ?_⟩
    · simp only [Value.ownBlock, ne_eq, Option.some.injEq]; exact fun e => a.ne e.symm
    · simp only [Value.ownBlock, Option.some.injEq] at hk; subst hk; exact d

end Go.Proofs.Ytmbgjkghcpkoiaa.H4

namespace Go.Proofs.Ytmbgjkghcpkoiaa.H4
open Go.RowKit Go.Maps
set_option maxRecDepth 20000

theorem infoIt : (Try.prog.info? 61).map (fun i => (i.zero, i.size, i.bytes)) = some (some (.agg #[.int .i64 0, .int .i64 0, .int .i64 0]), 3, 24) := by kernel_rfl

theorem row_move {w w' : World} {base : Nat} {e : TypeId} {size : Nat} {v : Value} {n : Nat} {xs : List Value} (h : w.ownsRow base e size v n xs) (hb : ∀ k, v.ownBlock = some k → w'.heap[k]? = w.heap[k]?) : w'.ownsRow base e size v n xs := by
  refine ⟨h.1, ?_⟩
  rcases h.2 with h2 | ⟨g, cap, cur, rfl, h1, h2, r⟩
  · exact .inl h2
  · exact .inr ⟨g, cap, cur, rfl, h1, (hb g rfl).trans h2, r⟩

theorem row_shape {w : World} {base : Nat} {e : TypeId} {size : Nat} {v : Value} {n : Nat} {xs : List Value} (h : w.ownsRow base e size v n xs) : ∃ a c, v = .slice a n c := by
  rcases h.2 with ⟨rfl, rfl⟩ | ⟨g, cap, cur, rfl, _⟩
  · exact ⟨none, 0, rfl⟩
  · exact ⟨_, _, rfl⟩

theorem row_lt {w : World} {base : Nat} {e : TypeId} {size : Nat} {v : Value} {n : Nat} {xs : List Value} (h : w.ownsRow base e size v n xs) : ∀ k, v.ownBlock = some k → k < w.heap.size := fun k hk => (World.ownsRow.lt h k hk).2

theorem heap_lt {w : World} {g : Nat} {o : Obj} (h : w.heap[g]? = some o) : g < w.heap.size := (Array.getElem?_eq_some_iff.1 h).1

/-- What an append and the two stores leave. -/
theorem push_fin {w w6 : World} {K : Nat → Nat} {g gg cap6 : Nat} {R xs : List (It Int)} {n : Nat} {v : Value} {key val : Int} (h : Hq w K g R n) (hhead : w.heap[g]? = some (.cells #[v, .int .i64 n] 59 (0, 0))) (hng : v.ownBlock ≠ some g) (hkv : ∀ k, v.ownBlock = some k → K k ≠ 0)
    (hown : w6.ownsRow 0 61 3 (.slice (some ⟨gg, 0, none⟩) (xs.length + 1) cap6) (xs.length + 1) (flatI xs ++ [.int .i64 key, .int .i64 n, .int .i64 val]))
    (hgrow : (w.alloc (.cells #[.int .i64 key, .int .i64 n, .int .i64 val] 61)).grownBy w6 v.ownBlock) (hat : v.ownBlock = some gg ∨ gg = w.heap.size + 1) (hlt : gg < w6.heap.size) :
    At ((w6.setCell ⟨g, 0, none⟩ (.slice (some ⟨gg, 0, none⟩) (xs.length + 1) cap6)).setCell ⟨g, 1, none⟩ (.int .i64 ((n : Int) + 1))) g gg cap6 (xs ++ [⟨key, n, val⟩]) ((n : Int) + 1) ∧
    ∀ ys w7, At w7 g gg cap6 ys ((n : Int) + 1) → Only ((w6.setCell ⟨g, 0, none⟩ (.slice (some ⟨gg, 0, none⟩) (xs.length + 1) cap6)).setCell ⟨g, 1, none⟩ (.int .i64 ((n : Int) + 1))) w7 gg → Holds ys (R ++ [⟨key, n, val⟩]) ((n : Int) + 1) →
      ∃ K', Hq w7 K' g (R ++ [⟨key, n, val⟩]) (n + 1) ∧ Fr K K' w w7 := by
  have hgl := heap_lt hhead
  have hs := hgrow.size
  rw [size_alloc'] at hs
  have e6 : w6.heap[g]? = some (.cells #[v, .int .i64 n] 59 (0, 0)) := by
    rw [hgrow.block g (by rw [size_alloc']; omega) (fun e => hng e.symm), Below.heap_alloc _ _ g hgl]; exact hhead
  have hne : g ≠ gg := by
    rcases hat with e | e
    · intro e2; exact hng (by rw [e, e2])
    · omega
  have e7 : ((w6.setCell ⟨g, 0, none⟩ (.slice (some ⟨gg, 0, none⟩) (xs.length + 1) cap6)).setCell ⟨g, 1, none⟩ (.int .i64 ((n : Int) + 1))).heap[g]? = some (.cells #[.slice (some ⟨gg, 0, none⟩) (xs.length + 1) cap6, .int .i64 ((n : Int) + 1)] 59 (0, 0)) := by
    exact heap_setCell_at _ (heap_setCell_at _ e6)
  refine ⟨?_, fun ys w7 hA hO hH => ?_⟩
  · rcases hown.2 with ⟨c, _⟩ | ⟨g', cap, cur, c, _, q1, q2, q3, q4, q5⟩
    · cases c
    · simp only [Value.slice.injEq, Option.some.injEq, Addr.mk.injEq] at c
      obtain ⟨⟨rfl, -, -⟩, -, rfl⟩ := c
      refine ⟨by rw [e7, List.length_append]; rfl, ⟨cur, ?_, q4, ?_⟩, by rw [List.length_append]; exact q2, q3, hne⟩
      · rw [setCell_others _ _ _ _ _ (fun e => hne e.symm), setCell_others _ _ _ _ _ (fun e => hne e.symm)]
        exact q1
      · rw [List.length_append, flatI_snoc]; exact q5
  · have hsz : w7.heap.size = w6.heap.size := by rw [hO.size, size_setCell, size_setCell]
    refine ⟨fun k => if k < w.heap.size then K k else if k = gg then 1 else 0, ⟨.inr ⟨gg, cap6, ys, ?_, ?_, ?_⟩, ?_, fun k hk => ?_⟩, ⟨hO.os.trans hgrow.os, hO.tape.trans hgrow.tape, hO.output.trans hgrow.output, by omega, fun k hk h0 => ?_, fun k hk => by simp only [if_pos hk]⟩⟩
    · rw [show ((n + 1 : Nat) : Int) = (n : Int) + 1 by omega]; exact hA
    · rw [show ((n + 1 : Nat) : Int) = (n : Int) + 1 by omega]; exact hH
    · by_cases hl : gg < w.heap.size
      · simp only [if_pos hl]
        rcases hat with e | e
        · exact hkv gg e
        · omega
      · simp [hl]
    · simp only [if_pos hgl]; exact h.kg
    · by_cases hl : k < w.heap.size
      · omega
      · simp only [if_neg hl] at hk
        by_cases e : k = gg
        · omega
        · simp [e] at hk
    · have hkg : k ≠ g := fun e => h.kg (by rw [← e]; exact h0)
      have hkk : k ≠ gg := by
        rcases hat with e | e
        · intro e2; exact hkv gg e (by rw [← e2]; exact h0)
        · omega
      rw [hO.block k hkk, setCell_others _ _ _ _ _ hkg, setCell_others _ _ _ _ _ hkg]
      exact (hgrow.block k (by rw [size_alloc']; omega) (fun e => hkv k e.symm h0)).trans (Below.heap_alloc _ _ k hk)

set_option maxHeartbeats 1000000 in
theorem push_any {w : World} {K : Nat → Nat} {g : Nat} {R : List (It Int)} {n : Nat} (h : Hq w K g R n) (key val : Int) (hR : R.length ≤ 5864062014804) (hn : n ≤ 10000000000000) :
    Calls Try.prog 21 #[.pointer (some ⟨g, 0, none⟩), .int .i64 key, .int .i64 val] w fun e w' => e = .returned (.tuple #[]) ∧ ∃ K', Hq w' K' g (R ++ [⟨key, n, val⟩]) (n + 1) ∧ Fr K K' w w' := by
  obtain ⟨v, xs, hhead, hrow, hH, hng, hkv⟩ := h.open
  have hgl := heap_lt hhead
  have hrl := row_lt hrow
  obtain ⟨a, p, rfl⟩ := row_shape hrow
  have hL : xs.length ≤ 5864062014804 := by rw [hH.len]; exact hR
  have c0 : w.cell? ⟨g, 0, none⟩ = some (.slice a xs.length p) := cellOf hhead rfl
  have c1 : w.cell? ⟨g, 1, none⟩ = some (.int .i64 n) := cellOf hhead rfl
  have k0 : (w.alloc (.cells #[.int .i64 key, .int .i64 n, .int .i64 val] 61)).cell? ⟨g, 0, none⟩ = some (.slice a xs.length p) := cellAlloc _ c0
  have HROW : Hid (∀ W : World, W.heap = (w.alloc (.cells #[.int .i64 key, .int .i64 n, .int .i64 val] 61)).heap → W.ownsRow 0 61 3 (.slice a xs.length p) xs.length (flatI xs)) := fun W hW => row_move hrow fun x hx => by rw [hW]; exact Below.heap_alloc _ _ x (hrl x hx)
  have HG6 : Hid (∀ (w5 w6 : World), w5.heap = (w.alloc (.cells #[.int .i64 key, .int .i64 n, .int .i64 val] 61)).heap → w5.grownBy w6 (Value.slice a xs.length p).ownBlock → (w6.cell? ⟨g, 0, none⟩ = some (.slice a xs.length p) ∧ w6.cell? ⟨g, 1, none⟩ = some (.int .i64 n)) ∧ w6.frozen? ⟨g, 0, none⟩ = false ∧ w6.frozen? ⟨g, 1, none⟩ = false) := fun w5 w6 h5 hg => by
    have e1 : w6.heap[g]? = some (.cells #[.slice a xs.length p, .int .i64 n] 59 (0, 0)) := by
      rw [hg.block g (by rw [h5, size_alloc']; omega) (fun e => hng e.symm), h5, Below.heap_alloc _ _ g hgl]; exact hhead
    exact ⟨⟨cellOf e1 rfl, cellOf e1 rfl⟩, frozenOf e1, frozenOf e1⟩
  obtain ⟨i0, hi0, hz0, hz1, hz2⟩ := info_parts infoIt
  have HI0 := hide hi0
  have HZ0 := hide hz0
  have HZ1 := hide hz1
  have HZ2 := hide hz2
  have HP1 : Hid (0 < 1) := by show 0 < 1; omega
  have HP3 : Hid (0 < 3) := by show 0 < 3; omega
  have HPM : Hid (xs.length + 1 ≤ maxLen) := by show _ ≤ _; unfold maxLen; omega
  have HPB : Hid ((xs.length + 1) * 24 ≤ 140737488355328) := by show _ ≤ _; omega
  have H1C : Hid (∀ u ∈ [Value.int .i64 key, .int .i64 n, .int .i64 val], u.oneCell' = true) := fun u hu => by
    rcases List.mem_cons.1 hu with rfl | hu
    · rfl
    · rcases List.mem_cons.1 hu with rfl | hu
      · rfl
      · rw [List.mem_singleton.1 hu]; rfl
  have HH := hide hH
  have HQ := hide h
  have HHEAD := hide hhead
  have HNG := hide hng
  have HKV := hide hkv
  clear hi0 hz0 hz1 hz2 hrow hH h hhead hng hkv hrl hR
  go_enter Try.func21, Try.ntmps21
  go_wp2
  go_region_law (refine step_append_lies _ (by rfl) _ _ _ (by rfl) 0 61 i0 _ 3 24 Try.underlying57 HI0.out HZ0.out HZ1.out HZ2.out rfl HP3.out (.slice a xs.length p) xs.length (flatI xs) (by simp [Act.eval]) (HROW.out _ (by rfl)) ⟨w.heap.size, 0, none⟩ 1 1 [.int .i64 key, .int .i64 n, .int .i64 val] (by simp [Act.eval]) (by rfl) (World.news_of_block (cs := #[.int .i64 key, .int .i64 n, .int .i64 val]) (t := 61) (fr := (0, 0)) (heap_alloc_new w _)) H1C.out HP1.out HPM.out HPB.out (Nat.zero_le _) (w.heap.size + 1) (by simp) ?_; intro gg cap6 w6 hown6 hgrow6 hat6 hlt6; obtain ⟨⟨t0, t1⟩, tf0, tf1⟩ := HG6.out _ w6 (by rfl) hgrow6; have HALL := hide (And.intro hown6 (And.intro hgrow6 (And.intro hat6 hlt6))); clear hown6 hgrow6 hat6 hlt6)
  all_goals
    obtain ⟨hown6, hgrow6, hat6, hlt6⟩ := HALL.out
    obtain ⟨hA7, hfin⟩ := push_fin HQ.out HHEAD.out HNG.out HKV.out hown6 ⟨hgrow6.os, hgrow6.tape, hgrow6.output, hgrow6.size, fun k hk hne => hgrow6.block k hk hne⟩ hat6 hlt6
    have HA7 := hide hA7
    have HFIN := hide hfin
    have hgg : ¬ gg = g := fun e => hA7.ne e.symm
    clear hown6 hgrow6 hat6 hlt6 HALL hA7 hfin c0 c1 k0
    go_wp2_with fail
    refine (rise_at HA7.out xs.length (by simp) (by simp; omega) (up_snoc HH.out.tree _)).mono ?_
    rintro e w7 ⟨rfl, ys, q1, q2, q3, q4⟩
    have hf2 := HFIN.out ys w7 q1 q2 (HH.out.push ⟨key, n, val⟩ rfl q3 q4)
    go_wp2
    (try simp only [Exit.inBlock, Exit.then]); refine bodyPost_end (results_none rfl _ _ _) rfl ?_
    exact ⟨rfl, hf2⟩

end Go.Proofs.Ytmbgjkghcpkoiaa.H4

namespace Go.Proofs.Ytmbgjkghcpkoiaa.H4
open Go.RowKit Go.Maps
set_option maxRecDepth 20000

theorem Hq.drewN {w : World} {K : Nat → Nat} {g : Nat} {R : List (It Int)} {n : Nat} (h : Hq w K g R n) (q : Nat) : Hq (w.drewN q) K g R n := h.far (Nat.le_refl _) (fun _ _ => rfl)

theorem rest_len {R : List (It Int)} (h : R ≠ []) : (rest R).length + 1 = R.length := by
  have hp : 0 < R.length := List.length_pos_iff.2 h
  have := fstTo_lt R R.length hp
  unfold rest
  rw [List.length_eraseIdx, if_pos this]
  omega

theorem rest_nil : rest [] = [] := rfl

set_option maxHeartbeats 1000000 in
theorem pop_any {w : World} {K : Nat → Nat} {g : Nat} {R : List (It Int)} {n : Nat} (h : Hq w K g R n) (hR : R.length ≤ 6000000000000) :
    Calls Try.prog 26 #[.pointer (some ⟨g, 0, none⟩)] w fun e w' => e = .returned (.tuple #[.int .i64 (pkK R), .int .i64 (pkV R), .bool (pkB R)]) ∧ Hq w' K g (rest R) n ∧ Fr K K w w' := by
  have hP := peek_any h
  by_cases hn : R = []
  · have hb : pkB R = false := by simp [pkB, hn]
    rw [hb] at hP ⊢
    have HN := hide hn
    clear hb hn
    go_enter Try.func26, Try.ntmps26
    go_wp2_with fail
    refine hP.mono ?_
    rintro e w1 ⟨rfl, q, rfl⟩
    go_wp2
    go_ret3
    refine ⟨rfl, ?_, (Fr.refl K w).drewN q⟩
    have := HN.out
    subst this
    exact h.drewN q
  · have hb : pkB R = true := by simp [pkB, hn]
    rw [hb] at hP ⊢
    obtain ⟨b, cap, xs, a, c, d⟩ : ∃ b cap xs, At w g b cap xs n ∧ Holds xs R n ∧ K b ≠ 0 := by
      rcases h.is with ⟨q1, _⟩ | q
      · exact absurd q1 hn
      · exact q
    have hpos : 0 < R.length := List.length_pos_iff.2 hn
    have HN := hide hn
    clear hb hn
    go_enter Try.func26, Try.ntmps26
    go_wp2_with fail
    refine hP.mono ?_
    rintro e w1 ⟨rfl, q, rfl⟩
    go_wp2_with fail
    refine (drop_at (a.drewN q) (by rw [c.len]; exact hpos) (by rw [c.len]; exact hR) c.tree).mono ?_
    rintro e w2 ⟨rfl, ys, q1, q2, q3, q4⟩
    go_wp2
    go_ret3
    refine ⟨rfl, ⟨.inr ⟨b, cap, ys, q1, c.pop hpos q3 q4, d⟩, h.kg, fun k hk => ?_⟩, q2.os, q2.tape, q2.output, Nat.le_of_eq q2.size.symm, fun k _ h0 => ?_, fun _ _ => rfl⟩
    · rw [q2.size]; exact h.sup k hk
    · exact q2.block k (fun e => d (by rw [← e]; exact h0)) (fun e => h.kg (by rw [← e]; exact h0))

end Go.Proofs.Ytmbgjkghcpkoiaa.H4

