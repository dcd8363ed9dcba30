import Derived.Test.YtgengoffkoonfabQHsink
namespace Go.Proofs.Ytgengoffkoonfab.H4
open Go.RowKit Go.Maps
set_option maxRecDepth 20000

theorem At.shrink {w : World} {g b cap : Nat} {xs : List (It Int)} {n : Int} (h : At w g b cap xs n) {m : Nat} (hm : m ≤ xs.length) :
    At (w.setCell ⟨g, 0, none⟩ (.slice (some ⟨b, 0, none⟩) m cap)) g b cap (xs.take m) n := by
  obtain ⟨cur, a, c, d⟩ := h.row
  have e : (xs.take m).length = m := by simp [hm]
  refine ⟨?_, ⟨cur, ?_, c, ?_⟩, by rw [e]; exact Nat.le_trans hm h.le, h.cap, h.ne⟩
  · rw [e, heap_setCell_at _ h.head]; rfl
  · rw [setCell_others _ _ _ _ _ (fun q => h.ne q.symm)]; exact a
  · rw [e, ← flatI_take, ← d, List.take_take, Nat.min_eq_left (by omega)]

/-- Only these two are written. -/
structure Only2 (w w' : World) (g b : Nat) : Prop where
  os : w'.os = w.os
  tape : w'.tape = w.tape
  output : w'.output = w.output
  size : w'.heap.size = w.heap.size
  block : ∀ k, k ≠ b → k ≠ g → w'.heap[k]? = w.heap[k]?

theorem Only2.of {w w' : World} {g b : Nat} (h : Only w w' b) : Only2 w w' g b := ⟨h.os, h.tape, h.output, h.size, fun k hk _ => h.block k hk⟩
theorem Only2.then {w w' w'' : World} {g b : Nat} (h : Only2 w w' g b) (k : Only w' w'' b) : Only2 w w'' g b := ⟨k.os.trans h.os, k.tape.trans h.tape, k.output.trans h.output, k.size.trans h.size, fun i hi hg => (k.block i hi).trans (h.block i hi hg)⟩
theorem Only2.set {a w : World} {g b : Nat} (h : Only2 a w g b) (o : Nat) (u : Value) : Only2 a (w.setCell ⟨g, o, none⟩ u) g b :=
  ⟨h.os, h.tape, h.output, (size_setCell _ _ _).trans h.size, fun i hi hg => (setCell_others _ _ _ _ i hg).trans (h.block i hi hg)⟩

def zeroI : It Int := ⟨0, 0, 0⟩

theorem cut_eq (xs : List (It Int)) : (((xs.set 0 (pt xs (xs.length - 1))).set (xs.length - 1) zeroI).take (xs.length - 1)) = cut xs := by
  unfold cut
  rw [List.take_set]
  exact List.set_eq_of_length_le (by simp)

theorem At.put0 {w : World} {g b cap : Nat} {xs : List (It Int)} {n : Int} (h : At w g b cap xs n) (hi : 0 < xs.length) (x : It Int) :
    At (((w.setCell ⟨b, 0, none⟩ (.int .i64 x.key)).setCell ⟨b, 1, none⟩ (.int .i64 x.turn)).setCell ⟨b, 2, none⟩ (.int .i64 x.val)).drew g b cap (xs.set 0 x) n := by
  have := (h.put hi x).drew
  simpa using this

set_option maxHeartbeats 1000000 in
theorem drop_at {w : World} {g b cap : Nat} {xs : List (It Int)} {n : Int} (h : At w g b cap xs n) (hp : 0 < xs.length) (hm : xs.length ≤ 6000000000000) (ht : Tree xs) :
    Calls Try.prog 80 #[.pointer (some ⟨g, 0, none⟩)] w fun e w' => e = .returned (.tuple #[]) ∧ ∃ ys, At w' g b cap ys n ∧ Only2 w w' g b ∧ Tree ys ∧ ys.Perm (cut xs) := by
  obtain ⟨m, hm1⟩ : ∃ m, xs.length = m + 1 := ⟨xs.length - 1, by omega⟩
  have h0 := h.h0
  have hle := h.le
  have hg := frozenOf (k := 0) h.head
  have hne := h.ne
  have hne' : ¬ b = g := fun e => hne e.symm
  obtain ⟨d1, d2, d3⟩ := h.cells (i := 0) hp
  obtain ⟨c1, c2, c3⟩ := h.cells (i := m) (by omega)
  simp only [Nat.zero_mul, Nat.zero_add] at d1 d2 d3
  have P1 := hide (h.put0 hp (pt xs m))
  obtain ⟨x, hx⟩ : ∃ x, pt xs m = x := ⟨_, rfl⟩
  obtain ⟨y, hy⟩ : ∃ y, pt xs 0 = y := ⟨_, rfl⟩
  rw [hx] at c1 c2 c3 P1
  rw [hy] at d1 d2 d3
  have HX := hide hx
  have HT := hide ht
  have HM := hide hm1
  have HA := hide h
  rw [hm1] at h0 hle hm
  have f1 := h.fr 0
  have f2 := h.fr 1
  have f3 := h.fr 2
  clear hx hy ht hm1 hp h
  go_enter Try.func80, Try.ntmps80
  go_wp2
  go_region
  obtain ⟨W1, hW1⟩ : ∃ W1, (((w.setCell { block := b, off := 0 } (Value.int IntKind.i64 x.key)).setCell { block := b, off := 1 } (Value.int IntKind.i64 x.turn)).setCell { block := b, off := 2 } (Value.int IntKind.i64 x.val)).drew = W1 := ⟨_, rfl⟩
  have O1 := hide ((((Only.refl w b).set 0 (.int .i64 x.key)).set 1 (.int .i64 x.turn)).set 2 (.int .i64 x.val)).drew
  rw [hW1] at O1 P1 ⊢
  have hA1 := P1.out
  have hl1 : (xs.set 0 x).length = m + 1 := by rw [List.length_set]; exact HM.out
  have e0 := hA1.h0
  rw [hl1] at e0
  obtain ⟨a1, a2, a3⟩ := hA1.cells (i := m) (by omega)
  have g1 := hA1.fr (m * 3)
  have g2 := hA1.fr (m * 3 + 1)
  have g3 := hA1.fr (m * 3 + 2)
  have g4 := frozenOf (k := 0) hA1.head
  have P2 := hide ((hA1.put (i := m) (by omega) zeroI).shrink (m := m) (by rw [List.length_set]; omega))
  clear hW1 h0 hg d1 d2 d3 c1 c2 c3 f1 f2 f3 hA1 hl1
  unfold zeroI at P2
  go_wp2_with fail
  have hL : ((xs.set 0 x).set m ⟨0, 0, 0⟩).take m = cut xs := by
    have := cut_eq xs
    rw [HM.out] at this
    simp only [Nat.add_sub_cancel] at this
    rw [HX.out] at this
    exact this
  have P3 := P2.out
  rw [hL] at P3
  have hlc : (cut xs).length = m := by rw [length_cut, HM.out]; rfl
  have O2 := (Only2.of (g := g) ((((O1.out).set (m * 3) (.int .i64 0)).set (m * 3 + 1) (.int .i64 0)).set (m * 3 + 2) (.int .i64 0))).set 0 (.slice (some ⟨b, 0, none⟩) m cap)
  by_cases hm0 : m = 0
  · have hcn : cut xs = [] := List.eq_nil_of_length_eq_zero (by omega)
    rw [hcn] at P3
    clear hm0
    refine (sink_nil P3).mono ?_
    rintro e w2 ⟨rfl, rfl⟩
    go_wp2
    (try simp only [Exit.inBlock, Exit.then]); refine bodyPost_end (results_none rfl _ _ _) rfl ?_
    exact ⟨rfl, [], P3, O2, (fun i _ hi => by simp at hi), by rw [hcn]⟩
  · refine (sink_at P3 (by omega) (down_cut HT.out) (by omega)).mono ?_
    rintro e w2 ⟨rfl, ys, q1, q2, q3, q4⟩
    go_wp2
    (try simp only [Exit.inBlock, Exit.then]); refine bodyPost_end (results_none rfl _ _ _) rfl ?_
    exact ⟨rfl, ys, q1, O2.then q2, q3, q4⟩

end Go.Proofs.Ytgengoffkoonfab.H4
