import Derived.Test.YtjmjjjpanioifaaGRNum
namespace Go.Proofs.Ytjmjjjpanioifaa
open Go.RowKit
set_option maxRecDepth 20000
variable {X : Nat → Prop}

theorem num_any (n : Int) (w : World) : Calls Try.prog 19 #[.int .i64 n] w fun e w' => e = .returned (.int .i64 n) ∧ w' = w := by
  go_enter Try.func19, Try.ntmps19
  go_wp2
  go_ret
  exact ⟨rfl, rfl⟩

/-- Blocks g and r alone have turned, and new blocks have come. -/
def Tch2 (B g r : Nat) (w w' : World) : Prop := Below B w w' ∧ ∀ k, k < w.heap.size → k ≠ g → k ≠ r → w'.heap[k]? = w.heap[k]?

theorem Tch2.trans {B g r : Nat} {a b c : World} (h : Tch2 B g r a b) (k : Tch2 B g r b c) : Tch2 B g r a c :=
  ⟨h.1.trans k.1, fun i hi hg hr => (k.2 i (Nat.lt_of_lt_of_le hi h.1.size) hg hr).trans (h.2 i hi hg hr)⟩

theorem Tch.fst {B g : Nat} {a b : World} (h : Tch B g a b) (r : Nat) : Tch2 B g r a b := ⟨h.1, fun k hk hg _ => h.2 k hk hg⟩

theorem Tch.snd {B r : Nat} {a b : World} (h : Tch B r a b) (g : Nat) : Tch2 B g r a b := ⟨h.1, fun k hk _ hr => h.2 k hk hr⟩

theorem Tch2.refl (B g r : Nat) (w : World) : Tch2 B g r w w := ⟨Below.refl _ _, fun _ _ _ _ => rfl⟩

def stepSt (st : CSt) (k n : Int) : CSt :=
  if k = 1 then nextSt st (1 : Nat) else if k = 2 then nextSt st (2 : Nat) else if k = 3 then nextSt st (4 : Nat) else if k = 4 then nextSt st n else if k = 5 then nextSt st n else if k = 6 then seekSt st n else st

/-- Two cursors, the program's and the document's, in one state. -/
structure Duo (X : Nat → Prop) (B : Nat) (w : World) (g r : Nat) (st : CSt) : Prop where
  c : Cu X 124 w g st
  d : Cu X 124 w r st
  ne : g ≠ r
  bg : B ≤ g
  br : B ≤ r

theorem Cu.x {T : Nat} {w : World} {g : Nat} {st : CSt} (h : Cu X T w g st) : X g := by
  obtain ⟨v, _, _, _, _, _, h6⟩ := h
  exact h6.1

theorem Cu.alloc {T : Nat} {w : World} {g : Nat} {st : CSt} (h : Cu X T w g st) (o : Obj) : Cu X T (w.alloc o) g st := by
  obtain ⟨v, h1, h2, h3, h4, h5, h6⟩ := h
  refine ⟨v, (Below.heap_alloc w o g h1.lt).trans h1, ?_, h3, h4, h5, h6⟩
  by_cases hd : st.d = []
  · rcases h2 with h2 | ⟨b, cap, rfl, x1, x2, x3⟩
    · exact .inl h2
    · exact .inr ⟨b, cap, rfl, x1, x2, fun i hi => by rw [hd] at hi; exact absurd hi (Nat.not_lt_zero _)⟩
  · exact h2.move fun k hk => Below.heap_alloc w o k (h2.lt hd k hk)

/-- Both calls made. -/
theorem Duo.step {B g r : Nat} {w w1 w2 : World} {st st' : CSt} (h : Duo X B w g r st) (c1 : Cu X 124 w1 g st') (t1 : Tch B g w w1) (c2 : Cu X 124 w2 r st') (t2 : Tch B r w1 w2) : Duo X B w2 g r st' ∧ Tch2 B g r w w2 :=
  ⟨⟨c1.keep t2 h.ne h.d.x, c2, h.ne, h.bg, h.br⟩, (t1.fst r).trans (t2.snd g)⟩

theorem Duo.mid {B g r : Nat} {w w1 : World} {st : CSt} (h : Duo X B w g r st) (t1 : Tch B g w w1) : Cu X 124 w1 r st := h.d.keep t1 (fun e => h.ne e.symm) h.c.x

theorem Duo.drewN {B g r : Nat} {w : World} {st : CSt} (h : Duo X B w g r st) (q : Nat) : Duo X B (w.drewN q) g r st := ⟨h.c, h.d, h.ne, h.bg, h.br⟩

theorem box_keep {B g k i : Nat} {w w' : World} {u : Value} (ht : Tch B g w w') (hg : g < k) (h : w.cell? ⟨k, i, none⟩ = some u) : w'.cell? ⟨k, i, none⟩ = some u := by
  rw [World.cell?_of_block (w := w) (ht.2 k (World.block_lt_of_cell? _ _ h) (by omega))]
  exact h

theorem box_cell (w : World) (cs : Array Value) (T : Nat) (i : Nat) (u : Value) (h : cs[i]? = some u) : (w.alloc (.cells cs T)).cell? ⟨w.heap.size, i, none⟩ = some u := by
  have e := heap_alloc_new w (.cells cs T)
  unfold World.cell?
  simp only [e]
  exact h

end Go.Proofs.Ytjmjjjpanioifaa

