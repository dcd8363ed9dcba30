import Derived.Test.YtjmjjjpanioifaaG3
import Derived.Laws.BytesArg
import Derived.Laws.BitsLemmas
namespace Go.Proofs.Ytjmjjjpanioifaa
open Go.RowKit
set_option maxRecDepth 20000
variable {X : Nat → Prop}

/-- A block of three cells. -/
def S3 (T : Nat) (w : World) (g : Nat) (a b c : Value) : Prop := w.heap[g]? = some (.cells #[a, b, c] T (0, 0))

theorem S3.lt {T : Nat} {w : World} {g : Nat} {a b c : Value} (h : S3 T w g a b c) : g < w.heap.size := (Array.getElem?_eq_some_iff.1 h).1

theorem S3.at {T : Nat} {w : World} {g : Nat} {a b c : Value} (h : S3 T w g a b c) : w.cell? ⟨g, 0, none⟩ = some a ∧ w.cell? ⟨g, 1, none⟩ = some b ∧ w.cell? ⟨g, 2, none⟩ = some c := by
  unfold S3 at h
  simp [World.cell?, h]

theorem S3.free {T : Nat} {w : World} {g : Nat} {a b c : Value} (h : S3 T w g a b c) : ∀ o, w.frozen? ⟨g, o, none⟩ = false := by
  intro o
  unfold S3 at h
  simp [World.frozen?, h]

theorem S3.set {T : Nat} {w : World} {g : Nat} {a b c : Value} (h : S3 T w g a b c) :
    (∀ u, S3 T (w.setCell ⟨g, 0, none⟩ u) g u b c) ∧ (∀ u, S3 T (w.setCell ⟨g, 1, none⟩ u) g a u c) ∧ (∀ u, S3 T (w.setCell ⟨g, 2, none⟩ u) g a b u) := by
  unfold S3 at h ⊢
  refine ⟨?_, ?_, ?_⟩ <;> intro u <;> simp [World.setCell, Array.getElem?_modify, h]

theorem size_setCell (w : World) (a : Addr) (u : Value) : (w.setCell a u).heap.size = w.heap.size := by simp [World.setCell]

theorem setCell_others (w : World) (g o : Nat) (u : Value) : ∀ k, k ≠ g → (w.setCell ⟨g, o, none⟩ u).heap[k]? = w.heap[k]? := fun k hk => Below.heap_setCell w _ u k hk

/-- Only block g has turned, and new blocks have come. -/
def Tch (B g : Nat) (w w' : World) : Prop := Below B w w' ∧ ∀ k, k < w.heap.size → k ≠ g → w'.heap[k]? = w.heap[k]?

theorem Tch.refl (B g : Nat) (w : World) : Tch B g w w := ⟨Below.refl _ _, fun _ _ _ => rfl⟩

theorem Tch.trans {B g : Nat} {a b c : World} (h : Tch B g a b) (k : Tch B g b c) : Tch B g a c :=
  ⟨h.1.trans k.1, fun i hi hg => (k.2 i (Nat.lt_of_lt_of_le hi h.1.size) hg).trans (h.2 i hi hg)⟩

theorem Tch.drewN {B g : Nat} {a b : World} (h : Tch B g a b) (n : Nat) : Tch B g a (b.drewN n) :=
  ⟨below_drewN h.1 n, h.2⟩

theorem tch_set {B g o : Nat} {w : World} (hB : B ≤ g) (u : Value) : Tch B g w (w.setCell ⟨g, o, none⟩ u) :=
  ⟨(Below.refl _ _).setCell hB u, fun k _ hk => setCell_others w g o u k hk⟩

theorem tch_alloc {B g : Nat} {w : World} (hB : B ≤ w.heap.size) (o : Obj) : Tch B g w (w.alloc o) :=
  ⟨(Below.refl _ _).alloc hB o, fun k hk _ => Below.heap_alloc w o k hk⟩

/-- The cursor's bytes. -/
def DS (w : World) (v : Value) (d : List Int) : Prop :=
  (v = .slice none 0 0 ∧ d = []) ∨ ∃ b cap, v = .slice (some ⟨b, 0, none⟩) d.length cap ∧ d.length ≤ cap ∧ cap ≤ maxLen ∧ ∀ i, i < d.length → w.cell? ⟨b, i, none⟩ = some (.int .u8 (d.getD i 0))

structure CSt where
  d : List Int
  p : Nat
  e : Int

def Byt (d : List Int) : Prop := ∀ i, 0 ≤ d.getD i 0 ∧ d.getD i 0 < 256

/-- A cursor of either kind in memory. -/
def Cu (X : Nat → Prop) (T : Nat) (w : World) (g : Nat) (st : CSt) : Prop :=
  ∃ v, S3 T w g v (.int .i64 st.p) (.int .i64 st.e) ∧ DS w v st.d ∧ st.p ≤ st.d.length ∧ st.d.length ≤ 140737488351232 ∧ Byt st.d ∧ X g ∧ ∀ k, v.ownBlock = some k → ¬ X k

theorem DS.move {w w' : World} {v : Value} {d : List Int} (h : DS w v d) (hk : ∀ k, v.ownBlock = some k → w'.heap[k]? = w.heap[k]?) : DS w' v d := by
  rcases h with h | ⟨b, cap, rfl, h1, h2, h3⟩
  · exact .inl h
  · refine .inr ⟨b, cap, rfl, h1, h2, fun i hi => ?_⟩
    rw [World.cell?_of_block (w := w) (hk b rfl)]
    exact h3 i hi

theorem DS.lt {w : World} {v : Value} {d : List Int} (h : DS w v d) (hd : d ≠ []) : ∀ k, v.ownBlock = some k → k < w.heap.size := by
  intro k hk
  rcases h with ⟨rfl, h⟩ | ⟨b, cap, rfl, h1, h2, h3⟩
  · exact absurd h hd
  · have := World.block_lt_of_cell? _ _ (h3 0 (List.length_pos_iff.2 hd))
    cases hk
    exact this

/-- The cursor has another place and error; its block alone was written. -/
theorem Cu.upd {T : Nat} {w : World} {g : Nat} {st : CSt} (h : Cu X T w g st) {w' : World} (p : Nat) (e : Int) (hp : p ≤ st.d.length)
    (hs : ∀ v, S3 T w g v (.int .i64 st.p) (.int .i64 st.e) → S3 T w' g v (.int .i64 p) (.int .i64 e)) (hk : ∀ k, k ≠ g → w'.heap[k]? = w.heap[k]?) : Cu X T w' g { st with p := p, e := e } := by
  obtain ⟨v, h1, h2, h3, h4, h5, h6⟩ := h
  exact ⟨v, hs v h1, h2.move (fun k hk' => hk k (fun e => h6.2 k hk' (by rw [e]; exact h6.1))), hp, h4, h5, h6⟩

theorem Cu.lt {T : Nat} {w : World} {g : Nat} {st : CSt} (h : Cu X T w g st) : g < w.heap.size := by
  obtain ⟨v, h1, _⟩ := h
  exact h1.lt

/-- Where the cursor's own block and its bytes' block stay. -/
theorem Cu.keep {T : Nat} {w w' : World} {g g' B : Nat} {st : CSt} (h : Cu X T w g st) (ht : Tch B g' w w') (hg : g ≠ g') (ha : X g') : Cu X T w' g st := by
  obtain ⟨v, h1, h2, h3, h4, h5, h6⟩ := h
  refine ⟨v, (ht.2 g h1.lt hg).trans h1, ?_, h3, h4, h5, h6⟩
  by_cases hd : st.d = []
  · rcases h2 with h2 | ⟨b, cap, rfl, x1, x2, x3⟩
    · exact .inl h2
    · exact .inr ⟨b, cap, rfl, x1, x2, fun i hi => by rw [hd] at hi; exact absurd hi (Nat.not_lt_zero _)⟩
  · exact h2.move fun k hk => ht.2 k (h2.lt hd k hk) (fun e => h6.2 k hk (by rw [e]; exact ha))

theorem err_any {w : World} {g : Nat} {st : CSt} (h : Cu X 124 w g st) :
    Calls Try.prog 65 #[.pointer (some ⟨g, 0, none⟩)] w fun e w' => e = .returned (.int .i64 st.e) ∧ w' = w := by
  obtain ⟨v, h1, h2, _⟩ := h
  obtain ⟨c0, c1, c2⟩ := h1.at
  clear h1 h2 c0 c1
  go_enter Try.func65, Try.ntmps65
  go_wp2
  go_ret
  exact ⟨rfl, rfl⟩

theorem at_any {w : World} {g : Nat} {st : CSt} (h : Cu X 124 w g st) :
    Calls Try.prog 66 #[.pointer (some ⟨g, 0, none⟩)] w fun e w' => e = .returned (.int .i64 st.p) ∧ w' = w := by
  obtain ⟨v, h1, h2, _⟩ := h
  obtain ⟨c0, c1, c2⟩ := h1.at
  clear h1 h2 c0 c2
  go_enter Try.func66, Try.ntmps66
  go_wp2
  go_ret
  exact ⟨rfl, rfl⟩

theorem DS.shape {w : World} {v : Value} {d : List Int} (h : DS w v d) : ∃ a c, v = .slice a d.length c := by
  rcases h with ⟨rfl, rfl⟩ | ⟨b, cap, rfl, h1, h2, h3⟩
  · exact ⟨none, 0, rfl⟩
  · exact ⟨_, _, rfl⟩

theorem left_any {w : World} {g : Nat} {st : CSt} (h : Cu X 124 w g st) :
    Calls Try.prog 86 #[.pointer (some ⟨g, 0, none⟩)] w fun e w' => e = .returned (.int .i64 ((st.d.length : Int) - st.p)) ∧ ∃ n, w' = w.drewN n := by
  obtain ⟨v, h1, h2, h3, h4, _⟩ := h
  obtain ⟨a, c, rfl⟩ := h2.shape
  obtain ⟨c0, c1, c2⟩ := h1.at
  clear h1 h2 c2
  go_enter Try.func86, Try.ntmps86
  go_wp2
  go_quiet (fail)
  go_wp2
  go_ret
  exact ⟨rfl, _, rfl⟩
end Go.Proofs.Ytjmjjjpanioifaa

