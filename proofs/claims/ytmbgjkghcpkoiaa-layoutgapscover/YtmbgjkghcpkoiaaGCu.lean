import Derived.Test.YtmbgjkghcpkoiaaG3
import Derived.Laws.BytesArg
import Derived.Laws.BitsLemmas
namespace Go.Proofs.Ytmbgjkghcpkoiaa
open Go.RowKit
set_option maxRecDepth 20000
variable {X : Nat → Prop}

/-- A block of three cells. -/
def S3 (T : Nat) (w : World) (g : Nat) (a b c : Value) : Prop := w.heap[g]? = some (.cells #[a, b, c] T (0, 0))

theorem S3.lt {T : Nat} {w : World} {g : Nat} {a b c : Value} (h : S3 T w g a b c) : g < w.heap.size := (Array.getElem?_eq_some_iff.1 h).1

theorem S3.at {T : Nat} {w : World} {g : Nat} {a b c : Value} (h : S3 T w g a b c) : w.cell? ⟨g, 0, none⟩ = some a ∧ w.cell? ⟨g, 1, none⟩ = some b ∧ w.cell? ⟨g, 2, none⟩ = some c := by
  unfold S3 at h
  simp [World.cell?, h]

theorem S3.free {T : Nat} {w : World} {g : Nat} {a b c : Value} (h : S3 T w g a b c) : ∀ o, w.frozen? ⟨g, o, none⟩ = false := by
  intro o
  unfold S3 at h
  simp [World.frozen?, h]

theorem S3.set {T : Nat} {w : World} {g : Nat} {a b c : Value} (h : S3 T w g a b c) :
    (∀ u, S3 T (w.setCell ⟨g, 0, none⟩ u) g u b c) ∧ (∀ u, S3 T (w.setCell ⟨g, 1, none⟩ u) g a u c) ∧ (∀ u, S3 T (w.setCell ⟨g, 2, none⟩ u) g a b u) := by
  unfold S3 at h ⊢
  refine ⟨?_, ?_, ?_⟩ <;> intro u <;> simp [World.setCell, Array.getElem?_modify, h]

theorem size_setCell (w : World) (a : Addr) (u : Value) : (w.setCell a u).heap.size = w.heap.size := by simp [World.setCell]

theorem setCell_others (w : World) (g o : Nat) (u : Value) : ∀ k, k ≠ g → (w.setCell ⟨g, o, none⟩ u).heap[k]? = w.heap[k]? := fun k hk => Below.heap_setCell w _ u k hk

/-- Only block g has turned, and new blocks have come. -/
def Tch (B g : Nat) (w w' : World) : Prop := Below B w w' ∧ ∀ k, k < w.heap.size → k ≠ g → w'.heap[k]? = w.heap[k]?

theorem Tch.refl (B g : Nat) (w : World) : Tch B g w w := ⟨Below.refl _ _, fun _ _ _ => rfl⟩

theorem Tch.trans {B g : Nat} {a b c : World} (h : Tch B g a b) (k : Tch B g b c) : Tch B g a c :=
  ⟨h.1.trans k.1, fun i hi hg => (k.2 i (Nat.lt_of_lt_of_le hi h.1.size) hg).trans (h.2 i hi hg)⟩

theorem Tch.drewN {B g : Nat} {a b : World} (h : Tch B g a b) (n : Nat) : Tch B g a (b.drewN n) :=
  ⟨below_drewN h.1 n, h.2⟩

theorem tch_set {B g o : Nat} {w : World} (hB : B ≤ g) (u : Value) : Tch B g w (w.setCell ⟨g, o, none⟩ u) :=
  ⟨(Below.refl _ _).setCell hB u, fun k _ hk => setCell_others w g o u k hk⟩

theorem tch_alloc {B g : Nat} {w : World} (hB : B ≤ w.heap.size) (o : Obj) : Tch B g w (w.alloc o) :=
  ⟨(Below.refl _ _).alloc hB o, fun k hk _ => Below.heap_alloc w o k hk⟩

/-- The cursor's bytes. -/
def DS (w : World) (v : Value) (d : List Int) : Prop :=
  (v = .slice none 0 0 ∧ d = []) ∨ ∃ b cap, v = .slice (some ⟨b, 0, none⟩) d.length cap ∧ d.length ≤ cap ∧ cap ≤ maxLen ∧ ∀ i, i < d.length → w.cell? ⟨b, i, none⟩ = some (.int .u8 (d.getD i 0))

structure CSt where
  d : List Int
  p : Nat
  e : Int

def Byt (d : List Int) : Prop := ∀ i, 0 ≤ d.getD i 0 ∧ d.getD i 0 < 256

/-- A cursor of either kind in memory. -/
def Cu (X : Nat → Prop) (T : Nat) (w : World) (g : Nat) (st : CSt) : Prop :=
  ∃ v, S3 T w g v (.int .i64 st.p) (.int .i64 st.e) ∧ DS w v st.d ∧ st.p ≤ st.d.length ∧ st.d.length ≤ 140737488351232 ∧ Byt st.d ∧ X g ∧ ∀ k, v.ownBlock = some k → ¬ X k

theorem DS.move {w w' : World} {v : Value} {d : List Int} (h : DS w v d) (hk : ∀ k, v.ownBlock = some k → w'.heap[k]? = w.heap[k]?) : DS w' v d := by
  rcases h with h | ⟨b, cap, rfl, h1, h2, h3⟩
  · exact .inl h
  · refine .inr ⟨b, cap, rfl, h1, h2, fun i hi => ?_⟩
    rw [World.cell?_of_block (w := w) (hk b rfl)]
    exact h3 i hi

theorem DS.lt {w : World} {v : Value} {d : List Int} (h : DS w v d) (hd : d ≠ []) : ∀ k, v.ownBlock = some k → k < w.heap.size := by
  intro k hk
  rcases h with ⟨rfl, h⟩ | ⟨b, cap, rfl, h1, h2, h3⟩
  · exact absurd h hd
  · have := World.block_lt_of_cell? _ _ (h3 0 (List.length_pos_iff.2 hd))
    cases hk
    exact this

/-- The cursor has another place and error; its block alone was written. -/
theorem Cu.upd {T : Nat} {w : World} {g : Nat} {st : CSt} (h : Cu X T w g st) {w' : World} (p : Nat) (e : Int) (hp : p ≤ st.d.length)
    (hs : ∀ v, S3 T w g v (.int .i64 st.p) (.int .i64 st.e) → S3 T w' g v (.int .i64 p) (.int .i64 e)) (hk : ∀ k, k ≠ g → w'.heap[k]? = w.heap[k]?) : Cu X T w' g { st with p := p, e := e } := by
  obtain ⟨v, h1, h2, h3, h4, h5, h6⟩ := h
  exact ⟨v, hs v h1, h2.move (fun k hk' => hk k (fun e => h6.2 k hk' (by rw [e]; exact h6.1))), hp, h4, h5, h6⟩

theorem Cu.lt {T : Nat} {w : World} {g : Nat} {st : CSt} (h : Cu X T w g st) : g < w.heap.size := by
  obtain ⟨v, h1, _⟩ := h
  exact h1.lt

/-- Where the cursor's own block and its bytes' block stay. -/
theorem Cu.keep {T : Nat} {w w' : World} {g g' B : Nat} {st : CSt} (h : Cu X T w g st) (ht : Tch B g' w w') (hg : g ≠ g') (ha : X g') : Cu X T w' g st := by
  obtain ⟨v, h1, h2, h3, h4, h5, h6⟩ := h
  refine ⟨v, (ht.2 g h1.lt hg).trans h1, ?_, h3, h4, h5, h6⟩
  by_cases hd : st.d = []
  · rcases h2 with h2 | ⟨b, cap, rfl, x1, x2, x3⟩
    · exact .inl h2
    · exact .inr ⟨b, cap, rfl, x1, x2, fun i hi => by rw [hd] at hi; exact absurd hi (Nat.not_lt_zero _)⟩
  · exact h2.move fun k hk => ht.2 k (h2.lt hd k hk) (fun e => h6.2 k hk (by rw [e]; exact ha))

theorem DS.shape {w : World} {v : Value} {d : List Int} (h : DS w v d) : ∃ a c, v = .slice a d.length c := by
  rcases h with ⟨rfl, rfl⟩ | ⟨b, cap, rfl, h1, h2, h3⟩
  · exact ⟨none, 0, rfl⟩
  · exact ⟨_, _, rfl⟩

end Go.Proofs.Ytmbgjkghcpkoiaa

namespace Go.Proofs.Ytmbgjkghcpkoiaa
open Go.RowKit
set_option maxRecDepth 20000
variable {X : Nat → Prop}

def okN (st : CSt) (n : Int) : Prop := st.e = 0 ∧ 0 ≤ n ∧ n ≤ (st.d.length : Int) - st.p

instance (st : CSt) (n : Int) : Decidable (okN st n) := by unfold okN; exact inferInstance

def nextSt (st : CSt) (n : Int) : CSt := if st.e ≠ 0 then st else if n < 0 then { st with e := 1 } else if (st.d.length : Int) - st.p < n then { st with e := 20 } else { st with p := st.p + n.toNat }

def nextL (st : CSt) (n : Int) : List Int := if okN st n then (st.d.drop st.p).take n.toNat else []

/-- A slice that can be read. -/
def RS (w : World) (v : Value) (l : List Int) : Prop :=
  ∃ ao cap, v = .slice ao l.length cap ∧ l.length ≤ maxLen ∧ (l ≠ [] → ∃ b o, ao = some ⟨b, o, none⟩ ∧ ∀ i, i < l.length → w.cell? ⟨b, o + i, none⟩ = some (.int .u8 (l.getD i 0)))

theorem rs_nil (w : World) : RS w (.slice none 0 0) [] := ⟨none, 0, rfl, Nat.zero_le _, fun h => absurd rfl h⟩

theorem nextL_no {st : CSt} {n : Int} (h : ¬ okN st n) : nextL st n = [] := if_neg h

theorem nextSt_ok {st : CSt} {n : Int} (h : okN st n) : nextSt st n = { st with p := st.p + n.toNat } := by
  obtain ⟨h1, h2, h3⟩ := h
  unfold nextSt
  rw [if_neg (by omega), if_neg (by omega), if_neg (by omega)]

theorem nextL_ok {st : CSt} {n : Nat} (h : okN st n) : nextL st n = (st.d.drop st.p).take n ∧ (nextL st n).length = n := by
  have e : nextL st n = (st.d.drop st.p).take n := by unfold nextL; rw [if_pos h]; rfl
  refine ⟨e, ?_⟩
  rw [e, List.length_take, List.length_drop]
  obtain ⟨h1, h2, h3⟩ := h
  omega

theorem nextL_get {st : CSt} {n : Nat} (h : okN st n) {i : Nat} (hi : i < n) : (nextL st n).getD i 0 = st.d.getD (st.p + i) 0 := by
  rw [(nextL_ok h).1]
  simp [List.getD, hi]

end Go.Proofs.Ytmbgjkghcpkoiaa

namespace Go.Proofs.Ytmbgjkghcpkoiaa
open Go.RowKit
set_option maxRecDepth 20000
variable {X : Nat → Prop}

def le : List Int → Int
  | [] => 0
  | b :: r => b + 256 * le r

theorem le_append (a : List Int) (c : Int) : le (a ++ [c]) = le a + 256 ^ a.length * c := by
  induction a with
  | nil => simp [le]
  | cons b r ih => simp only [List.cons_append, le, ih, List.length_cons, Int.pow_succ, Int.mul_add]; rw [Int.add_assoc, Int.mul_comm (256 ^ r.length) 256, Int.mul_assoc]

theorem le_take {l : List Int} {k : Nat} (h : k < l.length) : le (l.take (k + 1)) = le (l.take k) + 256 ^ k * l.getD k 0 := by
  rw [List.take_succ_eq_append_getElem h, le_append, List.length_take, Nat.min_eq_left (by omega)]
  simp [List.getD, h]

theorem le_bound {l : List Int} (h : Byt l) : 0 ≤ le l ∧ le l < 256 ^ l.length := by
  induction l with
  | nil => simp [le]
  | cons b r ih =>
    have h0 := h 0
    have hr := ih (fun i => by have := h (i + 1); simpa using this)
    simp at h0
    simp only [le, List.length_cons, Int.pow_succ]
    omega

theorem byt_take {l : List Int} (h : Byt l) (k : Nat) : Byt (l.take k) := by
  intro i
  by_cases hi : i < k
  · have : (l.take k).getD i 0 = l.getD i 0 := by simp [List.getD, hi]
    rw [this]; exact h i
  · have : (l.take k).getD i 0 = 0 := by
      have e : (l.take k)[i]? = none := List.getElem?_eq_none (by rw [List.length_take]; omega)
      simp [List.getD, e]
    rw [this]; decide

theorem byt_drop {l : List Int} (h : Byt l) (k : Nat) : Byt (l.drop k) := by
  intro i
  have : (l.drop k).getD i 0 = l.getD (k + i) 0 := by simp [List.getD]
  rw [this]; exact h _

theorem byt_nextL {st : CSt} (h : Byt st.d) (n : Int) : Byt (nextL st n) := by
  unfold nextL
  split
  · exact byt_take (byt_drop h _) _
  · intro i; simp

theorem Cu.byt {T : Nat} {w : World} {g : Nat} {st : CSt} (h : Cu X T w g st) : Byt st.d := by
  obtain ⟨v, _, _, _, _, h5, _⟩ := h
  exact h5

theorem nextL_len {st : CSt} (n : Nat) : (nextL st n).length ≤ n := by
  by_cases h : okN st n
  · exact Nat.le_of_eq (nextL_ok h).2
  · rw [nextL_no h]; exact Nat.zero_le _

theorem or_put {V c : Int} (k : Nat) (hV0 : 0 ≤ V) (hc0 : 0 ≤ c) (hc : c < 256) (hk : k < 4) (hV : V < 256 ^ k) : bits .or .i64 V (256 ^ k * c) = V + 256 ^ k * c := by
  have hw : ∀ n : Int, 0 ≤ n → n < 2 ^ 63 → IntKind.i64.wrap n = n := fun n h0 h1 => by rw [IntKind.wrap_i64]; omega
  have comm : ∀ x y : Int, bits .or .i64 x y = bits .or .i64 y x := by
    intro x y
    simp only [bits]
    rw [BitVec.or_comm]
  rw [comm]
  obtain rfl | rfl | rfl | rfl : k = 0 ∨ k = 1 ∨ k = 2 ∨ k = 3 := by omega
  · rw [bits_join .i64 63 (by decide) hw 0 (256 ^ 0 * c) V (by omega) (by omega) (by omega) hV0 (by omega) (by omega)]; omega
  · rw [bits_join .i64 63 (by decide) hw 8 (256 ^ 1 * c) V (by omega) (by omega) (by omega) hV0 (by omega) (by omega)]; omega
  · rw [bits_join .i64 63 (by decide) hw 16 (256 ^ 2 * c) V (by omega) (by omega) (by omega) hV0 (by omega) (by omega)]; omega
  · rw [bits_join .i64 63 (by decide) hw 24 (256 ^ 3 * c) V (by omega) (by omega) (by omega) hV0 (by omega) (by omega)]; omega

theorem shl_put {c : Int} (k : Nat) (hc0 : 0 ≤ c) (hc : c < 256) (hk : k < 4) : wrap64 (c * 2 ^ (8 * k)) = 256 ^ k * c := by
  obtain rfl | rfl | rfl | rfl : k = 0 ∨ k = 1 ∨ k = 2 ∨ k = 3 := by omega
  · rw [show c * 2 ^ (8 * 0) = 256 ^ 0 * c by omega]; exact IntWalk.wrap64_in _ ⟨by omega, by omega⟩
  · rw [show c * 2 ^ (8 * 1) = 256 ^ 1 * c by omega]; exact IntWalk.wrap64_in _ ⟨by omega, by omega⟩
  · rw [show c * 2 ^ (8 * 2) = 256 ^ 2 * c by omega]; exact IntWalk.wrap64_in _ ⟨by omega, by omega⟩
  · rw [show c * 2 ^ (8 * 3) = 256 ^ 3 * c by omega]; exact IntWalk.wrap64_in _ ⟨by omega, by omega⟩

def seekSt (st : CSt) (n : Int) : CSt := if st.e ≠ 0 then st else if n < 0 then { st with e := 1 } else if (st.d.length : Int) < n then { st with e := 1 } else { st with p := n.toNat }

end Go.Proofs.Ytmbgjkghcpkoiaa

