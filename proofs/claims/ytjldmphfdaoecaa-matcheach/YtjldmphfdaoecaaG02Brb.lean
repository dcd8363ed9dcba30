import Derived.Test.YtjldmphfdaoecaaG01App
import Derived.Test.YtjldmphfdaoecaaG00Tnm
import Derived.Laws.StructEq
import Derived.Handy
namespace Go.Proofs.Ytjldmphfdaoecaa
open Go.RowKit Go.Maps
set_option maxRecDepth 20000
set_option linter.unusedVariables false

theorem SB.open {w : World} {v : Value} {l : List Int} (h : SB w v l) : ∃ ao cap, v = .slice ao l.length cap ∧ l.length ≤ cap ∧ cap ≤ 9223372036854775807 := by
  obtain ⟨ao, cap, rfl, h1, h2, _⟩ := h
  unfold maxLen at h2
  exact ⟨ao, cap, rfl, h1, by omega⟩

theorem SB.get {W w : World} {ao : Option Addr} {cap : Nat} {l : List Int} (h : SB W (.slice ao l.length cap) l) (hb : Below W.heap.size W w) {k : Nat} (hk : k < l.length) : ∃ b o, ao = some ⟨b, o, none⟩ ∧ w.cell? ⟨b, o + k, none⟩ = some (.int .u8 (l.getD k 0)) := by
  obtain ⟨ao', cap', he, h1, h2, h3, h4⟩ := h
  simp only [Value.slice.injEq] at he
  obtain ⟨rfl, -, rfl⟩ := he
  cases ao with
  | none => have := h3 rfl; omega
  | some x =>
    obtain ⟨b, o, rfl⟩ := addr_lit (h4 x rfl 0 (by omega))
    have c1 := h4 _ rfl k hk
    rw [Addr.add_lit] at c1
    exact ⟨b, o, rfl, (hb.cell (World.block_lt_of_cell? W _ c1)).trans c1⟩

def fr3 (R : List Tk) : List Value := R.flatMap fun r => [.int .i64 r.1, .int .i64 r.2.1, .int .u8 r.2.2]

theorem fr3_get {R : List Tk} {i : Nat} (h : i < R.length) : (fr3 R)[i * 3]? = some (.int .i64 (R.getD i tk0).1) ∧ (fr3 R)[i * 3 + 1]? = some (.int .i64 (R.getD i tk0).2.1) ∧ (fr3 R)[i * 3 + 2]? = some (.int .u8 (R.getD i tk0).2.2) := by
  induction R generalizing i with
  | nil => simp at h
  | cons a r ih =>
    cases i with
    | zero => exact ⟨rfl, rfl, rfl⟩
    | succ i =>
      have := ih (i := i) (by simpa using h)
      have e : fr3 (a :: r) = .int .i64 a.1 :: .int .i64 a.2.1 :: .int .u8 a.2.2 :: fr3 r := rfl
      rw [e, show (i + 1) * 3 = i * 3 + 1 + 1 + 1 by omega, show i * 3 + 1 + 1 + 1 + 1 = (i * 3 + 1) + 1 + 1 + 1 by omega, show i * 3 + 1 + 1 + 1 + 2 = (i * 3 + 2) + 1 + 1 + 1 by omega]
      simp only [List.getElem?_cons_succ]
      exact this

theorem fr3_snoc (R : List Tk) (p : Tk) : fr3 (R ++ [p]) = fr3 R ++ [.int .i64 p.1, .int .i64 p.2.1, .int .u8 p.2.2] := by simp [fr3]
theorem fr3_app (R S : List Tk) : fr3 (R ++ S) = fr3 R ++ fr3 S := by simp [fr3]

def SK (w : World) (v : Value) (R : List Tk) : Prop :=
  ∃ ao cap, v = .slice ao R.length cap ∧ R.length ≤ cap ∧ cap ≤ maxLen ∧ (ao = none → cap = 0) ∧ ∀ x, ao = some x → ∀ i, i < R.length → w.cell? (x.add (i * 3)) = some (.int .i64 (R.getD i tk0).1) ∧ w.cell? (x.add (i * 3 + 1)) = some (.int .i64 (R.getD i tk0).2.1) ∧ w.cell? (x.add (i * 3 + 2)) = some (.int .u8 (R.getD i tk0).2.2)

def OK (w : World) (base : Nat) (v : Value) (R : List Tk) : Prop := w.ownsRow base 38 3 v R.length (fr3 R)

theorem SK.drewN {w : World} {v : Value} {R : List Tk} (h : SK w v R) (n : Nat) : SK (w.drewN n) v R := h

theorem SK.open {w : World} {v : Value} {R : List Tk} (h : SK w v R) : ∃ ao cap, v = .slice ao R.length cap ∧ R.length ≤ cap ∧ cap ≤ 9223372036854775807 := by
  obtain ⟨ao, cap, rfl, h1, h2, _⟩ := h
  unfold maxLen at h2
  exact ⟨ao, cap, rfl, h1, by omega⟩

theorem SK.get {W w : World} {ao : Option Addr} {cap : Nat} {R : List Tk} (h : SK W (.slice ao R.length cap) R) (hb : Below W.heap.size W w) {k : Nat} (hk : k < R.length) : ∃ b o, ao = some ⟨b, o, none⟩ ∧ w.cell? ⟨b, o + k * 3, none⟩ = some (.int .i64 (R.getD k tk0).1) ∧ w.cell? ⟨b, o + k * 3 + 1, none⟩ = some (.int .i64 (R.getD k tk0).2.1) ∧ w.cell? ⟨b, o + k * 3 + 2, none⟩ = some (.int .u8 (R.getD k tk0).2.2) := by
  obtain ⟨ao', cap', he, h1, h2, h3, h4⟩ := h
  simp only [Value.slice.injEq] at he
  obtain ⟨rfl, -, rfl⟩ := he
  cases ao with
  | none => have := h3 rfl; omega
  | some x =>
    obtain ⟨b, o, rfl⟩ := addr_lit (h4 x rfl 0 (by omega)).1
    obtain ⟨c1, c2, c3⟩ := h4 _ rfl k hk
    rw [Addr.add_lit] at c1 c2 c3
    exact ⟨b, o, rfl, (hb.cell (World.block_lt_of_cell? W _ c1)).trans c1, (hb.cell (World.block_lt_of_cell? W _ c2)).trans c2, (hb.cell (World.block_lt_of_cell? W _ c3)).trans c3⟩

theorem SK.front {w : World} {ao : Option Addr} {cap : Nat} {R : List Tk} (h : SK w (.slice ao R.length cap) R) {n : Nat} (hn : n ≤ R.length) : SK w (.slice ao n cap) (R.take n) := by
  obtain ⟨ao', cap', he, h1, h2, h3, h4⟩ := h
  simp only [Value.slice.injEq] at he
  obtain ⟨rfl, -, rfl⟩ := he
  have hl : (R.take n).length = n := by simp; omega
  refine ⟨ao, cap, by rw [hl], by omega, h2, h3, fun x hx i hi => ?_⟩
  have hi' : i < n := by omega
  have e : (R.take n).getD i tk0 = R.getD i tk0 := by simp [hi']
  rw [e]
  exact h4 x hx i (by omega)

theorem tokown_move {w w' : World} {base : Nat} {e : TypeId} {size : Nat} {v : Value} {n : Nat} {xs : List Value} (h : w.ownsRow base e size v n xs) (hb : ∀ k, v.ownBlock = some k → w'.heap[k]? = w.heap[k]?) : w'.ownsRow base e size v n xs := by
  refine ⟨h.1, ?_⟩
  rcases h.2 with h2 | ⟨g, cap, cur, rfl, h1, h2, r⟩
  · exact .inl h2
  · exact .inr ⟨g, cap, cur, rfl, h1, (hb g rfl).trans h2, r⟩

theorem OK.lt {w : World} {base : Nat} {v : Value} {R : List Tk} (h : OK w base v R) : ∀ k, v.ownBlock = some k → base ≤ k ∧ k < w.heap.size := World.ownsRow.lt h
theorem OK.below {w w' : World} {base B : Nat} {v : Value} {R : List Tk} (h : OK w base v R) (hb : Below B w w') (hB : w.heap.size ≤ B) : OK w' base v R := tokown_move h fun k hk => hb.block k (Nat.lt_of_lt_of_le (h.lt k hk).2 hB)
theorem OK.drewN {w : World} {base : Nat} {v : Value} {R : List Tk} (h : OK w base v R) (n : Nat) : OK (w.drewN n) base v R := tokown_move h fun _ _ => rfl
theorem OK.alloc {w : World} {base : Nat} {v : Value} {R : List Tk} (h : OK w base v R) (o : Obj) : OK (w.alloc o) base v R := tokown_move h fun k hk => Below.heap_alloc w o k (h.lt k hk).2
theorem OK.base {w : World} {base base' : Nat} {v : Value} {R : List Tk} (h : OK w base v R) (hb : base' ≤ base) : OK w base' v R := by
  refine ⟨h.1, ?_⟩
  rcases h.2 with h2 | ⟨g, cap, cur, rfl, h1, r⟩
  · exact .inl h2
  · exact .inr ⟨g, cap, cur, rfl, Nat.le_trans hb h1, r⟩

theorem OK.shape {w : World} {base : Nat} {v : Value} {R : List Tk} (h : OK w base v R) : ∃ a c, v = .slice a R.length c ∧ R.length ≤ c ∧ c ≤ 9223372036854775807 := by
  rcases h.2 with ⟨rfl, h0⟩ | ⟨g, cap, cur, rfl, _, _, h3, h4, _⟩
  · exact ⟨none, 0, by rw [h0], by omega, by omega⟩
  · unfold maxLen at h4; exact ⟨_, _, rfl, h3, by omega⟩

theorem OK.sk {w : World} {base : Nat} {v : Value} {R : List Tk} (h : OK w base v R) : SK w v R := by
  have hc := @World.ownsRow.cells _ _ _ _ _ _ _ h
  rcases h.2 with ⟨rfl, h0⟩ | ⟨g, cap, cur, rfl, _, _, h3, h4, _⟩
  · obtain rfl : R = [] := List.eq_nil_of_length_eq_zero h0
    exact ⟨none, 0, rfl, Nat.le_refl _, Nat.zero_le _, fun _ => rfl, fun x hx => by cases hx⟩
  · refine ⟨some ⟨g, 0, none⟩, cap, rfl, h3, h4, (fun e => by cases e), fun x hx i hi => ?_⟩
    cases hx
    obtain ⟨g1, g2, g3⟩ := fr3_get hi
    exact ⟨hc (g := g) rfl _ _ g1, hc (g := g) rfl _ _ g2, hc (g := g) rfl _ _ g3⟩

theorem OK.nil (w : World) (base : Nat) : OK w base (.slice none 0 0) [] := World.ownsRow_nil _ _ _ _

theorem infoTok : (Try.prog.info? 38).map (fun i => (i.zero, i.size, i.bytes)) = some (some (.agg #[.int .i64 0, .int .i64 0, .int .u8 0]), 3, 24) := by kernel_rfl

end Go.Proofs.Ytjldmphfdaoecaa

namespace Go.Proofs.Ytjldmphfdaoecaa
open Go.RowKit Go.Maps
set_option maxRecDepth 20000
set_option linter.unusedVariables false

def Dmn (x y : Int) : Prop := 1 ≤ x ∧ x ≤ 32768 ∧ 0 ≤ y ∧ y ≤ 4096
instance (x y : Int) : Decidable (Dmn x y) := by unfold Dmn; infer_instance
def dmn (x y : Int) : Bool := decide (Dmn x y)

end Go.Proofs.Ytjldmphfdaoecaa

namespace Go.Proofs.Ytjldmphfdaoecaa
open Go.RowKit Go.Maps
set_option maxRecDepth 20000
set_option linter.unusedVariables false

theorem ldom_any (x y : Int) (z : Bool) (w : World) : Calls Try.prog 7 #[.agg #[.int .i64 x, .int .i64 y, .bool z]] w fun e w' => e = .returned (.bool (dmn x y)) ∧ Below w.heap.size w w' := by
  have HB : Hid (Below w.heap.size w (w.alloc (.cells #[.int .i64 x, .int .i64 y, .bool z] 24))) := (Below.refl _ _).alloc (Nat.le_refl _) _
  obtain ⟨wb, hwb⟩ : ∃ wb, w.alloc (.cells #[.int .i64 x, .int .i64 y, .bool z] 24) = wb := ⟨_, rfl⟩
  have d1 : wb.cell? ⟨w.heap.size, 0, none⟩ = some (.int .i64 x) := by rw [← hwb]; unfold World.cell?; simp only [heap_alloc_new]; rfl
  have d2 : wb.cell? ⟨w.heap.size, 1, none⟩ = some (.int .i64 y) := by rw [← hwb]; unfold World.cell?; simp only [heap_alloc_new]; rfl
  rw [hwb] at HB
  by_cases h0 : 1 ≤ x
  · have g0 : decide (1 ≤ x) = true := decide_eq_true h0
    by_cases h1 : x ≤ 32768
    · have g1 : decide (x ≤ 32768) = true := decide_eq_true h1
      by_cases h2 : 0 ≤ y
      · have g2 : decide (0 ≤ y) = true := decide_eq_true h2
        by_cases h3 : y ≤ 4096
        · have g3 : decide (y ≤ 4096) = true := decide_eq_true h3
          have HE : Hid (dmn x y = true) := decide_eq_true ⟨h0, h1, h2, h3⟩
          go_enter Try.func7, Try.ntmps7
          go_wp2
          go_ret
          rw [HE.out]
          exact ⟨rfl, HB.out⟩
        · have g3 : decide (y ≤ 4096) = false := decide_eq_false h3
          have HE : Hid (dmn x y = false) := decide_eq_false (fun q => h3 q.2.2.2)
          go_enter Try.func7, Try.ntmps7
          go_wp2
          go_ret
          rw [HE.out]
          exact ⟨rfl, HB.out⟩
      · have g2 : decide (0 ≤ y) = false := decide_eq_false h2
        have HE : Hid (dmn x y = false) := decide_eq_false (fun q => h2 q.2.2.1)
        go_enter Try.func7, Try.ntmps7
        go_wp2
        go_ret
        rw [HE.out]
        exact ⟨rfl, HB.out⟩
    · have g1 : decide (x ≤ 32768) = false := decide_eq_false h1
      have HE : Hid (dmn x y = false) := decide_eq_false (fun q => h1 q.2.1)
      go_enter Try.func7, Try.ntmps7
      go_wp2
      go_ret
      rw [HE.out]
      exact ⟨rfl, HB.out⟩
  · have g0 : decide (1 ≤ x) = false := decide_eq_false h0
    have HE : Hid (dmn x y = false) := decide_eq_false (fun q => h0 q.1)
    go_enter Try.func7, Try.ntmps7
    go_wp2
    go_ret
    rw [HE.out]
    exact ⟨rfl, HB.out⟩

end Go.Proofs.Ytjldmphfdaoecaa

namespace Go.Proofs.Ytjldmphfdaoecaa
open Go.RowKit Go.Maps
set_option maxRecDepth 20000
set_option linter.unusedVariables false

end Go.Proofs.Ytjldmphfdaoecaa

