import Derived.Test.YtjhgjohnfkgleabHerd
namespace Go.Proofs.Ytjhgjohnfkgleab
open Go.RowKit Go.Maps
set_option maxRecDepth 20000

structure Op4 where
  kind : Int
  key : Int
  val : Int
  two : Bool

def Op4.cells (o : Op4) : Array Value := #[.int .i64 o.kind, .int .i64 o.key, .int .i64 o.val, .bool o.two]

def stR (o : Op4) (R : List (It Int)) (n : Nat) : List (It Int) := if o.kind = 1 then R ++ [It.mk o.key (n : Int) o.val] else if o.kind = 2 then rest R else R
def stN (o : Op4) (n : Nat) : Nat := if o.kind = 1 then n + 1 else n

theorem Herd.box {W w : World} {xs : List ((Nat → Nat) × Thing)} (h : Herd W w xs) (o : Obj) : ∃ B, Herd W (w.alloc o) (xs ++ [(B, tb w.heap.size o)]) := by
  refine ⟨fun k => if k = w.heap.size then 1 else 0, h.push ((Below.refl _ _).alloc (Nat.le_refl _) _) ⟨heap_alloc_new w o, by simp, fun k hk => ?_⟩ fun k hk => ?_⟩
  · have := (one_K k _).1 hk
    rw [size_alloc']; omega
  · have := (one_K k _).1 hk
    omega

theorem Herd.at_tb {W w : World} {xs : List ((Nat → Nat) × Thing)} (h : Herd W w xs) (i : Nat) {B : Nat → Nat} {g : Nat} {o : Obj} (hi : xs[i]? = some (B, tb g o)) : w.heap[g]? = some o := by
  have : (tb g o).P w B := h.rep i _ hi
  exact this.1

theorem lt_of_get {α : Type} {xs : List α} {i : Nat} {x : α} (h : xs[i]? = some x) : i < xs.length := (List.getElem?_eq_some_iff.1 h).1

theorem get_app {α : Type} {xs ys : List α} {i : Nat} {x : α} (h : xs[i]? = some x) : (xs ++ ys)[i]? = some x := by rw [List.getElem?_append_left (lt_of_get h)]; exact h

theorem set_app {α : Type} {xs ys : List α} {i : Nat} {x y : α} (h : xs[i]? = some x) : (xs ++ ys).set i y = xs.set i y ++ ys := List.set_append_left _ _ (lt_of_get h)

theorem get_set_ne {α : Type} {xs : List α} {i j : Nat} {x y : α} (h : xs[j]? = some x) (hij : i ≠ j) : (xs.set i y)[j]? = some x := by rw [List.getElem?_set_ne hij]; exact h

theorem set_same {α : Type} {xs : List α} {i : Nat} {x : α} (h : xs[i]? = some x) : xs.set i x = xs := by
  apply List.ext_getElem?
  intro k
  by_cases e : i = k
  · subst e; rw [List.getElem?_set_self (lt_of_get h), h]
  · rw [List.getElem?_set_ne e]

theorem get_last {α : Type} (xs : List α) (x : α) : (xs ++ [x])[xs.length]? = some x := by simp

set_option maxHeartbeats 4000000 in
theorem step_any {W w : World} {xs : List ((Nat → Nat) × Thing)} (H : Herd W w xs) (i j : Nat) (hij : i ≠ j) {K L : Nat → Nat} {g s : Nat} {R : List (It Int)} {n : Nat} (hi : xs[i]? = some (K, tq g R n)) (hj : xs[j]? = some (L, tr s R)) (o : Op4) (hR : R.length ≤ 5864062014804) (hn : n ≤ 10000000000000) :
    Calls Try.prog 17 #[.pointer (some ⟨g, 0, none⟩), .pointer (some ⟨s, 0, none⟩), .agg o.cells] w fun e w' => e = .returned (.bool true) ∧ ∃ K' L', Herd W w' ((xs.set i (K', tq g (stR o R n) (stN o n))).set j (L', tr s (stR o R n))) := by
  obtain ⟨B, H1⟩ := H.box (.cells o.cells 37)
  have hi1 := get_app (ys := [(B, tb w.heap.size (.cells o.cells 37))]) hi
  have hj1 := get_app (ys := [(B, tb w.heap.size (.cells o.cells 37))]) hj
  have hlast : ∀ (W1 : World) (ys : List ((Nat → Nat) × Thing)), Herd W W1 (ys ++ [(B, tb w.heap.size (.cells o.cells 37))]) → W1.heap[w.heap.size]? = some (.cells o.cells 37) := fun _ _ h => h.at_tb _ (get_last _ _)
  have h1 := hlast _ _ H1
  have c0 : (w.alloc (.cells o.cells 37)).cell? ⟨w.heap.size, 0, none⟩ = some (.int .i64 o.kind) := cellOf h1 rfl
  have c1 : (w.alloc (.cells o.cells 37)).cell? ⟨w.heap.size, 1, none⟩ = some (.int .i64 o.key) := cellOf h1 rfl
  have c2 : (w.alloc (.cells o.cells 37)).cell? ⟨w.heap.size, 2, none⟩ = some (.int .i64 o.val) := cellOf h1 rfl
  have HL := hide hlast
  have HH1 := hide H1
  have HI1 := hide hi1
  have HJ1 := hide hj1
  have HI := hide hi
  have HJ := hide hj
  clear hlast H1 hi1 hj1 hi hj h1
  obtain ⟨w0, hw0⟩ : ∃ w0, w.alloc (.cells o.cells 37) = w0 := ⟨_, rfl⟩
  rw [hw0] at c0 c1 c2 HH1
  have hw0' : w.alloc (.cells #[.int .i64 o.kind, .int .i64 o.key, .int .i64 o.val, .bool o.two] 37) = w0 := hw0
  clear hw0
  show Calls Try.prog 17 #[.pointer (some ⟨g, 0, none⟩), .pointer (some ⟨s, 0, none⟩), .agg #[.int .i64 o.kind, .int .i64 o.key, .int .i64 o.val, .bool o.two]] w _
  by_cases k1 : o.kind = 1
  · have HS := hide (show stR o R n = R ++ [It.mk o.key (n : Int) o.val] ∧ stN o n = n + 1 from ⟨if_pos k1, if_pos k1⟩)
    rw [k1] at c0
    rw [k1] at hw0' ⊢
    clear k1
    go_enter Try.func17, Try.ntmps17
    go_wp2_with fail
    refine (hpush HH1.out i HI1.out o.key o.val hR hn).mono ?_
    rintro e w1 ⟨rfl, K', H2⟩
    rw [set_app HI.out] at H2
    have h2 := HL.out _ _ H2
    have d1 : w1.cell? ⟨w.heap.size, 1, none⟩ = some (.int .i64 o.key) := cellOf h2 rfl
    have d2 : w1.cell? ⟨w.heap.size, 2, none⟩ = some (.int .i64 o.val) := cellOf h2 rfl
    have HH2 := hide H2
    have HJ2 := hide (get_app (ys := [(B, tb w.heap.size (.cells o.cells 37))]) (get_set_ne (y := (K', tq g (R ++ [It.mk o.key (n : Int) o.val]) (n + 1))) HJ.out hij))
    clear H2 h2 c0 c1 c2
    go_wp2_with fail
    refine (hrpush HH2.out j HJ2.out (It.mk o.key (n : Int) o.val) hR).mono ?_
    rintro e w2 ⟨rfl, L', H3⟩
    rw [set_app (get_set_ne HJ.out hij)] at H3
    go_wp2
    go_ret
    refine ⟨rfl, K', L', ?_⟩
    rw [HS.out.1, HS.out.2]
    exact H3.cut
  · by_cases k2 : o.kind = 2
    · have HS := hide (show stR o R n = rest R ∧ stN o n = n from ⟨by unfold stR; rw [if_neg k1, if_pos k2], if_neg k1⟩)
      rw [k2] at c0
      rw [k2] at hw0' ⊢
      clear k1 k2
      go_enter Try.func17, Try.ntmps17
      go_wp2_with fail
      refine (hpop HH1.out i HI1.out (by omega)).mono ?_
      rintro e w1 ⟨rfl, H2⟩
      rw [set_app HI.out] at H2
      have HH2 := hide H2
      have HJ2 := hide (get_app (ys := [(B, tb w.heap.size (.cells o.cells 37))]) (get_set_ne (y := (K, tq g (rest R) n)) HJ.out hij))
      clear H2 c0 c1 c2
      go_wp2_with fail
      refine (hrpop HH2.out j HJ2.out hR).mono ?_
      rintro e w2 ⟨rfl, L', H3⟩
      rw [set_app (get_set_ne HJ.out hij)] at H3
      go_wp2
      go_ret
      refine ⟨rfl, K, L', ?_⟩
      rw [HS.out.1, HS.out.2]
      exact H3.cut
    · have HS := hide (show stR o R n = R ∧ stN o n = n from ⟨by unfold stR; rw [if_neg k1, if_neg k2], if_neg k1⟩)
      have HFIN : Hid (∀ W1, Herd W W1 (xs ++ [(B, tb w.heap.size (.cells o.cells 37))]) → ∃ K' L', Herd W W1 ((xs.set i (K', tq g (stR o R n) (stN o n))).set j (L', tr s (stR o R n)))) := fun W1 h => by
        refine ⟨K, L, ?_⟩
        rw [HS.out.1, HS.out.2, set_same HI.out, set_same HJ.out]
        exact h.cut
      by_cases k3 : o.kind = 3
      · rw [k3] at c0
        rw [k3] at hw0' ⊢
        clear k1 k2 k3
        go_enter Try.func17, Try.ntmps17
        go_wp2_with fail
        refine (hpeek HH1.out i HI1.out).mono ?_
        rintro e w1 ⟨rfl, H2⟩
        have HH2 := hide H2
        clear H2 c0 c1 c2
        go_wp2_with fail
        refine (hrpeek HH2.out j HJ1.out (by omega)).mono ?_
        rintro e w2 ⟨rfl, H3⟩
        go_wp2
        go_ret
        exact ⟨rfl, HFIN.out _ H3⟩
      · by_cases k4 : o.kind = 4
        · rw [k4] at c0
          rw [k4] at hw0' ⊢
          clear k1 k2 k3 k4
          go_enter Try.func17, Try.ntmps17
          go_wp2_with fail
          refine (hlen HH1.out i HI1.out).mono ?_
          rintro e w1 ⟨rfl, hw⟩
          subst hw
          go_wp2_with fail
          refine (hrlen HH1.out j HJ1.out).mono ?_
          rintro e w2 ⟨rfl, hw⟩
          subst hw
          go_wp2
          go_ret
          exact ⟨by simp, HFIN.out _ HH1.out⟩
        · go_enter Try.func17, Try.ntmps17
          go_wp2
          go_ret
          exact ⟨rfl, HFIN.out _ HH1.out⟩

end Go.Proofs.Ytjhgjohnfkgleab
