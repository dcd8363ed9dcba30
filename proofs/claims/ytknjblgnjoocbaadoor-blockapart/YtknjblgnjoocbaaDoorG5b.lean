import Derived.Test.YtknjblgnjoocbaaDoorG3
import Derived.Handy
import Derived.Test.YtknjblgnjoocbaaDoorG5a
import Derived.Laws.Rows
import Derived.Laws.Tables
namespace Go.Proofs.YtknjblgnjoocbaaDoor
open Go.RowKit
set_option maxRecDepth 20000

theorem u32_and1 {v : Int} (h0 : 0 ≤ v) (h1 : v < 4294967296) : bits .and .u32 v 1 = v % 2 := by
  have := bits_mask .u32 32 (by decide) (fun n a b => by rw [IntKind.wrap_u32]; omega) 1 (by decide) v h0 (by omega)
  simpa using this

theorem u32_or1 {t b : Int} (h0 : 0 ≤ t) (h1 : t < 2147483648) (hb : b = 0 ∨ b = 1) : bits .or .u32 (t * 2) b = 2 * t + b := by
  rw [bits_join .u32 32 (by decide) (fun n a b => by rw [IntKind.wrap_u32]; omega) 1 (t * 2) b (by omega) (by omega) (by omega) (by omega) (by omega) (by omega)]
  omega

def Cnt (n : Int) : Prop := 0 ≤ n ∧ n ≤ 32
instance (n : Int) : Decidable (Cnt n) := by unfold Cnt; exact inferInstance
def Fit (v n : Int) : Prop := Cnt n ∧ v < 2 ^ n.toNat
instance (v n : Int) : Decidable (Fit v n) := by unfold Fit; exact inferInstance

theorem rev_snoc (v : Int) (k : Nat) : val (bts v (k + 1)).reverse = v / 2 ^ k % 2 + 2 * val (bts v k).reverse := by
  rw [bts_snoc, List.reverse_append]
  rfl

theorem rev_bound (v : Int) (k : Nat) : 0 ≤ val (bts v k).reverse ∧ val (bts v k).reverse < 2 ^ k := by
  have := val_bound (l := (bts v k).reverse) (fun b hb => bit_bts v k b (List.mem_reverse.1 hb))
  rwa [List.length_reverse, length_bts] at this

def revN (v n : Int) : Int := if Fit v n then val (bts v n.toNat).reverse else 0
def revE (v n : Int) : Int := if Fit v n then 0 else 1

theorem rev_take {v : Int} {n i : Nat} (h : i < n) : val ((bts v n).reverse.take (i + 1)) = val ((bts v n).reverse.take i) + v / 2 ^ (n - 1 - i) % 2 * 2 ^ i := by
  have hl : i < (bts v n).reverse.length := by rw [List.length_reverse, length_bts]; exact h
  rw [List.take_succ_eq_append_getElem hl, val_append]
  have e : (bts v n).reverse[i] = v / 2 ^ (n - 1 - i) % 2 := by
    rw [List.getElem_reverse]
    have hs : bts v n = bts v (n - 1 - i) ++ bts (v / 2 ^ (n - 1 - i)) (i + 1) := by rw [← bts_split]; congr 1; omega
    have hj : (bts v n)[(bts v n).length - 1 - i]? = some (v / 2 ^ (n - 1 - i) % 2) := by
      rw [hs, List.length_append, length_bts, length_bts, List.getElem?_append_right (by rw [length_bts]; omega), length_bts]
      rw [show n - 1 - i + (i + 1) - 1 - i - (n - 1 - i) = 0 by omega]
      rfl
    obtain ⟨_, hj⟩ := List.getElem?_eq_some_iff.1 hj
    exact hj
  rw [e, List.length_take, Nat.min_eq_left (by omega)]
  simp only [val]
  rw [Int.mul_comm]
  simp

end Go.Proofs.YtknjblgnjoocbaaDoor

namespace Go.Proofs.YtknjblgnjoocbaaDoor
open Go.RowKit Go.Maps
set_option maxRecDepth 20000

/-- An array of sixteen numbers. -/
def av (f : Nat → Int) : Array Value := Array.ofFn fun i : Fin 16 => Value.int .i64 (f i)

theorem av_size (f : Nat → Int) : (av f).size = 16 := by simp [av]

theorem av_get (f : Nat → Int) {i : Nat} (h : i < 16) : (av f)[i]? = some (.int .i64 (f i)) := by simp [av, h]

def upf (f : Nat → Int) (i : Nat) (x : Int) : Nat → Int := fun k => if k = i then x else f k

theorem av_set (f : Nat → Int) {i : Nat} (x : Int) (h : i < 16) : (av f).setIfInBounds i (.int .i64 x) = av (upf f i x) := by
  apply Array.ext_getElem?
  intro k
  rw [Array.getElem?_setIfInBounds]
  by_cases e : i = k
  · subst e; simp [av, h, upf]
  · rw [if_neg e]
    by_cases hk : k < 16
    · have : k ≠ i := fun h => e h.symm
      simp [av, hk, upf, this]
    · simp [av, hk]

theorem av_congr {f g : Nat → Int} (h : ∀ i, i < 16 → f i = g i) : av f = av g := by
  unfold av
  congr 1
  funext i
  rw [h i i.2]

theorem av_one (f : Nat → Int) : (av f).all (·.oneCell') = true := by
  rw [Array.all_eq_true]
  intro i hi
  simp [av, Value.oneCell']

theorem av_zero : av (fun _ => 0) = #[.int .i64 0, .int .i64 0, .int .i64 0, .int .i64 0, .int .i64 0, .int .i64 0, .int .i64 0, .int .i64 0, .int .i64 0, .int .i64 0, .int .i64 0, .int .i64 0, .int .i64 0, .int .i64 0, .int .i64 0, .int .i64 0] := rfl

theorem SI.get {W w : World} {ao : Option Addr} {cap : Nat} {l : List Int} (h : SI W (.slice ao l.length cap) l) (hb : Below W.heap.size W w) {k : Nat} (hk : k < l.length) : ∃ b o, ao = some ⟨b, o, none⟩ ∧ w.cell? ⟨b, o + k, none⟩ = some (.int .i64 (l.getD k 0)) := by
  obtain ⟨ao', cap', he, h1, h2, h3, h4⟩ := h
  simp only [Value.slice.injEq] at he
  obtain ⟨rfl, -, rfl⟩ := he
  cases ao with
  | none => have := h3 rfl; omega
  | some x =>
    obtain ⟨b, o, rfl⟩ := addr_lit (h4 x rfl 0 (by omega))
    have hc := h4 _ rfl k hk
    have hbl := World.block_lt_of_cell? _ _ hc
    rw [Addr.add_lit] at hc hbl
    exact ⟨b, o, rfl, (hb.cell hbl).trans hc⟩

theorem SI.open {w : World} {v : Value} {l : List Int} (h : SI w v l) : ∃ ao cap, v = .slice ao l.length cap ∧ l.length ≤ cap ∧ cap ≤ 9223372036854775807 := by
  obtain ⟨ao, cap, rfl, h1, h2, _⟩ := h
  unfold maxLen at h2
  exact ⟨ao, cap, rfl, h1, by omega⟩

theorem cn_snoc {l : List Int} {k : Nat} (hk : k < l.length) (n : Nat) : cn (l.take (k + 1)) n = cn (l.take k) n + if n ≠ 0 ∧ l.getD k 0 = (n : Int) then 1 else 0 := by
  unfold cn
  by_cases h : n = 0
  · simp [h]
  · rw [if_neg h, if_neg h, count_take_succ l _ hk]
    by_cases e : l.getD k 0 = (n : Int)
    · rw [if_pos e, if_pos ⟨h, e⟩]
    · rw [if_neg e, if_neg (fun x => e x.2)]

theorem cn_step {l : List Int} {k n : Nat} (hk : k < l.length) (hn : l.getD k 0 = (n : Int)) :
    (n = 0 → (av fun m => (cn (l.take (k + 1)) m : Int)) = av fun m => (cn (l.take k) m : Int)) ∧ (n ≠ 0 → (av fun m => (cn (l.take (k + 1)) m : Int)) = av (upf (fun m => (cn (l.take k) m : Int)) n ((cn (l.take k) n : Int) + 1))) := by
  refine ⟨fun h => av_congr fun i _ => ?_, fun h => av_congr fun i _ => ?_⟩
  · rw [cn_snoc hk, if_neg (fun x => x.1 (by have := x.2; omega))]; rfl
  · rw [cn_snoc hk]
    unfold upf
    by_cases e : i = n
    · subst e
      rw [if_pos ⟨h, hn⟩, if_pos rfl]; omega
    · rw [if_neg (fun x => e (by have := x.2; omega)), if_neg e]; rfl

theorem fi_step {l : List Int} {k : Nat} : (av (upf (fun m => if m ≤ k then (fi l m : Int) else 0) (k + 1) (((fi l k : Int) + cn l k) * 2))) = av fun m => if m ≤ k + 1 then (fi l m : Int) else 0 := by
  refine av_congr fun i _ => ?_
  unfold upf
  by_cases e : i = k + 1
  · subst e
    rw [if_pos rfl, if_pos (Nat.le_refl _)]
    simp only [fi]; omega
  · rw [if_neg e]
    show (if i ≤ k then _ else _) = _
    by_cases h : i ≤ k
    · rw [if_pos h, if_pos (by omega)]
    · rw [if_neg h, if_neg (by omega)]

end Go.Proofs.YtknjblgnjoocbaaDoor

namespace Go.Proofs.YtknjblgnjoocbaaDoor
open Go.RowKit Go.Maps
set_option maxRecDepth 20000

theorem OI.get {w : World} {base : Nat} {v : Value} {l : List Int} (h : OI w base v l) {b : Nat} (hv : v.ownBlock = some b) {i : Nat} (hi : i < l.length) : w.cell? ⟨b, i, none⟩ = some (.int .i64 (l.getD i 0)) := by
  rcases h.2 with ⟨rfl, h0⟩ | ⟨g, cap, cur, rfl, h1, h2, h3, h4, h5, h6⟩
  · simp [Value.ownBlock] at hv
  · simp [Value.ownBlock] at hv
    subst hv
    have := World.ownsRow.cells h (g := g) rfl i (.int .i64 (l.getD i 0)) (by simp [hi])
    rwa [Addr.add_lit, Nat.zero_add] at this

theorem OI.put {w : World} {B : Nat} {v : Value} {l : List Int} (h : OI w B v l) {k : Nat} (hk : k < l.length) (m : Int) :
    ∃ g c, v = .slice (some ⟨g, 0, none⟩) l.length c ∧ (∃ u, w.cell? ⟨g, k, none⟩ = some u) ∧ w.frozen? ⟨g, k, none⟩ = false ∧ OI (w.setCell ⟨g, k, none⟩ (.int .i64 m)) B v (l.set k m) := by
  rcases h.2 with ⟨hv, h0⟩ | ⟨g, cap, cur, rfl, h1, h2, h3, h4, h5, h6⟩
  · omega
  · refine ⟨g, cap, rfl, ⟨_, h.get rfl hk⟩, frozen_of_row _ _ _ _ _ h2, ?_⟩
    unfold OI
    rw [List.length_set, List.map_set]
    refine ⟨by simp, .inr ⟨g, cap, _, rfl, h1, heap_setCell_same _ _ _ _ _ _ h2, h3, h4, by simpa using h5, ?_⟩⟩
    simp only [Array.toList_setIfInBounds, List.take_set]
    rw [h6]

theorem OI.form {w : World} {base : Nat} {v : Value} {l : List Int} (h : OI w base v l) (h0 : 0 < l.length) : ∃ g c, v = .slice (some ⟨g, 0, none⟩) l.length c ∧ base ≤ g ∧ g < w.heap.size ∧ l.length ≤ c ∧ c ≤ 9223372036854775807 := by
  rcases h.2 with ⟨hv, hz⟩ | ⟨g, cap, cur, rfl, h1, h2, h3, h4, h5, h6⟩
  · omega
  · unfold maxLen at h4
    exact ⟨g, cap, rfl, h1, (h.lt g rfl).2, h3, by omega⟩

/-- A list that lies in more than it says. -/
theorem OI.front {w : World} {base g c : Nat} {l r : List Int} (h : OI w base (.slice (some ⟨g, 0, none⟩) (l ++ r).length c) (l ++ r)) : SI w (.slice (some ⟨g, 0, none⟩) l.length c) l := by
  obtain ⟨ao', cap', he, h1, h2, h3, h4⟩ := h.sb
  simp only [Value.slice.injEq] at he
  obtain ⟨rfl, -, rfl⟩ := he
  rw [List.length_append] at h1
  refine ⟨_, c, rfl, by omega, h2, h3, fun x hx i hi => ?_⟩
  rw [h4 x hx i (by rw [List.length_append]; omega)]
  simp only [List.getD, List.getElem?_append_left hi]

end Go.Proofs.YtknjblgnjoocbaaDoor

