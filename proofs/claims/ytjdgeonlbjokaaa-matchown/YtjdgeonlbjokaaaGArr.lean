import Derived.Test.YtjdgeonlbjokaaaGInts
import Derived.Test.YtjdgeonlbjokaaaGRev
import Derived.Laws.Rows
import Derived.Laws.Tables
namespace Go.Proofs.Ytjdgeonlbjokaaa
open Go.RowKit Go.Maps
set_option maxRecDepth 20000

/-- An array of sixteen numbers. -/
def av (f : Nat → Int) : Array Value := Array.ofFn fun i : Fin 16 => Value.int .i64 (f i)

theorem av_size (f : Nat → Int) : (av f).size = 16 := by simp [av]

theorem av_get (f : Nat → Int) {i : Nat} (h : i < 16) : (av f)[i]? = some (.int .i64 (f i)) := by simp [av, h]

def upf (f : Nat → Int) (i : Nat) (x : Int) : Nat → Int := fun k => if k = i then x else f k

theorem av_set (f : Nat → Int) {i : Nat} (x : Int) (h : i < 16) : (av f).setIfInBounds i (.int .i64 x) = av (upf f i x) := by
  apply Array.ext_getElem?
  intro k
  rw [Array.getElem?_setIfInBounds]
  by_cases e : i = k
  · subst e; simp [av, h, upf]
  · rw [if_neg e]
    by_cases hk : k < 16
    · have : k ≠ i := fun h => e h.symm
      simp [av, hk, upf, this]
    · simp [av, hk]

theorem av_congr {f g : Nat → Int} (h : ∀ i, i < 16 → f i = g i) : av f = av g := by
  unfold av
  congr 1
  funext i
  rw [h i i.2]

theorem av_one (f : Nat → Int) : (av f).all (·.oneCell') = true := by
  rw [Array.all_eq_true]
  intro i hi
  simp [av, Value.oneCell']

theorem av_zero : av (fun _ => 0) = #[.int .i64 0, .int .i64 0, .int .i64 0, .int .i64 0, .int .i64 0, .int .i64 0, .int .i64 0, .int .i64 0, .int .i64 0, .int .i64 0, .int .i64 0, .int .i64 0, .int .i64 0, .int .i64 0, .int .i64 0, .int .i64 0] := rfl

theorem SI.get {W w : World} {ao : Option Addr} {cap : Nat} {l : List Int} (h : SI W (.slice ao l.length cap) l) (hb : Below W.heap.size W w) {k : Nat} (hk : k < l.length) : ∃ b o, ao = some ⟨b, o, none⟩ ∧ w.cell? ⟨b, o + k, none⟩ = some (.int .i64 (l.getD k 0)) := by
  obtain ⟨ao', cap', he, h1, h2, h3, h4⟩ := h
  simp only [Value.slice.injEq] at he
  obtain ⟨rfl, -, rfl⟩ := he
  cases ao with
  | none => have := h3 rfl; omega
  | some x =>
    obtain ⟨b, o, rfl⟩ := addr_lit (h4 x rfl 0 (by omega))
    have hc := h4 _ rfl k hk
    have hbl := World.block_lt_of_cell? _ _ hc
    rw [Addr.add_lit] at hc hbl
    exact ⟨b, o, rfl, (hb.cell hbl).trans hc⟩

theorem SI.open {w : World} {v : Value} {l : List Int} (h : SI w v l) : ∃ ao cap, v = .slice ao l.length cap ∧ l.length ≤ cap ∧ cap ≤ 9223372036854775807 := by
  obtain ⟨ao, cap, rfl, h1, h2, _⟩ := h
  unfold maxLen at h2
  exact ⟨ao, cap, rfl, h1, by omega⟩

theorem cn_snoc {l : List Int} {k : Nat} (hk : k < l.length) (n : Nat) : cn (l.take (k + 1)) n = cn (l.take k) n + if n ≠ 0 ∧ l.getD k 0 = (n : Int) then 1 else 0 := by
  unfold cn
  by_cases h : n = 0
  · simp [h]
  · rw [if_neg h, if_neg h, count_take_succ l _ hk]
    by_cases e : l.getD k 0 = (n : Int)
    · rw [if_pos e, if_pos ⟨h, e⟩]
    · rw [if_neg e, if_neg (fun x => e x.2)]

theorem cn_step {l : List Int} {k n : Nat} (hk : k < l.length) (hn : l.getD k 0 = (n : Int)) :
    (n = 0 → (av fun m => (cn (l.take (k + 1)) m : Int)) = av fun m => (cn (l.take k) m : Int)) ∧ (n ≠ 0 → (av fun m => (cn (l.take (k + 1)) m : Int)) = av (upf (fun m => (cn (l.take k) m : Int)) n ((cn (l.take k) n : Int) + 1))) := by
  refine ⟨fun h => av_congr fun i _ => ?_, fun h => av_congr fun i _ => ?_⟩
  · rw [cn_snoc hk, if_neg (fun x => x.1 (by have := x.2; omega))]; rfl
  · rw [cn_snoc hk]
    unfold upf
    by_cases e : i = n
    · subst e
      rw [if_pos ⟨h, hn⟩, if_pos rfl]; omega
    · rw [if_neg (fun x => e (by have := x.2; omega)), if_neg e]; rfl

theorem fi_step {l : List Int} {k : Nat} : (av (upf (fun m => if m ≤ k then (fi l m : Int) else 0) (k + 1) (((fi l k : Int) + cn l k) * 2))) = av fun m => if m ≤ k + 1 then (fi l m : Int) else 0 := by
  refine av_congr fun i _ => ?_
  unfold upf
  by_cases e : i = k + 1
  · subst e
    rw [if_pos rfl, if_pos (Nat.le_refl _)]
    simp only [fi]; omega
  · rw [if_neg e]
    show (if i ≤ k then _ else _) = _
    by_cases h : i ≤ k
    · rw [if_pos h, if_pos (by omega)]
    · rw [if_neg h, if_neg (by omega)]

end Go.Proofs.Ytjdgeonlbjokaaa

