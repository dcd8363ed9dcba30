import Derived.Test.YtpmgnpfpnkmmbaaGreatDoorG19QHops
import Derived.Test.YtpmgnpfpnkmmbaaGreatDoorG01Rnw
import Derived.WalkKit
import Derived.ProofKit
import Derived.OpenShut
import Derived.ShutString
import Derived.ChangeOld
import Derived.Below
import Derived.WalkLawsBesides
import Derived.WalkSpells
import Derived.Deep.QuietTactic
import Derived.BigQuiet
import Derived.Laws.CopyOwn
import Derived.SizedLaws
import Derived.Maps.Own
import Derived.Laws.BytesArg
import Derived.Laws.BitsLemmas
import Derived.Maps.AppendAt
import Derived.Deep.AppendSrc
import Derived.Deep.AppendLies
import Derived.Deep.RegionLaw
import Derived.Handy
import Derived.Laws.Rows
import Derived.Laws.Tables
import Derived.BigRegion
namespace Go.Proofs.YtpmgnpfpnkmmbaaGreatDoor.H4
open Go.RowKit Go.Maps
set_option maxRecDepth 20000

theorem row_move {w w' : World} {base : Nat} {e : TypeId} {size : Nat} {v : Value} {n : Nat} {xs : List Value} (h : w.ownsRow base e size v n xs) (hb : ∀ k, v.ownBlock = some k → w'.heap[k]? = w.heap[k]?) : w'.ownsRow base e size v n xs := by
  refine ⟨h.1, ?_⟩
  rcases h.2 with h2 | ⟨g, cap, cur, rfl, h1, h2, r⟩
  · exact .inl h2
  · exact .inr ⟨g, cap, cur, rfl, h1, (hb g rfl).trans h2, r⟩

theorem row_shape {w : World} {base : Nat} {e : TypeId} {size : Nat} {v : Value} {n : Nat} {xs : List Value} (h : w.ownsRow base e size v n xs) : ∃ a c, v = .slice a n c := by
  rcases h.2 with ⟨rfl, rfl⟩ | ⟨g, cap, cur, rfl, _⟩
  · exact ⟨none, 0, rfl⟩
  · exact ⟨_, _, rfl⟩

theorem row_lt {w : World} {base : Nat} {e : TypeId} {size : Nat} {v : Value} {n : Nat} {xs : List Value} (h : w.ownsRow base e size v n xs) : ∀ k, v.ownBlock = some k → k < w.heap.size := fun k hk => (World.ownsRow.lt h k hk).2

theorem heap_lt {w : World} {g : Nat} {o : Obj} (h : w.heap[g]? = some o) : g < w.heap.size := (Array.getElem?_eq_some_iff.1 h).1

end Go.Proofs.YtpmgnpfpnkmmbaaGreatDoor.H4

namespace Go.Proofs.YtpmgnpfpnkmmbaaGreatDoor.H4
open Go.RowKit Go.Maps
set_option maxRecDepth 20000

theorem rest_len {R : List (It Int)} (h : R ≠ []) : (rest R).length + 1 = R.length := by
  have hp : 0 < R.length := List.length_pos_iff.2 h
  have := fstTo_lt R R.length hp
  unfold rest
  rw [List.length_eraseIdx, if_pos this]
  omega

theorem rest_nil : rest [] = [] := rfl

end Go.Proofs.YtpmgnpfpnkmmbaaGreatDoor.H4

namespace Go.Proofs.YtpmgnpfpnkmmbaaGreatDoor
open Go.RowKit Go.Maps
set_option maxRecDepth 20000
end Go.Proofs.YtpmgnpfpnkmmbaaGreatDoor

namespace Go.Proofs.YtpmgnpfpnkmmbaaGreatDoor
open Go.RowKit Go.Maps
set_option maxRecDepth 20000

theorem take_snoc6 {l : List Int} {k : Nat} (h : k < l.length) : l.take (k + 1) = l.take k ++ [l.getD k 0] := by
  rw [List.take_succ_eq_append_getElem h]
  simp [h]

/-- One more behind an owned row. -/
theorem grow_one {w wr w3 : World} {u v3 : Value} {D : List Int} {o : Obj} (hB : Below w.heap.size w wr) (hO : OI wr w.heap.size u D) (hg : Grew (wr.alloc o) w3 u v3) : Below w.heap.size w w3 :=
  (hB.alloc hB.size _).grown hg.by (by have := hB.size; simp; omega) (fun j hj => by have := hO.lt j hj; omega)

def mk8 : List Int := List.replicate 8 (-77)

/-- A list with eight marks behind it. -/
def Lent6 (w : World) (base g c : Nat) (l : List Int) : Prop := OI w base (.slice (some ⟨g, 0, none⟩) (l.length + 8) c) (l ++ mk8)

theorem length_l8 (l : List Int) : (l ++ mk8).length = l.length + 8 := by rw [List.length_append]; rfl

theorem Lent6.cap {w : World} {base g c : Nat} {l : List Int} (h : Lent6 w base g c l) : l.length + 8 ≤ c ∧ c ≤ 9223372036854775807 := by
  obtain ⟨g', c', hv, h1, h2, h3, h4⟩ := OI.form h (by rw [length_l8]; omega)
  simp only [Value.slice.injEq] at hv
  obtain ⟨-, -, rfl⟩ := hv
  rw [length_l8] at h3
  exact ⟨h3, h4⟩

theorem Lent6.si {w : World} {base g c : Nat} {l : List Int} (h : Lent6 w base g c l) : SI w (.slice (some ⟨g, 0, none⟩) l.length c) l := OI.front (r := mk8) (by rw [length_l8]; exact h)

theorem Lent6.below {w w' : World} {base g c B : Nat} {l : List Int} (h : Lent6 w base g c l) (hb : Below B w w') (hB : w.heap.size ≤ B) : Lent6 w' base g c l := OI.below h hb hB

theorem rep_snoc (l : List Int) (k : Nat) : l ++ List.replicate (k + 1) (-77 : Int) = (l ++ List.replicate k (-77)) ++ [-77] := by
  rw [List.replicate_succ', List.append_assoc]

end Go.Proofs.YtpmgnpfpnkmmbaaGreatDoor

namespace Go.Proofs.YtpmgnpfpnkmmbaaGreatDoor
open Go.RowKit Go.Maps
set_option maxRecDepth 20000

/-- The first so many lie within 0 and hi. -/
def bnd (l : List Int) (hi : Int) (k : Nat) : Prop := ∀ i, i < k → 0 ≤ l.getD i 0 ∧ l.getD i 0 ≤ hi

def bnb (l : List Int) (hi : Int) : Bool := l.all fun x => decide (0 ≤ x) && decide (x ≤ hi)

theorem bnb_iff {l : List Int} {hi : Int} : bnb l hi = true ↔ bnd l hi l.length := by
  unfold bnb bnd
  simp only [List.all_eq_true, Bool.and_eq_true, decide_eq_true_eq]
  constructor
  · intro h i hi
    rw [show l.getD i 0 = l[i] by simp [hi]]
    exact h _ (List.getElem_mem hi)
  · intro h x hx
    obtain ⟨i, hi, rfl⟩ := List.getElem_of_mem hx
    have := h i hi
    rwa [show l.getD i 0 = l[i] by simp [hi]] at this

theorem bnd_succ {l : List Int} {hi : Int} {k : Nat} (h : bnd l hi k) (hk : 0 ≤ l.getD k 0 ∧ l.getD k 0 ≤ hi) : bnd l hi (k + 1) := fun i hi => by
  by_cases e : i = k
  · subst e; exact hk
  · exact h i (by omega)

theorem bnb_no {l : List Int} {hi : Int} {k : Nat} (hk : k < l.length) (h : ¬ (0 ≤ l.getD k 0 ∧ l.getD k 0 ≤ hi)) : bnb l hi = false := by
  cases e : bnb l hi with
  | false => rfl
  | true => exact absurd (bnb_iff.1 e k hk) h

def cs (f n : List Int) : Nat → Int
  | 0 => 0
  | k + 1 => cs f n k + f.getD k 0 * n.getD k 0

def cstE (f n : List Int) : Int := if 288 < f.length ∨ n.length ≠ f.length ∨ bnb n 288 = false then 1 else if bnb f 4294967296 = false then 61 else 0
def cstV (f n : List Int) : Int := if cstE f n = 0 then cs f n f.length else 0

theorem cs_bound {f n : List Int} {k : Nat} (hf : bnd f 4294967296 k) (hn : bnd n 288 k) : 0 ≤ cs f n k ∧ cs f n k ≤ 1236950581248 * k := by
  induction k with
  | zero => simp [cs]
  | succ k ih =>
    obtain ⟨a, b⟩ := ih (fun i hi => hf i (by omega)) (fun i hi => hn i (by omega))
    obtain ⟨c, d⟩ := hf k (by omega)
    obtain ⟨p, q⟩ := hn k (by omega)
    simp only [cs]
    have h1 : 0 ≤ f.getD k 0 * n.getD k 0 := Int.mul_nonneg c p
    have h2 : f.getD k 0 * n.getD k 0 ≤ 4294967296 * 288 := Int.mul_le_mul d q p (by omega)
    omega

end Go.Proofs.YtpmgnpfpnkmmbaaGreatDoor

namespace Go.Proofs.YtpmgnpfpnkmmbaaGreatDoor
open Go.RowKit Go.Maps
set_option maxRecDepth 20000
set_option linter.unusedVariables false

/-- Numbers as ints. -/
def ci (l : List Nat) : List Int := l.map fun s : Nat => (s : Int)

theorem ci_len (l : List Nat) : (ci l).length = l.length := by simp [ci]

theorem ci_get {l : List Nat} {k : Nat} : (ci l).getD k 0 = ((l.getD k 0 : Nat) : Int) := by
  simp only [ci, List.getD_eq_getElem?_getD, List.getElem?_map]
  cases l[k]? <;> simp

theorem getD_mem6 {l : List Nat} {k : Nat} (h : k < l.length) : l.getD k 0 ∈ l := by
  rw [show l.getD k 0 = l[k] by simp [h]]
  exact List.getElem_mem h

/-- The symbols that are used, among the first k. -/
def usk (l : List Int) (k : Nat) : List Nat := (List.range k).filter fun s => decide (0 < l.getD s 0)
def us6 (l : List Int) : List Nat := usk l l.length

theorem usk_succ (l : List Int) (k : Nat) : usk l (k + 1) = usk l k ++ if 0 < l.getD k 0 then [k] else [] := by
  unfold usk
  rw [List.range_succ, List.filter_append]
  by_cases h : 0 < l.getD k 0
  · rw [if_pos h]; congr 1; rw [List.filter_cons_of_pos (by simpa using h)]; rfl
  · rw [if_neg h]; congr 1; rw [List.filter_cons_of_neg (by simpa using h)]; rfl

theorem usk_len (l : List Int) (k : Nat) : (usk l k).length ≤ k := by
  have := List.length_filter_le (fun s => decide (0 < l.getD s 0)) (List.range k)
  rw [List.length_range] at this
  exact this

theorem mem_us {l : List Int} {s : Nat} : s ∈ us6 l ↔ s < l.length ∧ 0 < l.getD s 0 := by
  unfold us6 usk
  simp [List.mem_filter]

theorem us_nodup (l : List Int) : (us6 l).Nodup := List.nodup_range.filter _

theorem us_rise (l : List Int) : (us6 l).Pairwise (· < ·) := List.pairwise_lt_range.filter _

theorem OI.putg {w : World} {B g n c : Nat} {l : List Int} (h : OI w B (.slice (some ⟨g, 0, none⟩) n c) l) {k : Nat} (hk : k < l.length) (m : Int) :
    (∃ u, w.cell? ⟨g, k, none⟩ = some u) ∧ w.frozen? ⟨g, k, none⟩ = false ∧ OI (w.setCell ⟨g, k, none⟩ (.int .i64 m)) B (.slice (some ⟨g, 0, none⟩) n c) (l.set k m) := by
  obtain ⟨g', c', hv, h1, h2, h3⟩ := h.put hk m
  simp only [Value.slice.injEq, Option.some.injEq, Addr.mk.injEq, and_true] at hv
  obtain ⟨rfl, -, -⟩ := hv
  exact ⟨h1, h2, h3⟩

theorem mk_oi {w w' : World} {n : Nat} (hg : w'.heap[w.heap.size]? = some (.cells (List.replicate n (Value.int .i64 0)).toArray 3 (0, 0))) (hn : n ≤ 1000000) : OI w' w.heap.size (.slice (some ⟨w.heap.size, 0, none⟩) n n) (List.replicate n 0) := by
  have h := OI.of_full (w := w') (base := w.heap.size) (g := w.heap.size) (l := List.replicate n 0) (by rw [List.map_replicate]; exact hg) (Nat.le_refl _) (by rw [List.length_replicate]; unfold maxLen; omega)
  rwa [List.length_replicate] at h

/-- n numbers, g's at the places of S, 0 elsewhere. -/
def spr (n : Nat) (S : List Nat) (g : Nat → Int) : List Int := (List.range n).map fun s => if s ∈ S then g s else 0

theorem spr_len (n : Nat) (S : List Nat) (g : Nat → Int) : (spr n S g).length = n := by simp [spr]

theorem spr_nil (n : Nat) (g : Nat → Int) : spr n [] g = List.replicate n 0 := by
  unfold spr
  simp [List.map_const']

theorem spr_step {n : Nat} {S : List Nat} (g : Nat → Int) {k : Nat} (hk : k < S.length) : (spr n (S.take k) g).set (S.getD k 0) (g (S.getD k 0)) = spr n (S.take (k + 1)) g := by
  apply List.ext_getElem
  · simp [spr]
  · intro i h1 h2
    rw [List.getElem_set]
    have e : S.take (k + 1) = S.take k ++ [S.getD k 0] := by
      rw [List.take_succ_eq_append_getElem hk]
      simp [hk]
    by_cases c : S.getD k 0 = i
    · rw [if_pos c]
      simp only [spr, List.getElem_map, List.getElem_range]
      rw [if_pos (by rw [e, ← c]; simp), c]
    · rw [if_neg c]
      simp only [spr, List.getElem_map, List.getElem_range]
      have : i ∈ S.take (k + 1) ↔ i ∈ S.take k := by
        rw [e, List.mem_append]
        constructor
        · rintro (h | h)
          · exact h
          · simp at h; exact absurd h.symm (by simpa using c)
        · exact .inl
      by_cases q : i ∈ S.take k
      · rw [if_pos q, if_pos (this.2 q)]
      · rw [if_neg q, if_neg fun h => q (this.1 h)]

theorem gm_get {S : List Nat} {g : Nat → Int} {k : Nat} (h : k < S.length) : (S.map g).getD k 0 = g (S.getD k 0) := by
  rw [List.getD_eq_getElem?_getD, List.getElem?_map, List.getElem?_eq_getElem h]
  simp [h]

/-- The first k of g's numbers of S, zeros behind them. -/
def pik (S : List Nat) (g : Nat → Int) (k : Nat) : List Int := (S.take k).map g ++ List.replicate (S.length - k) 0

theorem pik_len {S : List Nat} (g : Nat → Int) {k : Nat} (h : k ≤ S.length) : (pik S g k).length = S.length := by
  simp [pik]; omega

theorem pik_step {S : List Nat} (g : Nat → Int) {k : Nat} (hk : k < S.length) : (pik S g k).set k (g (S.getD k 0)) = pik S g (k + 1) := by
  unfold pik
  obtain ⟨m, hm⟩ : ∃ m, S.length - k = m + 1 := ⟨S.length - k - 1, by omega⟩
  have hm2 : S.length - (k + 1) = m := by omega
  have hl : ((S.take k).map g).length = k := by simp; omega
  rw [hm, hm2, List.take_succ_eq_append_getElem hk, List.map_append]
  conv => lhs; arg 2; rw [← hl]
  rw [List.set_append_right _ _ (Nat.le_refl _), Nat.sub_self, List.replicate_succ, List.set_cons_zero]
  simp [hk]

end Go.Proofs.YtpmgnpfpnkmmbaaGreatDoor

