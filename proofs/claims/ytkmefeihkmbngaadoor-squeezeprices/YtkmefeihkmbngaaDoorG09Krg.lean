import Derived.Test.YtkmefeihkmbngaaDoorG06QHx
import Derived.Test.YtkmefeihkmbngaaDoorG08Usd
namespace Go.Proofs.YtkmefeihkmbngaaDoor
open Go.RowKit Go.Maps
set_option maxRecDepth 20000
set_option linter.unusedVariables false

def Hz (R : List (H4.It Int)) (Z : List Znd) : Prop := R.map (fun x => (x.key, x.val)) = Z.map fun z => ((z.1.1 : Int), (z.2 : Int))

theorem Hz.len {R : List (H4.It Int)} {Z : List Znd} (h : Hz R Z) : R.length = Z.length := by
  have := congrArg List.length h
  simpa using this

theorem Hz.at {R : List (H4.It Int)} {Z : List Znd} (h : Hz R Z) {i : Nat} (hi : i < Z.length) : (H4.pt R i).key = ((Z.getD i (nod0, 0)).1.1 : Int) ∧ (H4.pt R i).val = ((Z.getD i (nod0, 0)).2 : Int) := by
  have hr : i < R.length := by rw [h.len]; exact hi
  have e := congrArg (fun l => l[i]?) h
  simp only [List.getElem?_map, List.getElem?_eq_getElem hr, List.getElem?_eq_getElem hi, Option.map_some, Option.some.injEq, Prod.mk.injEq] at e
  rw [H4.pt_eq hr, show Z.getD i (nod0, 0) = Z[i] by simp [hi]]
  exact e

def hls (N : Nat) (H : Nat → Nat) : List Int := (List.range N).map fun v => (H v : Int)

theorem hls_len (N : Nat) (H : Nat → Nat) : (hls N H).length = N := by simp [hls]

theorem hls_zero (N : Nat) : hls N (fun _ => 0) = List.replicate N 0 := by simp [hls, List.map_const']

end Go.Proofs.YtkmefeihkmbngaaDoor

namespace Go.Proofs.YtkmefeihkmbngaaDoor
open Go.RowKit Go.Maps
set_option maxRecDepth 20000
set_option linter.unusedVariables false

end Go.Proofs.YtkmefeihkmbngaaDoor

namespace Go.Proofs.YtkmefeihkmbngaaDoor
open Go.RowKit Go.Maps
set_option maxRecDepth 20000
set_option linter.unusedVariables false

theorem hls_get {N v : Nat} (H : Nat → Nat) (h : v < N) : (hls N H).getD v 0 = (H v : Int) := by
  unfold hls
  rw [List.getD_eq_getElem?_getD, List.getElem?_map, List.getElem?_range h]
  rfl

end Go.Proofs.YtkmefeihkmbngaaDoor

namespace Go.Proofs.YtkmefeihkmbngaaDoor
open Go.RowKit Go.Maps
set_option maxRecDepth 20000
set_option linter.unusedVariables false

def fq (l : List Int) (s : Nat) : Nat := (l.getD s 0).toNat

def dp (l : List Int) (s : Nat) : Nat := if (us6 l).length = 1 then (if s ∈ us6 l then 1 else 0) else hrun ((us6 l).length - 1) (leafs (fq l) (us6 l)) (fun _ => 0) s

theorem leafs_len (f : Nat → Nat) (S : List Nat) : (leafs f S).length = S.length := by simp [leafs]

theorem fq_le {l : List Int} (h : bnd l 4294967296 l.length) {s : Nat} (hs : s ∈ us6 l) : 1 ≤ fq l s ∧ fq l s ≤ 4294967296 := by
  obtain ⟨h1, h2⟩ := mem_us.1 hs
  have := h s h1
  unfold fq
  omega

theorem sum_le {S : List Nat} {f : Nat → Nat} {b : Nat} (h : ∀ s ∈ S, f s ≤ b) : (S.map f).sum ≤ b * S.length := by
  induction S with
  | nil => simp
  | cons a r ih =>
    have h1 := ih fun s hs => h s (List.mem_cons_of_mem _ hs)
    have h2 := h a (by simp)
    simp only [List.map_cons, List.sum_cons, List.length_cons, Nat.mul_add, Nat.mul_one]
    omega

theorem us_le6 {l : List Int} : (us6 l).length ≤ l.length := usk_len l l.length

theorem tot_le {l : List Int} (h : bnd l 4294967296 l.length) (hl : l.length ≤ 288) : ((us6 l).map (fq l)).sum ≤ 1236950581248 := by
  have := sum_le (S := us6 l) (f := fq l) (b := 4294967296) fun s hs => (fq_le h hs).2
  have h2 := us_le6 (l := l)
  omega

end Go.Proofs.YtkmefeihkmbngaaDoor

namespace Go.Proofs.YtkmefeihkmbngaaDoor
open Go.RowKit Go.Maps
set_option maxRecDepth 20000
set_option linter.unusedVariables false

def nn (n : List Int) (s : Nat) : Nat := (n.getD s 0).toNat

def LenOk (f n : List Int) (lim : Int) (k : Nat) : Prop := ∀ s ∈ usk f k, 1 ≤ n.getD s 0 ∧ n.getD s 0 ≤ lim ∧ n.getD s 0 ≤ 60

end Go.Proofs.YtkmefeihkmbngaaDoor

namespace Go.Proofs.YtkmefeihkmbngaaDoor
open Go.RowKit Go.Maps
set_option maxRecDepth 20000
set_option linter.unusedVariables false

end Go.Proofs.YtkmefeihkmbngaaDoor

