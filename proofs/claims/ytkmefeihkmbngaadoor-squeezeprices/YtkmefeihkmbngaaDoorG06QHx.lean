import Derived.Test.YtkmefeihkmbngaaDoorG05Pks
import Derived.Test.YtkmefeihkmbngaaDoorRows
import Derived.WalkKit
import Derived.ProofKit
import Derived.OpenShut
import Derived.ShutString
import Derived.ChangeOld
import Derived.Below
import Derived.WalkLawsBesides
import Derived.WalkSpells
import Derived.Deep.QuietTactic
import Derived.BigQuiet
import Derived.Laws.CopyOwn
import Derived.SizedLaws
import Derived.Maps.Own
import Derived.Laws.BytesArg
import Derived.Laws.BitsLemmas
import Derived.Maps.AppendAt
import Derived.Deep.AppendSrc
import Derived.Deep.AppendLies
import Derived.Deep.RegionLaw
import Derived.BigRegion
namespace Go.Proofs.YtkmefeihkmbngaaDoor

/-! What both calls' lists are good for, said of the used symbols 'us6' with frequencies f. -/

def leafs (f : Nat → Nat) (us6 : List Nat) : List Nod := us6.map fun s => (f s, [s])

theorem syms_leafs (f : Nat → Nat) (us6 : List Nat) : syms (leafs f us6) = us6 := by
  induction us6 with
  | nil => rfl
  | cons a l ih => simp only [leafs, syms, List.map_cons, List.flatMap_cons] at ih ⊢; rw [ih]; rfl

def prs (f len : Nat → Nat) (us6 : List Nat) : List (Nat × Nat) := us6.map fun s => (f s, len s)

theorem prs_fst (f len : Nat → Nat) (us6 : List Nat) : (prs f len us6).map (·.1) = us6.map f := by simp [prs, Function.comp_def]
theorem prs_prc (f len : Nat → Nat) (us6 : List Nat) : prc (prs f len us6) = fl f len us6 := by simp [prs, prc, fl, Function.comp_def]
theorem prs_krf (N : Nat) (f len : Nat → Nat) (us6 : List Nat) : krf N (prs f len us6) = (us6.map fun s => 2 ^ (N - len s)).sum := by simp [prs, krf, Function.comp_def]

theorem sum_range {α : Type} (l : List α) (d : α) (g : α → Nat) : (l.map g).sum = sm l.length (fun i => g (l.getD i d)) := by
  have key : ∀ n, n ≤ l.length → ((l.take n).map g).sum = sm n (fun i => g (l.getD i d)) := fun n hn => by
    induction n with
    | zero => simp [sm]
    | succ n ih =>
      rw [List.take_succ_eq_append_getElem (by omega), List.map_append, List.sum_append, ih (by omega), sm_succ, List.getD_eq_getElem?_getD, List.getElem?_eq_getElem (show n < l.length by omega)]
      simp
  have := key l.length (Nat.le_refl _)
  rwa [List.take_length] at this

theorem limited_good {f len : Nat → Nat} {us6 : List Nat} (L : Nat) (hL : 1 ≤ L) (hu : 1 ≤ us6.length) (hw : Rise (us6.map f)) (hfit : us6.length ≤ 2 ^ L)
    (hlen : ∀ i, i < us6.length → len (us6.getD i 0) = ct (sel (us6.map f) L (2 * (us6.length - 1))) i) :
    (us6.map fun s => 2 ^ (L - len s)).sum = 2 ^ L ∧ (∀ s ∈ us6, len s ≤ L) ∧ ∀ o, (∀ s ∈ us6, o s ≤ L) → (us6.map fun s => 2 ^ (L - o s)).sum ≤ 2 ^ L → fl f len us6 ≤ fl f o us6 := by
  obtain ⟨k, rfl⟩ : ∃ k, L = k + 1 := ⟨L - 1, by omega⟩
  have hwl : (us6.map f).length = us6.length := List.length_map ..
  have hroom : 2 * (us6.length - 1) ≤ (row (us6.map f) (k + 1)).length := by
    have := row_room (us6.map f) k 2 (by rw [hwl, Nat.mul_comm, ← Nat.pow_succ]; exact hfit)
    rw [hwl] at this
    omega
  obtain ⟨s1, s2, s3⟩ := sel_facts (k + 1) _ hroom
  have s4 := sel_falls hw (k + 1) _ hroom
  have s5 := sel_len (us6.map f) (k + 1) (2 * (us6.length - 1))
  obtain ⟨cs, hcs⟩ : ∃ cs, cs = sel (us6.map f) (k + 1) (2 * (us6.length - 1)) := ⟨_, rfl⟩
  rw [← hcs] at s1 s2 s3 s4 s5 hlen
  rw [hwl] at s1
  have k1 := kr_sel cs s4 us6.length s1
  rw [s5] at k1
  have e1 : (us6.map fun s => 2 ^ (k + 1 - len s)).sum = sm us6.length (fun i => 2 ^ (k + 1 - ct cs i)) := by
    rw [sum_range us6 0]
    exact sm_congr fun i hi => by rw [hlen i hi]
  have hdist : 2 * (us6.length - 1) * 2 ^ (k + 1) + 2 * 2 ^ (k + 1) = 2 * (us6.length * 2 ^ (k + 1)) := by
    obtain ⟨n, hn⟩ : ∃ n, us6.length = n + 1 := ⟨us6.length - 1, by omega⟩
    rw [hn, Nat.add_sub_cancel, Nat.add_mul, Nat.mul_assoc]
    omega
  refine ⟨by rw [e1]; omega, ?_, fun o ho hk => ?_⟩
  · intro s hs
    obtain ⟨i, hi, rfl⟩ := List.getElem_of_mem hs
    have := hlen i hi
    rw [List.getD_eq_getElem?_getD, List.getElem?_eq_getElem hi, Option.getD_some] at this
    rw [this, ← s5]
    exact ct_le cs i
  · have c1 := coins (k + 1) (prs f o us6) (by rw [prs_fst]; exact hw) (by
      intro x hx
      obtain ⟨s, hs, rfl⟩ := List.mem_map.1 hx
      exact ho s hs) (by rw [← krf, prs_krf]; exact hk)
    rw [prs_fst, show (prs f o us6).length = us6.length by simp [prs], s3] at c1
    have e2 : fl f len us6 = lvc (us6.map f) cs := by
      rw [← prc_sel _ _ (by rw [hwl]; exact s1), hwl]
      unfold fl
      rw [sum_range us6 0]
      exact sm_congr fun i hi => by
        rw [hlen i hi]
        congr 1
        simp [List.getD, hi]
    have e3 : ((prs f o us6).map fun x => x.1 * x.2).sum = fl f o us6 := prs_prc f o us6
    omega
end Go.Proofs.YtkmefeihkmbngaaDoor

namespace Go.Proofs.YtkmefeihkmbngaaDoor

/-! Depths as a function of rows: the lightest is looked for one by one; the row keeps the order of the numbers. -/

def nod0 : Nod := (0, [])

def lgk (row : List Nod) : Nat → Nat
  | 0 => 0
  | k + 1 => if (row.getD (k + 1) nod0).1 < (row.getD (lgk row k) nod0).1 then k + 1 else lgk row k

def lgt (row : List Nod) : Nat := lgk row (row.length - 1)

def fir (row : List Nod) : Nod := row.getD (lgt row) nod0
def wo (row : List Nod) : List Nod := row.eraseIdx (lgt row)
def hjn (row : List Nod) : Nod := ((fir row).1 + (fir (wo row)).1, (fir row).2 ++ (fir (wo row)).2)
def hst (row : List Nod) : List Nod := wo (wo row) ++ [hjn row]

def hrun : Nat → List Nod → (Nat → Nat) → (Nat → Nat)
  | 0, _, len => len
  | n + 1, row, len => hrun n (hst row) (bmp len (hjn row).2)

/-! Frequencies by a factor. -/

/-! Other names for the symbols. -/

/-! Package-merge by a factor. -/

end Go.Proofs.YtkmefeihkmbngaaDoor

namespace Go.Proofs.YtkmefeihkmbngaaDoor

/-! The program's joining: each node of the row bears a number; for each number the holder's. -/

abbrev Znd := Nod × Nat

end Go.Proofs.YtkmefeihkmbngaaDoor

namespace Go.Proofs.YtkmefeihkmbngaaDoor.H4
open Go.RowKit

def SI (w : World) (v : Value) (l : List Int) : Prop :=
  ∃ ao cap, v = .slice ao l.length cap ∧ l.length ≤ cap ∧ cap ≤ maxLen ∧ (ao = none → cap = 0) ∧ ∀ x, ao = some x → ∀ i, i < l.length → w.cell? (x.add i) = some (.int .i64 (l.getD i 0))

def OI (w : World) (base : Nat) (v : Value) (l : List Int) : Prop := w.ownsRow base 3 1 v l.length (l.map (Value.int .i64))

theorem hide {p : Prop} (h : p) : Hid p := h
theorem unhide {p : Prop} (h : Hid p) : p := h

theorem add_block (x : Addr) (i : Nat) : (x.add i).block = x.block := by unfold Addr.add; split <;> rfl

theorem SI.move {w w' : World} {v : Value} {l : List Int} (h : SI w v l) (hc : ∀ a u, w.cell? a = some u → v.ownBlock = some a.block → w'.cell? a = some u) : SI w' v l := by
  obtain ⟨ao, cap, rfl, h1, h2, h3, h4⟩ := h
  refine ⟨ao, cap, rfl, h1, h2, h3, fun x hx i hi => hc _ _ (h4 x hx i hi) ?_⟩
  subst hx; simp [Value.ownBlock, add_block]

theorem SI.below {w w' : World} {v : Value} {l : List Int} (h : SI w v l) (hb : Below w.heap.size w w') : SI w' v l :=
  h.move fun a _ ha _ => (hb.cell (World.block_lt_of_cell? w a ha)).trans ha

theorem OI.lt {w : World} {base : Nat} {v : Value} {l : List Int} (h : OI w base v l) : ∀ k, v.ownBlock = some k → base ≤ k ∧ k < w.heap.size := World.ownsRow.lt h

theorem OI.sb {w : World} {base : Nat} {v : Value} {l : List Int} (h : OI w base v l) : SI w v l := by
  have hc := @World.ownsRow.cells _ _ _ _ _ _ _ h
  rcases h.2 with ⟨rfl, h0⟩ | ⟨g, cap, cur, rfl, _, _, h3, h4, _, _⟩
  · obtain rfl : l = [] := List.eq_nil_of_length_eq_zero h0
    exact ⟨none, 0, rfl, Nat.le_refl _, Nat.zero_le _, fun _ => rfl, fun x hx => by cases hx⟩
  · refine ⟨some ⟨g, 0, none⟩, cap, rfl, h3, h4, (fun e => by cases e), fun x hx i hi => ?_⟩
    cases hx
    refine hc (g := g) rfl i _ ?_
    simp [hi]

theorem OI.shape {w : World} {base : Nat} {v : Value} {l : List Int} (h : OI w base v l) : ∃ a c, v = .slice a l.length c := by
  rcases h.2 with ⟨rfl, h0⟩ | ⟨g, cap, cur, rfl, _⟩
  · exact ⟨none, 0, by rw [h0]⟩
  · exact ⟨_, _, rfl⟩

theorem OI.move {w w' : World} {base : Nat} {v : Value} {l : List Int} (h : OI w base v l) (hb : ∀ k, v.ownBlock = some k → w'.heap[k]? = w.heap[k]?) : OI w' base v l := by
  refine ⟨h.1, ?_⟩
  rcases h.2 with h2 | ⟨g, cap, cur, rfl, h1, h2, r⟩
  · exact .inl h2
  · exact .inr ⟨g, cap, cur, rfl, h1, (hb g rfl).trans h2, r⟩

theorem OI.base {w : World} {base base' : Nat} {v : Value} {l : List Int} (h : OI w base v l) (hb : base' ≤ base) : OI w base' v l := by
  refine ⟨h.1, ?_⟩
  rcases h.2 with h2 | ⟨g, cap, cur, rfl, h1, r⟩
  · exact .inl h2
  · exact .inr ⟨g, cap, cur, rfl, Nat.le_trans hb h1, r⟩

theorem OI.below {w w' : World} {base B : Nat} {v : Value} {l : List Int} (h : OI w base v l) (hb : Below B w w') (hB : w.heap.size ≤ B) : OI w' base v l :=
  h.move fun k hk => hb.block k (Nat.lt_of_lt_of_le (h.lt k hk).2 hB)

theorem size_alloc' (w : World) (o : Obj) : (w.alloc o).heap.size = w.heap.size + 1 := by simp

theorem heap_two (w : World) (o p : Obj) : ((w.alloc o).alloc p).heap[w.heap.size + 1]? = some p ∧ ((w.alloc o).alloc p).heap[w.heap.size]? = some o := by
  have e := heap_alloc_new (w.alloc o) p
  rw [size_alloc'] at e
  exact ⟨e, (Below.heap_alloc (w.alloc o) p w.heap.size (by rw [size_alloc']; omega)).trans (heap_alloc_new w o)⟩

theorem infoInt : (Tryd.prog.info? 3).map (fun i => (i.zero, i.size, i.bytes)) = some (some (.int .i64 0), 1, 8) := by kernel_rfl

theorem madeInts (n : Nat) : (madeCells #[Value.int .i64 0] n).toList = List.replicate n (Value.int .i64 0) := by
  have e : ∀ k : Nat, [Value.int IntKind.i64 0][k % 1]?.getD default = Value.int .i64 0 := fun k => by simp [Nat.mod_one]
  simp only [madeCells]
  simp [e, List.map_const']

theorem OI.of_full {w : World} {base g : Nat} {l : List Int} (hg : w.heap[g]? = some (.cells (l.map (Value.int .i64)).toArray 3 (0, 0))) (hb : base ≤ g) (hm : l.length ≤ maxLen) : OI w base (.slice (some ⟨g, 0, none⟩) l.length l.length) l :=
  ⟨by simp, .inr ⟨g, l.length, _, rfl, hb, hg, Nat.le_refl _, hm, by simp, List.take_of_length_le (by simp)⟩⟩

theorem addr_lit {w : World} {x : Addr} {u : Value} (h : w.cell? (x.add 0) = some u) : ∃ b o, x = ⟨b, o, none⟩ := by
  have hs := World.cell?_spot h
  obtain ⟨b, o, s⟩ := x
  refine ⟨b, o, ?_⟩
  unfold Addr.add at hs
  cases s with
  | none => rfl
  | some q => simp at hs

theorem take_step {l1 l2 : List Int} {k : Nat} (h1 : k < l1.length) (hl : l1.length = l2.length) (ht : l1.take k = l2.take k) :
    (l1.getD k 0 = l2.getD k 0 → l1.take (k + 1) = l2.take (k + 1)) ∧ (l1.getD k 0 ≠ l2.getD k 0 → l1 ≠ l2) := by
  refine ⟨fun h => ?_, fun h e => h (by rw [e])⟩
  have e1 : l1.getD k 0 = l1[k] := by simp [h1]
  have e2 : l2.getD k 0 = l2[k]'(by omega) := by simp [show k < l2.length by omega]
  rw [e1, e2] at h
  rw [List.take_succ_eq_append_getElem h1, List.take_succ_eq_append_getElem (by omega), ht, h]

theorem size_setCell (w : World) (a : Addr) (u : Value) : (w.setCell a u).heap.size = w.heap.size := by simp [World.setCell]

theorem setCell_others (w : World) (g o : Nat) (u : Value) : ∀ k, k ≠ g → (w.setCell ⟨g, o, none⟩ u).heap[k]? = w.heap[k]? := fun k hk => Below.heap_setCell w _ u k hk

end Go.Proofs.YtkmefeihkmbngaaDoor.H4

namespace Go.Proofs.YtkmefeihkmbngaaDoor.H4

structure It (V : Type) where
  key : Int
  turn : Int
  val : V

instance {V : Type} [Inhabited V] : Inhabited (It V) := ⟨⟨0, 0, default⟩⟩

variable {V : Type}

def Lt (a b : It V) : Prop := a.key < b.key ∨ a.key = b.key ∧ a.turn < b.turn

instance (a b : It V) : Decidable (Lt a b) := by unfold Lt; infer_instance

theorem Lt.asymm {a b : It V} (h : Lt a b) : ¬ Lt b a := by unfold Lt at *; omega

theorem Lt.ntrans {a b c : It V} (h : ¬ Lt a b) (k : ¬ Lt b c) : ¬ Lt a c := by unfold Lt at *; omega

variable [Inhabited V]

def pt (xs : List (It V)) (i : Nat) : It V := xs.getD i default

theorem pt_eq {xs : List (It V)} {i : Nat} (h : i < xs.length) : pt xs i = xs[i] := by simp [pt, h]

def swp (xs : List (It V)) (i j : Nat) : List (It V) := (xs.set i (pt xs j)).set j (pt xs i)

@[simp] theorem length_swp (xs : List (It V)) (i j : Nat) : (swp xs i j).length = xs.length := by simp [swp]

def Tree (xs : List (It V)) : Prop := ∀ i, 0 < i → i < xs.length → ¬ Lt (pt xs i) (pt xs ((i - 1) / 2))

def fstTo (R : List (It V)) : Nat → Nat
  | 0 => 0
  | k + 1 => if (pt R k).key < (pt R (fstTo R k)).key then k else fstTo R k

def Asc (R : List (It V)) : Prop := ∀ i j, i < j → j < R.length → (pt R i).turn < (pt R j).turn

structure Holds (xs R : List (It V)) (n : Int) : Prop where
  tree : Tree xs
  perm : xs.Perm R
  asc : Asc R
  low : ∀ i, i < R.length → (pt R i).turn < n

theorem Holds.len {xs R : List (It V)} {n : Int} (h : Holds xs R n) : xs.length = R.length := h.perm.length_eq

theorem Asc.snoc {R : List (It V)} {n : Int} (h : Asc R) (hl : ∀ i, i < R.length → (pt R i).turn < n) (x : It V) (hx : x.turn = n) : Asc (R ++ [x]) ∧ ∀ i, i < (R ++ [x]).length → (pt (R ++ [x]) i).turn < n + 1 := by
  have e1 : ∀ i, i < R.length → pt (R ++ [x]) i = pt R i := fun i hi => by unfold pt; rw [List.getD, List.getD, List.getElem?_append_left hi]
  have e2 : pt (R ++ [x]) R.length = x := by unfold pt; simp [List.getD]
  refine ⟨fun i j hij hj => ?_, fun i hi => ?_⟩
  · rw [List.length_append, List.length_singleton] at hj
    by_cases ej : j = R.length
    · rw [ej, e2, e1 i (by omega), hx]
      exact hl i (by omega)
    · rw [e1 j (by omega), e1 i (by omega)]
      exact h i j hij (by omega)
  · rw [List.length_append, List.length_singleton] at hi
    by_cases ei : i = R.length
    · rw [ei, e2, hx]; omega
    · rw [e1 i (by omega)]
      have := hl i (by omega)
      omega

end Go.Proofs.YtkmefeihkmbngaaDoor.H4

namespace Go.Proofs.YtkmefeihkmbngaaDoor.H4
open Go.RowKit Go.Maps
set_option maxRecDepth 20000

end Go.Proofs.YtkmefeihkmbngaaDoor.H4

