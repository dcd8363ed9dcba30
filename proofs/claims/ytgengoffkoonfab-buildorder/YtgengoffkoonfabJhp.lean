import Derived.Test.YtgengoffkoonfabHld
import Derived.Test.YtgengoffkoonfabQHpop
import Derived.Test.YtgengoffkoonfabUsd
namespace Go.Proofs.Ytgengoffkoonfab
open Go.RowKit Go.Maps
set_option maxRecDepth 20000
set_option linter.unusedVariables false

/-- The heap's row and the row of nodes with numbers tell the same. -/
def Hz (R : List (H4.It Int)) (Z : List Znd) : Prop := R.map (fun x => (x.key, x.val)) = Z.map fun z => ((z.1.1 : Int), (z.2 : Int))

theorem Hz.len {R : List (H4.It Int)} {Z : List Znd} (h : Hz R Z) : R.length = Z.length := by
  have := congrArg List.length h
  simpa using this

theorem Hz.at {R : List (H4.It Int)} {Z : List Znd} (h : Hz R Z) {i : Nat} (hi : i < Z.length) : (H4.pt R i).key = ((Z.getD i (nod0, 0)).1.1 : Int) ∧ (H4.pt R i).val = ((Z.getD i (nod0, 0)).2 : Int) := by
  have hr : i < R.length := by rw [h.len]; exact hi
  have e := congrArg (fun l => l[i]?) h
  simp only [List.getElem?_map, List.getElem?_eq_getElem hr, List.getElem?_eq_getElem hi, Option.map_some, Option.some.injEq, Prod.mk.injEq] at e
  rw [H4.pt_eq hr, show Z.getD i (nod0, 0) = Z[i] by simp [hi]]
  exact e

theorem zro_get (Z : List Znd) (i : Nat) : (zro Z).getD i nod0 = (Z.getD i (nod0, 0)).1 := by
  simp only [zro, List.getD_eq_getElem?_getD, List.getElem?_map]
  cases Z[i]? <;> rfl

theorem Hz.fst {R : List (H4.It Int)} {Z : List Znd} (h : Hz R Z) (k : Nat) (hk : k < Z.length) : H4.fstTo R (k + 1) = lgk (zro Z) k := by
  induction k with
  | zero =>
    show (if _ then 0 else 0) = 0
    split <;> rfl
  | succ k ih =>
    have ih := ih (by omega)
    have e : H4.fstTo R (k + 2) = if (H4.pt R (k + 1)).key < (H4.pt R (H4.fstTo R (k + 1))).key then k + 1 else H4.fstTo R (k + 1) := rfl
    have hle := lgk_le (zro Z) k
    rw [e, ih, (h.at hk).1, (h.at (i := lgk (zro Z) k) (by omega)).1]
    simp only [lgk, zro_get]
    by_cases c : (Z.getD (k + 1) (nod0, 0)).1.1 < (Z.getD (lgk (zro Z) k) (nod0, 0)).1.1
    · rw [if_pos c, if_pos (by omega)]
    · rw [if_neg c, if_neg (by omega)]

theorem Hz.pop {R : List (H4.It Int)} {Z : List Znd} (h : Hz R Z) (h0 : 0 < Z.length) : H4.pkK R = ((zfi Z).1.1 : Int) ∧ H4.pkV R = ((zfi Z).2 : Int) ∧ Hz (H4.rest R) (zwo Z) := by
  have hr : 0 < R.length := by rw [h.len]; exact h0
  have hne : ¬ R = [] := fun e => by rw [e] at hr; simp at hr
  have e : H4.fstTo R R.length = zlg Z := by
    have := h.fst (Z.length - 1) (by omega)
    rw [show Z.length - 1 + 1 = Z.length by omega] at this
    rw [h.len, this]
    unfold zlg lgt
    rw [zro_len]
  have hl := zlg_lt h0
  have ha := h.at hl
  refine ⟨?_, ?_, ?_⟩
  · unfold H4.pkK; rw [if_neg hne, e]; exact ha.1
  · unfold H4.pkV; rw [if_neg hne, e]; exact ha.2
  · unfold H4.rest zwo Hz
    rw [e, ← erase_map, ← erase_map]
    rw [show R.map (fun x => (x.key, x.val)) = _ from h]

theorem Hz.push {R : List (H4.It Int)} {Z : List Znd} (h : Hz R Z) (n : Int) (x : Nod) (j : Nat) : Hz (R ++ [⟨x.1, n, j⟩]) (Z ++ [(x, j)]) := by
  unfold Hz at h ⊢
  rw [List.map_append, List.map_append, h]
  rfl

/-- What lies in memory while nodes are joined. -/
structure Jst (w wr : World) (K : Nat → Nat) (R : List (H4.It Int)) (t : Nat) (Z : List Znd) : Prop where
  q : H4.Hq wr K w.heap.size R t
  z : Hz R Z
  up : ∀ k, K k ≠ 0 → w.heap.size ≤ k
  b : Below w.heap.size w wr

theorem Jst.start (w : World) (o : Obj) (ho : o = .cells #[.slice none 0 0, .int .i64 0] 123) : ∃ K, Jst w (w.alloc o) K [] 0 [] := by
  refine ⟨fun k => if k = w.heap.size then 1 else 0, ⟨.inl ⟨rfl, rfl, by rw [ho]; exact heap_alloc_new w _⟩, by simp, fun k hk => ?_⟩, rfl, fun k hk => ?_, (Below.refl _ _).alloc (Nat.le_refl _) _⟩
  · by_cases e : k = w.heap.size
    · rw [e]; simp
    · simp [e] at hk
  · by_cases e : k = w.heap.size
    · omega
    · simp [e] at hk

theorem Jst.fr {w wr w' : World} {K K' : Nat → Nat} {R R' : List (H4.It Int)} {t t' : Nat} {Z Z' : List Znd} (h : Jst w wr K R t Z) (hq : H4.Hq w' K' w.heap.size R' t') (hz : Hz R' Z') (hf : H4.Fr K K' wr w') : Jst w w' K' R' t' Z' :=
  ⟨hq, hz, hf.up h.up h.b.size, h.b.trans (hf.below h.up h.b.size)⟩

/-- A write elsewhere. -/
theorem Jst.far {w wr w' : World} {K : Nat → Nat} {R : List (H4.It Int)} {t : Nat} {Z : List Znd} (h : Jst w wr K R t Z) (hs : wr.heap.size ≤ w'.heap.size) (hb : ∀ k, K k ≠ 0 → w'.heap[k]? = wr.heap[k]?) (hb2 : Below w.heap.size w w') : Jst w w' K R t Z :=
  ⟨h.q.far hs hb, h.z, h.up, hb2⟩

/-- The list of holders. -/
def hls (N : Nat) (H : Nat → Nat) : List Int := (List.range N).map fun v => (H v : Int)

theorem hls_len (N : Nat) (H : Nat → Nat) : (hls N H).length = N := by simp [hls]

theorem hls_set (N : Nat) (H : Nat → Nat) (a b j : Nat) : ((hls N H).set a j).set b j = hls N (upd H a b j) := by
  apply List.ext_getElem
  · simp [hls]
  · intro i h1 h2
    simp only [List.getElem_set, hls, List.getElem_map, List.getElem_range, upd]
    by_cases c : b = i
    · have c' : i = b := c.symm
      simp only [if_pos c, if_pos c']
    · have c' : ¬ i = b := fun e => c e.symm
      by_cases d : a = i
      · have d' : i = a := d.symm
        simp only [if_neg c, if_neg c', if_pos d, if_pos d']
      · have d' : ¬ i = a := fun e => d e.symm
        simp only [if_neg c, if_neg c', if_neg d, if_neg d']

theorem hls_zero (N : Nat) : hls N (fun _ => 0) = List.replicate N 0 := by simp [hls, List.map_const']

/-- Total weight of a row. -/
def zsum (Z : List Znd) : Nat := (Z.map fun z => z.1.1).sum

theorem zsum_two {Z : List Znd} (h : 2 ≤ Z.length) : (zfi Z).1.1 + (zfi (zwo Z)).1.1 + zsum (zwo (zwo Z)) = zsum Z := by
  have := perm_sum (fun z : Znd => z.1.1) (zperm2 h)
  unfold zsum
  rw [this]
  simp
  omega

theorem zsum_st {Z : List Znd} (h : 2 ≤ Z.length) (j : Nat) : zsum (zst Z j) = zsum Z := by
  rw [← zsum_two h]
  unfold zsum zst
  rw [List.map_append, List.sum_append]
  have e : (hjn (zro Z)).1 = (zfi Z).1.1 + (zfi (zwo Z)).1.1 := by
    unfold hjn
    rw [zfi_fst, zfi_fst, zro_wo]
  simp [e]
  omega

theorem zfi_mem {Z : List Znd} (h : 2 ≤ Z.length) : zfi Z ∈ Z ∧ zfi (zwo Z) ∈ Z := by
  have := zperm2 h
  exact ⟨this.symm.subset (by simp), this.symm.subset (by simp)⟩

theorem zwo2 {Z : List Znd} (h : 2 ≤ Z.length) : 0 < (zwo Z).length := by rw [zwo_len (by omega)]; omega
end Go.Proofs.Ytgengoffkoonfab
