import Derived.Test.YtpmgnpfpnkmmbaaGreatDoorG28Cpb
import Derived.Test.YtpmgnpfpnkmmbaaGreatDoorG25QBase
namespace Go.Proofs.YtpmgnpfpnkmmbaaGreatDoor
open Go.RowKit Go.Maps
set_option maxRecDepth 20000

/-- The first so many lie within 0 and hi. -/
def bnd (l : List Int) (hi : Int) (k : Nat) : Prop := ∀ i, i < k → 0 ≤ l.getD i 0 ∧ l.getD i 0 ≤ hi

def bnb (l : List Int) (hi : Int) : Bool := l.all fun x => decide (0 ≤ x) && decide (x ≤ hi)

theorem bnb_iff {l : List Int} {hi : Int} : bnb l hi = true ↔ bnd l hi l.length := by
  unfold bnb bnd
  simp only [List.all_eq_true, Bool.and_eq_true, decide_eq_true_eq]
  constructor
  · intro h i hi
    rw [show l.getD i 0 = l[i] by simp [hi]]
    exact h _ (List.getElem_mem hi)
  · intro h x hx
    obtain ⟨i, hi, rfl⟩ := List.getElem_of_mem hx
    have := h i hi
    rwa [show l.getD i 0 = l[i] by simp [hi]] at this

theorem bnd_succ {l : List Int} {hi : Int} {k : Nat} (h : bnd l hi k) (hk : 0 ≤ l.getD k 0 ∧ l.getD k 0 ≤ hi) : bnd l hi (k + 1) := fun i hi => by
  by_cases e : i = k
  · subst e; exact hk
  · exact h i (by omega)

theorem bnb_no {l : List Int} {hi : Int} {k : Nat} (hk : k < l.length) (h : ¬ (0 ≤ l.getD k 0 ∧ l.getD k 0 ≤ hi)) : bnb l hi = false := by
  cases e : bnb l hi with
  | false => rfl
  | true => exact absurd (bnb_iff.1 e k hk) h

def cs (f n : List Int) : Nat → Int
  | 0 => 0
  | k + 1 => cs f n k + f.getD k 0 * n.getD k 0

def cstE (f n : List Int) : Int := if 288 < f.length ∨ n.length ≠ f.length ∨ bnb n 288 = false then 1 else if bnb f 4294967296 = false then 61 else 0
def cstV (f n : List Int) : Int := if cstE f n = 0 then cs f n f.length else 0

theorem cs_bound {f n : List Int} {k : Nat} (hf : bnd f 4294967296 k) (hn : bnd n 288 k) : 0 ≤ cs f n k ∧ cs f n k ≤ 1236950581248 * k := by
  induction k with
  | zero => simp [cs]
  | succ k ih =>
    obtain ⟨a, b⟩ := ih (fun i hi => hf i (by omega)) (fun i hi => hn i (by omega))
    obtain ⟨c, d⟩ := hf k (by omega)
    obtain ⟨p, q⟩ := hn k (by omega)
    simp only [cs]
    have h1 : 0 ≤ f.getD k 0 * n.getD k 0 := Int.mul_nonneg c p
    have h2 : f.getD k 0 * n.getD k 0 ≤ 4294967296 * 288 := Int.mul_le_mul d q p (by omega)
    omega

end Go.Proofs.YtpmgnpfpnkmmbaaGreatDoor

namespace Go.Proofs.YtpmgnpfpnkmmbaaGreatDoor
open Go.RowKit Go.Maps
set_option maxRecDepth 20000
set_option linter.unusedVariables false

/-- Numbers as ints. -/
def ci (l : List Nat) : List Int := l.map fun s : Nat => (s : Int)

theorem ci_len (l : List Nat) : (ci l).length = l.length := by simp [ci]

theorem ci_get {l : List Nat} {k : Nat} : (ci l).getD k 0 = ((l.getD k 0 : Nat) : Int) := by
  simp only [ci, List.getD_eq_getElem?_getD, List.getElem?_map]
  cases l[k]? <;> simp

theorem getD_mem6 {l : List Nat} {k : Nat} (h : k < l.length) : l.getD k 0 ∈ l := by
  rw [show l.getD k 0 = l[k] by simp [h]]
  exact List.getElem_mem h

/-- The symbols that are used, among the first k. -/
def usk (l : List Int) (k : Nat) : List Nat := (List.range k).filter fun s => decide (0 < l.getD s 0)
def us6 (l : List Int) : List Nat := usk l l.length

theorem usk_succ (l : List Int) (k : Nat) : usk l (k + 1) = usk l k ++ if 0 < l.getD k 0 then [k] else [] := by
  unfold usk
  rw [List.range_succ, List.filter_append]
  by_cases h : 0 < l.getD k 0
  · rw [if_pos h]; congr 1; rw [List.filter_cons_of_pos (by simpa using h)]; rfl
  · rw [if_neg h]; congr 1; rw [List.filter_cons_of_neg (by simpa using h)]; rfl

theorem usk_len (l : List Int) (k : Nat) : (usk l k).length ≤ k := by
  have := List.length_filter_le (fun s => decide (0 < l.getD s 0)) (List.range k)
  rw [List.length_range] at this
  exact this

theorem mem_us {l : List Int} {s : Nat} : s ∈ us6 l ↔ s < l.length ∧ 0 < l.getD s 0 := by
  unfold us6 usk
  simp [List.mem_filter]

theorem us_nodup (l : List Int) : (us6 l).Nodup := List.nodup_range.filter _

theorem us_rise (l : List Int) : (us6 l).Pairwise (· < ·) := List.pairwise_lt_range.filter _

theorem OI.putg {w : World} {B g n c : Nat} {l : List Int} (h : OI w B (.slice (some ⟨g, 0, none⟩) n c) l) {k : Nat} (hk : k < l.length) (m : Int) :
    (∃ u, w.cell? ⟨g, k, none⟩ = some u) ∧ w.frozen? ⟨g, k, none⟩ = false ∧ OI (w.setCell ⟨g, k, none⟩ (.int .i64 m)) B (.slice (some ⟨g, 0, none⟩) n c) (l.set k m) := by
  obtain ⟨g', c', hv, h1, h2, h3⟩ := h.put hk m
  simp only [Value.slice.injEq, Option.some.injEq, Addr.mk.injEq, and_true] at hv
  obtain ⟨rfl, -, -⟩ := hv
  exact ⟨h1, h2, h3⟩

theorem mk_oi {w w' : World} {n : Nat} (hg : w'.heap[w.heap.size]? = some (.cells (List.replicate n (Value.int .i64 0)).toArray 3 (0, 0))) (hn : n ≤ 1000000) : OI w' w.heap.size (.slice (some ⟨w.heap.size, 0, none⟩) n n) (List.replicate n 0) := by
  have h := OI.of_full (w := w') (base := w.heap.size) (g := w.heap.size) (l := List.replicate n 0) (by rw [List.map_replicate]; exact hg) (Nat.le_refl _) (by rw [List.length_replicate]; unfold maxLen; omega)
  rwa [List.length_replicate] at h

/-- n numbers, g's at the places of S, 0 elsewhere. -/
def spr (n : Nat) (S : List Nat) (g : Nat → Int) : List Int := (List.range n).map fun s => if s ∈ S then g s else 0

theorem spr_len (n : Nat) (S : List Nat) (g : Nat → Int) : (spr n S g).length = n := by simp [spr]

theorem spr_nil (n : Nat) (g : Nat → Int) : spr n [] g = List.replicate n 0 := by
  unfold spr
  simp [List.map_const']

theorem spr_step {n : Nat} {S : List Nat} (g : Nat → Int) {k : Nat} (hk : k < S.length) : (spr n (S.take k) g).set (S.getD k 0) (g (S.getD k 0)) = spr n (S.take (k + 1)) g := by
  apply List.ext_getElem
  · simp [spr]
  · intro i h1 h2
    rw [List.getElem_set]
    have e : S.take (k + 1) = S.take k ++ [S.getD k 0] := by
      rw [List.take_succ_eq_append_getElem hk]
      simp [hk]
    by_cases c : S.getD k 0 = i
    · rw [if_pos c]
      simp only [spr, List.getElem_map, List.getElem_range]
      rw [if_pos (by rw [e, ← c]; simp), c]
    · rw [if_neg c]
      simp only [spr, List.getElem_map, List.getElem_range]
      have : i ∈ S.take (k + 1) ↔ i ∈ S.take k := by
        rw [e, List.mem_append]
        constructor
        · rintro (h | h)
          · exact h
          · simp at h; exact absurd h.symm (by simpa using c)
        · exact .inl
      by_cases q : i ∈ S.take k
      · rw [if_pos q, if_pos (this.2 q)]
      · rw [if_neg q, if_neg fun h => q (this.1 h)]

theorem gm_get {S : List Nat} {g : Nat → Int} {k : Nat} (h : k < S.length) : (S.map g).getD k 0 = g (S.getD k 0) := by
  rw [List.getD_eq_getElem?_getD, List.getElem?_map, List.getElem?_eq_getElem h]
  simp [h]

/-- The first k of g's numbers of S, zeros behind them. -/
def pik (S : List Nat) (g : Nat → Int) (k : Nat) : List Int := (S.take k).map g ++ List.replicate (S.length - k) 0

theorem pik_len {S : List Nat} (g : Nat → Int) {k : Nat} (h : k ≤ S.length) : (pik S g k).length = S.length := by
  simp [pik]; omega

theorem pik_step {S : List Nat} (g : Nat → Int) {k : Nat} (hk : k < S.length) : (pik S g k).set k (g (S.getD k 0)) = pik S g (k + 1) := by
  unfold pik
  obtain ⟨m, hm⟩ : ∃ m, S.length - k = m + 1 := ⟨S.length - k - 1, by omega⟩
  have hm2 : S.length - (k + 1) = m := by omega
  have hl : ((S.take k).map g).length = k := by simp; omega
  rw [hm, hm2, List.take_succ_eq_append_getElem hk, List.map_append]
  conv => lhs; arg 2; rw [← hl]
  rw [List.set_append_right _ _ (Nat.le_refl _), Nat.sub_self, List.replicate_succ, List.set_cons_zero]
  simp [hk]

end Go.Proofs.YtpmgnpfpnkmmbaaGreatDoor

namespace Go.Proofs.YtpmgnpfpnkmmbaaGreatDoor
open Go.RowKit Go.Maps
set_option maxRecDepth 20000
set_option linter.unusedVariables false

/-- The heap's row and the row of nodes with numbers tell the same. -/
def Hz (R : List (H4.It Int)) (Z : List Znd) : Prop := R.map (fun x => (x.key, x.val)) = Z.map fun z => ((z.1.1 : Int), (z.2 : Int))

theorem Hz.len {R : List (H4.It Int)} {Z : List Znd} (h : Hz R Z) : R.length = Z.length := by
  have := congrArg List.length h
  simpa using this

theorem Hz.at {R : List (H4.It Int)} {Z : List Znd} (h : Hz R Z) {i : Nat} (hi : i < Z.length) : (H4.pt R i).key = ((Z.getD i (nod0, 0)).1.1 : Int) ∧ (H4.pt R i).val = ((Z.getD i (nod0, 0)).2 : Int) := by
  have hr : i < R.length := by rw [h.len]; exact hi
  have e := congrArg (fun l => l[i]?) h
  simp only [List.getElem?_map, List.getElem?_eq_getElem hr, List.getElem?_eq_getElem hi, Option.map_some, Option.some.injEq, Prod.mk.injEq] at e
  rw [H4.pt_eq hr, show Z.getD i (nod0, 0) = Z[i] by simp [hi]]
  exact e

theorem zro_get (Z : List Znd) (i : Nat) : (zro Z).getD i nod0 = (Z.getD i (nod0, 0)).1 := by
  simp only [zro, List.getD_eq_getElem?_getD, List.getElem?_map]
  cases Z[i]? <;> rfl

theorem Hz.fst {R : List (H4.It Int)} {Z : List Znd} (h : Hz R Z) (k : Nat) (hk : k < Z.length) : H4.fstTo R (k + 1) = lgk (zro Z) k := by
  induction k with
  | zero =>
    show (if _ then 0 else 0) = 0
    split <;> rfl
  | succ k ih =>
    have ih := ih (by omega)
    have e : H4.fstTo R (k + 2) = if (H4.pt R (k + 1)).key < (H4.pt R (H4.fstTo R (k + 1))).key then k + 1 else H4.fstTo R (k + 1) := rfl
    have hle := lgk_le (zro Z) k
    rw [e, ih, (h.at hk).1, (h.at (i := lgk (zro Z) k) (by omega)).1]
    simp only [lgk, zro_get]
    by_cases c : (Z.getD (k + 1) (nod0, 0)).1.1 < (Z.getD (lgk (zro Z) k) (nod0, 0)).1.1
    · rw [if_pos c, if_pos (by omega)]
    · rw [if_neg c, if_neg (by omega)]

theorem Hz.pop {R : List (H4.It Int)} {Z : List Znd} (h : Hz R Z) (h0 : 0 < Z.length) : H4.pkK R = ((zfi Z).1.1 : Int) ∧ H4.pkV R = ((zfi Z).2 : Int) ∧ Hz (H4.rest R) (zwo Z) := by
  have hr : 0 < R.length := by rw [h.len]; exact h0
  have hne : ¬ R = [] := fun e => by rw [e] at hr; simp at hr
  have e : H4.fstTo R R.length = zlg Z := by
    have := h.fst (Z.length - 1) (by omega)
    rw [show Z.length - 1 + 1 = Z.length by omega] at this
    rw [h.len, this]
    unfold zlg lgt
    rw [zro_len]
  have hl := zlg_lt h0
  have ha := h.at hl
  refine ⟨?_, ?_, ?_⟩
  · unfold H4.pkK; rw [if_neg hne, e]; exact ha.1
  · unfold H4.pkV; rw [if_neg hne, e]; exact ha.2
  · unfold H4.rest zwo Hz
    rw [e, ← erase_map, ← erase_map]
    rw [show R.map (fun x => (x.key, x.val)) = _ from h]

theorem Hz.push {R : List (H4.It Int)} {Z : List Znd} (h : Hz R Z) (n : Int) (x : Nod) (j : Nat) : Hz (R ++ [⟨x.1, n, j⟩]) (Z ++ [(x, j)]) := by
  unfold Hz at h ⊢
  rw [List.map_append, List.map_append, h]
  rfl

/-- The list of holders. -/
def hls (N : Nat) (H : Nat → Nat) : List Int := (List.range N).map fun v => (H v : Int)

theorem hls_len (N : Nat) (H : Nat → Nat) : (hls N H).length = N := by simp [hls]

theorem hls_set (N : Nat) (H : Nat → Nat) (a b j : Nat) : ((hls N H).set a j).set b j = hls N (upd H a b j) := by
  apply List.ext_getElem
  · simp [hls]
  · intro i h1 h2
    simp only [List.getElem_set, hls, List.getElem_map, List.getElem_range, upd]
    by_cases c : b = i
    · have c' : i = b := c.symm
      simp only [if_pos c, if_pos c']
    · have c' : ¬ i = b := fun e => c e.symm
      by_cases d : a = i
      · have d' : i = a := d.symm
        simp only [if_neg c, if_neg c', if_pos d, if_pos d']
      · have d' : ¬ i = a := fun e => d e.symm
        simp only [if_neg c, if_neg c', if_neg d, if_neg d']

theorem hls_zero (N : Nat) : hls N (fun _ => 0) = List.replicate N 0 := by simp [hls, List.map_const']

/-- Total weight of a row. -/
def zsum (Z : List Znd) : Nat := (Z.map fun z => z.1.1).sum

theorem zsum_two {Z : List Znd} (h : 2 ≤ Z.length) : (zfi Z).1.1 + (zfi (zwo Z)).1.1 + zsum (zwo (zwo Z)) = zsum Z := by
  have := perm_sum (fun z : Znd => z.1.1) (zperm2 h)
  unfold zsum
  rw [this]
  simp
  omega

theorem zsum_st {Z : List Znd} (h : 2 ≤ Z.length) (j : Nat) : zsum (zst Z j) = zsum Z := by
  rw [← zsum_two h]
  unfold zsum zst
  rw [List.map_append, List.sum_append]
  have e : (hjn (zro Z)).1 = (zfi Z).1.1 + (zfi (zwo Z)).1.1 := by
    unfold hjn
    rw [zfi_fst, zfi_fst, zro_wo]
  simp [e]
  omega

theorem zfi_mem {Z : List Znd} (h : 2 ≤ Z.length) : zfi Z ∈ Z ∧ zfi (zwo Z) ∈ Z := by
  have := zperm2 h
  exact ⟨this.symm.subset (by simp), this.symm.subset (by simp)⟩

theorem zwo2 {Z : List Znd} (h : 2 ≤ Z.length) : 0 < (zwo Z).length := by rw [zwo_len (by omega)]; omega
end Go.Proofs.YtpmgnpfpnkmmbaaGreatDoor

namespace Go.Proofs.YtpmgnpfpnkmmbaaGreatDoor
open Go.RowKit Go.Maps
set_option maxRecDepth 20000
set_option linter.unusedVariables false

theorem pushK {w wr w' : World} {K K' : Nat → Nat} {h : Nat} (hf : H4.Fr K K' wr w') (hh : h < wr.heap.size) (h0 : K h = 0) : K' h = 0 := by rw [hf.role h hh]; exact h0

theorem oiFr {w wr w' : World} {K K' : Nat → Nat} {h n c base : Nat} {l : List Int} (hf : H4.Fr K K' wr w') (ho : OI wr base (.slice (some ⟨h, 0, none⟩) n c) l) (hh : h < wr.heap.size) (h0 : K h = 0) : OI w' base (.slice (some ⟨h, 0, none⟩) n c) l :=
  ho.move fun k hk => by
    simp only [Value.ownBlock, Option.some.injEq] at hk
    subst hk
    exact hf.block _ hh h0

end Go.Proofs.YtpmgnpfpnkmmbaaGreatDoor

