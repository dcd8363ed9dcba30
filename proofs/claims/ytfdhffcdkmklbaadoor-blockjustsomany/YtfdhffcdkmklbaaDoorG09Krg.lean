import Derived.Test.YtfdhffcdkmklbaaDoorG06QHx
import Derived.Test.YtfdhffcdkmklbaaDoorG08Usd
namespace Go.Proofs.YtfdhffcdkmklbaaDoor
open Go.RowKit Go.Maps
set_option maxRecDepth 20000
set_option linter.unusedVariables false

/-- The heap's row and the row of nodes with numbers tell the same. -/
def Hz (R : List (H4.It Int)) (Z : List Znd) : Prop := R.map (fun x => (x.key, x.val)) = Z.map fun z => ((z.1.1 : Int), (z.2 : Int))

theorem Hz.len {R : List (H4.It Int)} {Z : List Znd} (h : Hz R Z) : R.length = Z.length := by
  have := congrArg List.length h
  simpa using this

theorem Hz.at {R : List (H4.It Int)} {Z : List Znd} (h : Hz R Z) {i : Nat} (hi : i < Z.length) : (H4.pt R i).key = ((Z.getD i (nod0, 0)).1.1 : Int) ∧ (H4.pt R i).val = ((Z.getD i (nod0, 0)).2 : Int) := by
  have hr : i < R.length := by rw [h.len]; exact hi
  have e := congrArg (fun l => l[i]?) h
  simp only [List.getElem?_map, List.getElem?_eq_getElem hr, List.getElem?_eq_getElem hi, Option.map_some, Option.some.injEq, Prod.mk.injEq] at e
  rw [H4.pt_eq hr, show Z.getD i (nod0, 0) = Z[i] by simp [hi]]
  exact e

theorem zro_get (Z : List Znd) (i : Nat) : (zro Z).getD i nod0 = (Z.getD i (nod0, 0)).1 := by
  simp only [zro, List.getD_eq_getElem?_getD, List.getElem?_map]
  cases Z[i]? <;> rfl

theorem Hz.fst {R : List (H4.It Int)} {Z : List Znd} (h : Hz R Z) (k : Nat) (hk : k < Z.length) : H4.fstTo R (k + 1) = lgk (zro Z) k := by
  induction k with
  | zero =>
    show (if _ then 0 else 0) = 0
    split <;> rfl
  | succ k ih =>
    have ih := ih (by omega)
    have e : H4.fstTo R (k + 2) = if (H4.pt R (k + 1)).key < (H4.pt R (H4.fstTo R (k + 1))).key then k + 1 else H4.fstTo R (k + 1) := rfl
    have hle := lgk_le (zro Z) k
    rw [e, ih, (h.at hk).1, (h.at (i := lgk (zro Z) k) (by omega)).1]
    simp only [lgk, zro_get]
    by_cases c : (Z.getD (k + 1) (nod0, 0)).1.1 < (Z.getD (lgk (zro Z) k) (nod0, 0)).1.1
    · rw [if_pos c, if_pos (by omega)]
    · rw [if_neg c, if_neg (by omega)]

theorem Hz.pop {R : List (H4.It Int)} {Z : List Znd} (h : Hz R Z) (h0 : 0 < Z.length) : H4.pkK R = ((zfi Z).1.1 : Int) ∧ H4.pkV R = ((zfi Z).2 : Int) ∧ Hz (H4.rest R) (zwo Z) := by
  have hr : 0 < R.length := by rw [h.len]; exact h0
  have hne : ¬ R = [] := fun e => by rw [e] at hr; simp at hr
  have e : H4.fstTo R R.length = zlg Z := by
    have := h.fst (Z.length - 1) (by omega)
    rw [show Z.length - 1 + 1 = Z.length by omega] at this
    rw [h.len, this]
    unfold zlg lgt
    rw [zro_len]
  have hl := zlg_lt h0
  have ha := h.at hl
  refine ⟨?_, ?_, ?_⟩
  · unfold H4.pkK; rw [if_neg hne, e]; exact ha.1
  · unfold H4.pkV; rw [if_neg hne, e]; exact ha.2
  · unfold H4.rest zwo Hz
    rw [e, ← erase_map, ← erase_map]
    rw [show R.map (fun x => (x.key, x.val)) = _ from h]

theorem Hz.push {R : List (H4.It Int)} {Z : List Znd} (h : Hz R Z) (n : Int) (x : Nod) (j : Nat) : Hz (R ++ [⟨x.1, n, j⟩]) (Z ++ [(x, j)]) := by
  unfold Hz at h ⊢
  rw [List.map_append, List.map_append, h]
  rfl

/-- The list of holders. -/
def hls (N : Nat) (H : Nat → Nat) : List Int := (List.range N).map fun v => (H v : Int)

theorem hls_len (N : Nat) (H : Nat → Nat) : (hls N H).length = N := by simp [hls]

theorem hls_set (N : Nat) (H : Nat → Nat) (a b j : Nat) : ((hls N H).set a j).set b j = hls N (upd H a b j) := by
  apply List.ext_getElem
  · simp [hls]
  · intro i h1 h2
    simp only [List.getElem_set, hls, List.getElem_map, List.getElem_range, upd]
    by_cases c : b = i
    · have c' : i = b := c.symm
      simp only [if_pos c, if_pos c']
    · have c' : ¬ i = b := fun e => c e.symm
      by_cases d : a = i
      · have d' : i = a := d.symm
        simp only [if_neg c, if_neg c', if_pos d, if_pos d']
      · have d' : ¬ i = a := fun e => d e.symm
        simp only [if_neg c, if_neg c', if_neg d, if_neg d']

theorem hls_zero (N : Nat) : hls N (fun _ => 0) = List.replicate N 0 := by simp [hls, List.map_const']

/-- Total weight of a row. -/
def zsum (Z : List Znd) : Nat := (Z.map fun z => z.1.1).sum

theorem zsum_two {Z : List Znd} (h : 2 ≤ Z.length) : (zfi Z).1.1 + (zfi (zwo Z)).1.1 + zsum (zwo (zwo Z)) = zsum Z := by
  have := perm_sum (fun z : Znd => z.1.1) (zperm2 h)
  unfold zsum
  rw [this]
  simp
  omega

theorem zsum_st {Z : List Znd} (h : 2 ≤ Z.length) (j : Nat) : zsum (zst Z j) = zsum Z := by
  rw [← zsum_two h]
  unfold zsum zst
  rw [List.map_append, List.sum_append]
  have e : (hjn (zro Z)).1 = (zfi Z).1.1 + (zfi (zwo Z)).1.1 := by
    unfold hjn
    rw [zfi_fst, zfi_fst, zro_wo]
  simp [e]
  omega

theorem zfi_mem {Z : List Znd} (h : 2 ≤ Z.length) : zfi Z ∈ Z ∧ zfi (zwo Z) ∈ Z := by
  have := zperm2 h
  exact ⟨this.symm.subset (by simp), this.symm.subset (by simp)⟩

theorem zwo2 {Z : List Znd} (h : 2 ≤ Z.length) : 0 < (zwo Z).length := by rw [zwo_len (by omega)]; omega
end Go.Proofs.YtfdhffcdkmklbaaDoor

namespace Go.Proofs.YtfdhffcdkmklbaaDoor
open Go.RowKit Go.Maps
set_option maxRecDepth 20000
set_option linter.unusedVariables false

theorem pushK {w wr w' : World} {K K' : Nat → Nat} {h : Nat} (hf : H4.Fr K K' wr w') (hh : h < wr.heap.size) (h0 : K h = 0) : K' h = 0 := by rw [hf.role h hh]; exact h0

theorem oiFr {w wr w' : World} {K K' : Nat → Nat} {h n c base : Nat} {l : List Int} (hf : H4.Fr K K' wr w') (ho : OI wr base (.slice (some ⟨h, 0, none⟩) n c) l) (hh : h < wr.heap.size) (h0 : K h = 0) : OI w' base (.slice (some ⟨h, 0, none⟩) n c) l :=
  ho.move fun k hk => by
    simp only [Value.ownBlock, Option.some.injEq] at hk
    subst hk
    exact hf.block _ hh h0

end Go.Proofs.YtfdhffcdkmklbaaDoor

namespace Go.Proofs.YtfdhffcdkmklbaaDoor
open Go.RowKit Go.Maps
set_option maxRecDepth 20000
set_option linter.unusedVariables false

/-- Depths from the last number down, so many told. -/
def dn (H : Nat → Nat) (r : Nat) : Nat → List Int
  | 0 => List.replicate (r + 1) 0
  | j + 1 => (dn H r j).set (r - 1 - j) ((dn H r j).getD (H (r - 1 - j)) 0 + 1)

theorem dn_len (H : Nat → Nat) (r j : Nat) : (dn H r j).length = r + 1 := by
  induction j with
  | zero => simp [dn]
  | succ j ih => simp [dn, ih]

theorem dn_keep (H : Nat → Nat) (r j i v : Nat) (hv : r ≤ v + j) (hj : j + i ≤ r) : (dn H r (j + i)).getD v 0 = (dn H r j).getD v 0 := by
  induction i with
  | zero => rfl
  | succ i ih =>
    rw [← ih (by omega)]
    show ((dn H r (j + i)).set (r - 1 - (j + i)) _).getD v 0 = _
    rw [List.getD_eq_getElem?_getD, List.getElem?_set_ne (by omega), ← List.getD_eq_getElem?_getD]

theorem dn_root (H : Nat → Nat) (r j : Nat) (hj : j ≤ r) : (dn H r j).getD r 0 = 0 := by
  have := dn_keep H r 0 j r (by omega) (by omega)
  rw [Nat.zero_add] at this
  rw [this]
  simp [dn]

theorem dn_step (H : Nat → Nat) (r v : Nat) (hv : v < r) (hH : v < H v) : (dn H r r).getD v 0 = (dn H r r).getD (H v) 0 + 1 := by
  have e1 := dn_keep H r (r - v) v v (by omega) (by omega)
  have e2 := dn_keep H r (r - 1 - v) (v + 1) (H v) (by omega) (by omega)
  rw [show r - v + v = r by omega] at e1
  rw [show r - 1 - v + (v + 1) = r by omega] at e2
  rw [e1, e2, show r - v = r - 1 - v + 1 by omega]
  show ((dn H r (r - 1 - v)).set (r - 1 - (r - 1 - v)) _).getD v 0 = _
  rw [show r - 1 - (r - 1 - v) = v by omega]
  rw [List.getD_eq_getElem?_getD, List.getElem?_set_self (by rw [dn_len]; omega)]
  rfl

theorem dn_bound (H : Nat → Nat) (r j v : Nat) : 0 ≤ (dn H r j).getD v 0 ∧ (dn H r j).getD v 0 ≤ j := by
  induction j generalizing v with
  | zero =>
    simp only [dn, List.getD_eq_getElem?_getD, List.getElem?_replicate]
    split <;> simp
  | succ j ih =>
    show 0 ≤ ((dn H r j).set (r - 1 - j) _).getD v 0 ∧ _
    by_cases c : r - 1 - j = v
    · subst c
      by_cases d : r - 1 - j < (dn H r j).length
      · have h := ih (H (r - 1 - j))
        have e : ((dn H r j).set (r - 1 - j) ((dn H r j).getD (H (r - 1 - j)) 0 + 1)).getD (r - 1 - j) 0 = (dn H r j).getD (H (r - 1 - j)) 0 + 1 := by
          rw [List.getD_eq_getElem?_getD, List.getElem?_set_self d]
          rfl
        simp only [dn, e]
        omega
      · rw [dn_len] at d; omega
    · have h := ih v
      have e : ((dn H r j).set (r - 1 - j) ((dn H r j).getD (H (r - 1 - j)) 0 + 1)).getD v 0 = (dn H r j).getD v 0 := by
        rw [List.getD_eq_getElem?_getD, List.getElem?_set_ne c, ← List.getD_eq_getElem?_getD]
      simp only [dn, e]
      omega

theorem hls_get {N v : Nat} (H : Nat → Nat) (h : v < N) : (hls N H).getD v 0 = (H v : Int) := by
  unfold hls
  rw [List.getD_eq_getElem?_getD, List.getElem?_map, List.getElem?_range h]
  rfl

end Go.Proofs.YtfdhffcdkmklbaaDoor

namespace Go.Proofs.YtfdhffcdkmklbaaDoor
open Go.RowKit Go.Maps
set_option maxRecDepth 20000
set_option linter.unusedVariables false

def fq (l : List Int) (s : Nat) : Nat := (l.getD s 0).toNat

/-- Depths' length of a symbol. -/
def dp (l : List Int) (s : Nat) : Nat := if (us6 l).length = 1 then (if s ∈ us6 l then 1 else 0) else hrun ((us6 l).length - 1) (leafs (fq l) (us6 l)) (fun _ => 0) s

def dpt (l : List Int) : List Int := (List.range l.length).map fun s => (dp l s : Int)
def dptE (l : List Int) : Int := if 288 < l.length then 1 else if bnb l 4294967296 = false then 61 else 0
def dptL (l : List Int) : List Int := if dptE l = 0 then dpt l else []

theorem dpt_len (l : List Int) : (dpt l).length = l.length := by simp [dpt]

theorem done_out {row : List Nod} {len len' : Nat → Nat} (h : Done row len len') {s : Nat} (hs : s ∉ syms row) : len' s = len s := by
  induction h with
  | one n len => rfl
  | join x y rest hs' hp _ _ hh hp2 _ ih =>
    have hps := syms_perm hp
    have hx : s ∉ x.2 ++ y.2 := fun hm => hs (hps.symm.subset (by
      simp only [syms, List.flatMap_cons]
      rcases List.mem_append.1 hm with q | q
      · exact List.mem_append_left _ q
      · exact List.mem_append_right _ (List.mem_append_left _ q)))
    have hnh : s ∉ hs' := fun hm => hx (hh.subset hm)
    rw [ih ?_, bmp_out hnh]
    intro hm
    have := (syms_perm hp2).subset hm
    simp only [syms, List.flatMap_cons] at this
    rcases List.mem_append.1 this with q | q
    · exact hnh q
    · exact hs (hps.symm.subset (by
        simp only [syms, List.flatMap_cons]
        exact List.mem_append_right _ (List.mem_append_right _ q)))

theorem leafs_len (f : Nat → Nat) (S : List Nat) : (leafs f S).length = S.length := by simp [leafs]

theorem dp_out {l : List Int} {s : Nat} (h : s ∉ us6 l) : dp l s = 0 := by
  unfold dp
  by_cases c : (us6 l).length = 1
  · rw [if_pos c, if_neg h]
  · rw [if_neg c]
    by_cases d : (us6 l).length = 0
    · rw [d]; rfl
    · exact done_out (hrun_done _ _ _ (by rw [leafs_len]; omega)) (by rw [syms_leafs]; exact h)

theorem dpt_spr (l : List Int) : spr l.length (us6 l) (fun s => (dp l s : Int)) = dpt l := by
  unfold spr dpt
  refine List.map_congr_left fun s _ => ?_
  by_cases h : s ∈ us6 l
  · rw [if_pos h]
  · rw [if_neg h, dp_out h]; rfl

theorem dpt_few {l : List Int} (h : (us6 l).length < 2) : spr l.length (us6 l) (fun _ => 1) = dpt l := by
  unfold spr dpt
  refine List.map_congr_left fun s _ => ?_
  by_cases hs : s ∈ us6 l
  · have h1 : (us6 l).length = 1 := by
      have := List.length_pos_of_mem hs
      omega
    rw [if_pos hs]
    unfold dp
    rw [if_pos h1, if_pos hs]
    rfl
  · rw [if_neg hs, dp_out hs]; rfl

def zl (l : List Int) : List Znd := (leafs (fq l) (us6 l)).zip (List.range (us6 l).length)

theorem zl_len (l : List Int) : (zl l).length = (us6 l).length := by simp [zl, leafs_len]
theorem zl_row (l : List Int) : zro (zl l) = leafs (fq l) (us6 l) := by
  unfold zro zl
  rw [List.map_fst_zip]
  simp [leafs_len]
theorem zl_ids (l : List Int) : (zl l).map (·.2) = List.range (us6 l).length := by
  unfold zl
  rw [List.map_snd_zip]
  simp [leafs_len]

theorem zl_weights (l : List Int) : ((us6 l).map fun s => l.getD s 0) = (zl l).map fun z => (z.1.1 : Int) := by
  have e : ((zl l).map fun z => (z.1.1 : Int)) = (zro (zl l)).map fun n => (n.1 : Int) := by simp [zro, Function.comp_def]
  rw [e, zl_row]
  unfold leafs
  rw [List.map_map]
  refine List.map_congr_left fun s hs => ?_
  have := (mem_us.1 hs).2
  simp only [Function.comp_apply, fq]
  omega

theorem fq_le {l : List Int} (h : bnd l 4294967296 l.length) {s : Nat} (hs : s ∈ us6 l) : 1 ≤ fq l s ∧ fq l s ≤ 4294967296 := by
  obtain ⟨h1, h2⟩ := mem_us.1 hs
  have := h s h1
  unfold fq
  omega

theorem sum_le {S : List Nat} {f : Nat → Nat} {b : Nat} (h : ∀ s ∈ S, f s ≤ b) : (S.map f).sum ≤ b * S.length := by
  induction S with
  | nil => simp
  | cons a r ih =>
    have h1 := ih fun s hs => h s (List.mem_cons_of_mem _ hs)
    have h2 := h a (by simp)
    simp only [List.map_cons, List.sum_cons, List.length_cons, Nat.mul_add, Nat.mul_one]
    omega

theorem us_le6 {l : List Int} : (us6 l).length ≤ l.length := usk_len l l.length

theorem tot_le {l : List Int} (h : bnd l 4294967296 l.length) (hl : l.length ≤ 288) : ((us6 l).map (fq l)).sum ≤ 1236950581248 := by
  have := sum_le (S := us6 l) (f := fq l) (b := 4294967296) fun s hs => (fq_le h hs).2
  have h2 := us_le6 (l := l)
  omega

theorem zl_sum {l : List Int} (h : bnd l 4294967296 l.length) (hl : l.length ≤ 288) : zsum (zl l) ≤ 1236950581248 := by
  have e : zsum (zl l) = ((zro (zl l)).map (·.1)).sum := by simp [zsum, zro, Function.comp_def]
  rw [e, zl_row, fst_leafs]
  exact tot_le h hl

theorem zl_num (l : List Int) : Znum (zl l) (us6 l).length := by
  refine ⟨by rw [zl_ids]; exact List.nodup_range, fun z hz => ?_⟩
  have : z.2 ∈ (zl l).map (·.2) := List.mem_map_of_mem hz
  rw [zl_ids] at this
  exact List.mem_range.1 this

/-- What the program reckons is what the joining counts. -/
theorem join_eq {l : List Int} (h2 : 2 ≤ (us6 l).length) :
    (dn (hids ((us6 l).length - 1) (zl l) (us6 l).length fun _ => 0) (2 * (us6 l).length - 2) (2 * (us6 l).length - 2)).take (us6 l).length = (us6 l).map fun s => (dp l s : Int) := by
  obtain ⟨n, hn⟩ : ∃ n, n = (us6 l).length := ⟨_, rfl⟩
  obtain ⟨H, hH⟩ : ∃ H, H = hids ((us6 l).length - 1) (zl l) (us6 l).length fun _ => 0 := ⟨_, rfl⟩
  have hup : ∀ v, v + 1 < 2 * n - 1 → v < H v ∧ H v < 2 * n - 1 := fun v hv => by
    have := hids_up ((us6 l).length - 1) (zl l) (us6 l).length (fun _ => 0) (zl_num l) (by rw [zl_len]; omega) v (by omega) (by
      by_cases c : v < (us6 l).length
      · left; rw [zl_ids]; exact List.mem_range.2 c
      · right; omega) (by omega)
    rw [← hH] at this
    exact ⟨this.1, by have := this.2; omega⟩
  obtain ⟨D, hD⟩ : ∃ D : Nat → Nat, D = fun v => ((dn H (2 * n - 2) (2 * n - 2)).getD v 0).toNat := ⟨_, rfl⟩
  have hDe : ∀ v, ((D v : Nat) : Int) = (dn H (2 * n - 2) (2 * n - 2)).getD v 0 := fun v => by
    have := (dn_bound H (2 * n - 2) (2 * n - 2) v).1
    rw [hD]
    simp only
    omega
  have key := hids_deep ((us6 l).length - 1) (zl l) (us6 l).length (fun _ => 0) (fun _ => 0) D (zl_num l) (by rw [zl_len]; omega) (by rw [zl_row, syms_leafs]; exact us_nodup l) (2 * n - 2) ⟨fun e => by omega, fun _ => by omega⟩
    (by have := hDe (2 * n - 2); rw [dn_root H _ _ (Nat.le_refl _)] at this; omega)
    (fun v _ hv hne => by
      rw [← hH]
      have h1 := hup v (by omega)
      have h3 := dn_step H (2 * n - 2) v (by omega) h1.1
      rw [← hDe, ← hDe] at h3
      omega)
  rw [zl_row] at key
  rw [← hH, ← hn]
  apply List.ext_getElem
  · rw [List.length_take, dn_len, List.length_map]; omega
  · intro i h1 h3
    rw [List.length_map] at h3
    rw [List.getElem_take, List.getElem_map]
    have hz : (zl l)[i]'(by rw [zl_len]; exact h3) = ((fq l (us6 l)[i], [(us6 l)[i]]), i) := by
      simp [zl, leafs]
    have hk := key _ (List.getElem_mem (l := zl l) (n := i) (by rw [zl_len]; exact h3)) (us6 l)[i] (by rw [hz]; simp)
    rw [hz] at hk
    have hdi := hDe i
    have e : (dn H (2 * n - 2) (2 * n - 2)).getD i 0 = (dn H (2 * n - 2) (2 * n - 2))[i]'(by rw [dn_len]; omega) := by
      rw [List.getD_eq_getElem?_getD, List.getElem?_eq_getElem (by rw [dn_len]; omega)]; rfl
    rw [← e, ← hdi]
    unfold dp
    rw [if_neg (by omega), hk]
    simp

end Go.Proofs.YtfdhffcdkmklbaaDoor

namespace Go.Proofs.YtfdhffcdkmklbaaDoor
open Go.RowKit Go.Maps
set_option maxRecDepth 20000
set_option linter.unusedVariables false

def P60 : Int := 1152921504606846976

theorem pow_i64 {k : Nat} (hk : k < 61) : IntKind.i64.wrap ((2 ^ k : Nat) : Int) = ((2 ^ k : Nat) : Int) := by
  have h1 : (2 : Nat) ^ k ≤ 2 ^ 60 := Nat.pow_le_pow_right (by decide) (by omega)
  obtain ⟨p, hp⟩ : ∃ p : Nat, p = 2 ^ k := ⟨_, rfl⟩
  rw [← hp] at h1 ⊢
  rw [IntKind.wrap_i64]
  omega

theorem shl_run (k : Nat) (hk : k < 61) (w : World) : (Op.shift BinOp.shl IntKind.i64 1 IntKind.u64 (k : Int)).run Tryd.prog w = .ok (.int .i64 ((2 ^ k : Nat) : Int)) w := by
  have e := pow_i64 hk
  simp
  exact e

/-- Kraft's sum, symbol by symbol; none: the rule is broken. -/
def kst (f n : List Int) (lim : Int) : Nat → Option Nat
  | 0 => some 0
  | k + 1 => match kst f n lim k with
    | none => none
    | some s => if f.getD k 0 = 0 then some s else if n.getD k 0 < 1 ∨ lim < n.getD k 0 ∨ 60 < n.getD k 0 then none else
        if 2 ^ 60 < s + 2 ^ (60 - (n.getD k 0).toNat) then none else some (s + 2 ^ (60 - (n.getD k 0).toNat))

def krV (f n : List Int) (lim : Int) : Int := if n.length ≠ f.length then -1 else match kst f n lim f.length with
  | none => -1
  | some s => s

/-- A list of lengths as a function. -/
def nn (n : List Int) (s : Nat) : Nat := (n.getD s 0).toNat

def kS (f n : List Int) (k : Nat) : Nat := kr (nn n) (usk f k)

theorem kS_succ (f n : List Int) (k : Nat) : kS f n (k + 1) = kS f n k + if 0 < f.getD k 0 then 2 ^ (60 - (n.getD k 0).toNat) else 0 := by
  unfold kS kr
  rw [usk_succ]
  by_cases h : 0 < f.getD k 0
  · rw [if_pos h, if_pos h]; simp [nn]
  · rw [if_neg h, if_neg h]; simp

theorem usk_sub {f : List Int} {k s : Nat} : s ∈ usk f k → s ∈ usk f (k + 1) := fun h => by rw [usk_succ]; exact List.mem_append_left _ h

def LenOk (f n : List Int) (lim : Int) (k : Nat) : Prop := ∀ s ∈ usk f k, 1 ≤ n.getD s 0 ∧ n.getD s 0 ≤ lim ∧ n.getD s 0 ≤ 60

theorem kst_some {f n : List Int} {lim : Int} {k s : Nat} (hf : ∀ i, 0 ≤ f.getD i 0) (h : kst f n lim k = some s) : s = kS f n k ∧ LenOk f n lim k ∧ s ≤ 2 ^ 60 := by
  induction k generalizing s with
  | zero =>
    simp only [kst, Option.some.injEq] at h
    subst h
    exact ⟨rfl, fun s hs => by simp [usk] at hs, by omega⟩
  | succ k ih =>
    simp only [kst] at h
    cases e : kst f n lim k with
    | none => rw [e] at h; cases h
    | some t =>
      rw [e] at h
      simp only at h
      obtain ⟨a, b, c⟩ := ih e
      have hk := hf k
      by_cases h0 : f.getD k 0 = 0
      · rw [if_pos h0, Option.some.injEq] at h
        have h1 : ¬ 0 < f.getD k 0 := by omega
        refine ⟨by rw [kS_succ, if_neg h1, ← h, a, Nat.add_zero], fun s hs => ?_, by omega⟩
        rw [usk_succ, if_neg h1, List.append_nil] at hs
        exact b s hs
      · rw [if_neg h0] at h
        have h1 : 0 < f.getD k 0 := by omega
        by_cases h2 : n.getD k 0 < 1 ∨ lim < n.getD k 0 ∨ 60 < n.getD k 0
        · rw [if_pos h2] at h; cases h
        · rw [if_neg h2] at h
          by_cases h3 : 2 ^ 60 < t + 2 ^ (60 - (n.getD k 0).toNat)
          · rw [if_pos h3] at h; cases h
          · rw [if_neg h3, Option.some.injEq] at h
            refine ⟨by rw [kS_succ, if_pos h1, ← h, a], fun s hs => ?_, by omega⟩
            rw [usk_succ, if_pos h1] at hs
            rcases List.mem_append.1 hs with hs | hs
            · exact b s hs
            · simp at hs; subst hs; omega

theorem kst_ok {f n : List Int} {lim : Int} {k : Nat} (hf : ∀ i, 0 ≤ f.getD i 0) (hl : LenOk f n lim k) (hs : kS f n k ≤ 2 ^ 60) : kst f n lim k = some (kS f n k) := by
  induction k with
  | zero => rfl
  | succ k ih =>
    have hk := hf k
    rw [kS_succ] at hs ⊢
    have ih' := ih (fun s h => hl s (usk_sub h)) (by omega)
    simp only [kst, ih']
    by_cases h0 : f.getD k 0 = 0
    · rw [if_pos h0, if_neg (by omega), Nat.add_zero]
    · have h1 : 0 < f.getD k 0 := by omega
      rw [if_pos h1] at hs
      have := hl k (by rw [usk_succ, if_pos h1]; simp)
      rw [if_neg h0, if_neg (by omega), if_neg (by omega), if_pos h1]

theorem kst_none {f n : List Int} {lim : Int} {k : Nat} (h : kst f n lim k = none) : ∀ j, kst f n lim (k + j) = none := fun j => by
  induction j with
  | zero => exact h
  | succ j ih =>
    show kst f n lim (k + j + 1) = none
    simp only [kst, ih]

theorem kst_dead {f n : List Int} {lim : Int} {k m : Nat} (hk : k ≤ m) (h : kst f n lim k = none) : kst f n lim m = none := by
  have := kst_none h (m - k)
  rwa [show k + (m - k) = m by omega] at this

end Go.Proofs.YtfdhffcdkmklbaaDoor

namespace Go.Proofs.YtfdhffcdkmklbaaDoor
open Go.RowKit Go.Maps
set_option maxRecDepth 20000
set_option linter.unusedVariables false

theorem w64in {x : Int} (h : -9223372036854775808 ≤ x ∧ x ≤ 9223372036854775807) : wrap64 x = x := by unfold wrap64; omega

theorem w64add {s p : Nat} (hs : s ≤ 1152921504606846976) (hp : p ≤ 1152921504606846976) : wrap64 ((s : Int) + (p : Int)) = ((s + p : Nat) : Int) := by
  rw [w64in (by omega)]
  omega

theorem w64shl {m p : Nat} (hm : m ≤ 60) (hp : p ≤ 1152921504606846976) (HP : p = 2 ^ m) : wrap64 ((2 : Int) ^ min m 64) = (p : Int) := by
  rw [show min m 64 = m from Nat.min_eq_left (by omega), show ((2 : Int) ^ m) = (p : Int) by rw [HP]; simp]
  exact w64in (by omega)

theorem w64pow {m p : Nat} (hp : p ≤ 1152921504606846976) (HP : p = 2 ^ m) : wrap64 ((2 : Int) ^ m) = (p : Int) := by
  rw [show ((2 : Int) ^ m) = (p : Int) by rw [HP]; simp]
  exact w64in (by omega)

theorem kst_step {f n : List Int} {lim : Int} {k s : Nat} (h : kst f n lim k = some s) : kst f n lim (k + 1) = if f.getD k 0 = 0 then some s else if n.getD k 0 < 1 ∨ lim < n.getD k 0 ∨ 60 < n.getD k 0 then none else
        if 2 ^ 60 < s + 2 ^ (60 - (n.getD k 0).toNat) then none else some (s + 2 ^ (60 - (n.getD k 0).toNat)) := by
  simp only [kst, h]

end Go.Proofs.YtfdhffcdkmklbaaDoor

