import Derived.Test.YtfdhffcdkmklbaaDoorG05Pks
import Derived.Test.YtfdhffcdkmklbaaDoorRows
import Derived.WalkKit
import Derived.ProofKit
import Derived.OpenShut
import Derived.ShutString
import Derived.ChangeOld
import Derived.Below
import Derived.WalkLawsBesides
import Derived.WalkSpells
import Derived.Deep.QuietTactic
import Derived.BigQuiet
import Derived.Laws.CopyOwn
import Derived.SizedLaws
import Derived.Maps.Own
import Derived.Laws.BytesArg
import Derived.Laws.BitsLemmas
import Derived.Maps.AppendAt
import Derived.Deep.AppendSrc
import Derived.Deep.AppendLies
import Derived.Deep.RegionLaw
import Derived.BigRegion
namespace Go.Proofs.YtfdhffcdkmklbaaDoor

/-! What both calls' lists are good for, said of the used symbols 'us6' with frequencies f. -/

def leafs (f : Nat → Nat) (us6 : List Nat) : List Nod := us6.map fun s => (f s, [s])

theorem syms_leafs (f : Nat → Nat) (us6 : List Nat) : syms (leafs f us6) = us6 := by
  induction us6 with
  | nil => rfl
  | cons a l ih => simp only [leafs, syms, List.map_cons, List.flatMap_cons] at ih ⊢; rw [ih]; rfl

theorem fst_leafs (f : Nat → Nat) (us6 : List Nat) : (leafs f us6).map (·.1) = us6.map f := by simp [leafs, Function.comp_def]

theorem leafs_forest {f : Nat → Nat} {us6 : List Nat} (hn : us6.Nodup) (hf : ∀ s ∈ us6, 1 ≤ f s) : Forest f (fun _ => 0) (leafs f us6) := by
  refine ⟨by rw [syms_leafs]; exact hn, ?_, ?_, ?_⟩
  · intro n hn'
    obtain ⟨s, _, rfl⟩ := List.mem_map.1 hn'
    simp
  · intro n hn'
    obtain ⟨s, _, rfl⟩ := List.mem_map.1 hn'
    simp
  · intro n hn'
    obtain ⟨s, hs, rfl⟩ := List.mem_map.1 hn'
    exact ⟨0, by simp, hf s hs, fun _ => by simp [kr], .inl rfl⟩

/-- The pairs of a list of lengths. -/
def prs (f len : Nat → Nat) (us6 : List Nat) : List (Nat × Nat) := us6.map fun s => (f s, len s)

theorem prs_fst (f len : Nat → Nat) (us6 : List Nat) : (prs f len us6).map (·.1) = us6.map f := by simp [prs, Function.comp_def]
theorem prs_prc (f len : Nat → Nat) (us6 : List Nat) : prc (prs f len us6) = fl f len us6 := by simp [prs, prc, fl, Function.comp_def]
theorem prs_krf (N : Nat) (f len : Nat → Nat) (us6 : List Nat) : krf N (prs f len us6) = (us6.map fun s => 2 ^ (N - len s)).sum := by simp [prs, krf, Function.comp_def]

/-- HUFFMAN'S LENGTHS: complete, no word above 59 bits, none cheaper. -/
theorem depths_good {f len : Nat → Nat} {us6 : List Nat} (hn : us6.Nodup) (hf : ∀ s ∈ us6, 1 ≤ f s) (hT : (us6.map f).sum < fb 61) (h : Done (leafs f us6) (fun _ => 0) len) :
    kr len us6 = 2 ^ 60 ∧ (∀ s ∈ us6, len s ≤ 59) ∧ (∀ s, s ∉ us6 → len s = 0) ∧ ∀ N o, (∀ s ∈ us6, o s ≤ N) → (us6.map fun s => 2 ^ (N - o s)).sum ≤ 2 ^ N → fl f len us6 ≤ fl f o us6 := by
  obtain ⟨h1, h2, h3, c, h4, h5⟩ := done_all h (leafs_forest hn hf) (by rw [fst_leafs]; exact hT)
  rw [syms_leafs] at h1 h2 h3 h5
  refine ⟨h1, h2, h3, fun N o ho hk => ?_⟩
  have e0 : fl f (fun _ => 0) us6 = 0 := by unfold fl; clear h1 h2 h3 h4 h5 hn hf hT h ho hk; induction us6 with
    | nil => rfl
    | cons a l ih => simp only [List.map_cons, List.sum_cons, Nat.mul_zero, Nat.zero_add] at ih ⊢; exact ih
  have := huffman h4 N (prs f o us6) (by rw [prs_fst, fst_leafs]) (by
    intro x hx
    obtain ⟨s, hs, rfl⟩ := List.mem_map.1 hx
    exact ho s hs) (by rw [prs_krf]; exact hk)
  rw [prs_prc] at this
  omega

theorem pick2 {us6 : List Nat} {s t : Nat} (hn : us6.Nodup) (hs : s ∈ us6) (ht : t ∈ us6) (hst : s ≠ t) : ∃ r, us6.Perm (s :: t :: r) ∧ ∀ x ∈ r, x ≠ s ∧ x ≠ t := by
  obtain ⟨a, b, rfl⟩ := List.append_of_mem hs
  have p1 : (a ++ s :: b).Perm (s :: (a ++ b)) := List.perm_middle
  have ht' : t ∈ a ++ b := by
    rcases List.mem_cons.1 (p1.subset ht) with e | h
    · exact absurd e.symm hst
    · exact h
  obtain ⟨c, d, hcd⟩ := List.append_of_mem ht'
  have p2 : (a ++ s :: b).Perm (s :: t :: (c ++ d)) := p1.trans ((List.perm_cons s).2 (by rw [hcd]; exact List.perm_middle))
  refine ⟨c ++ d, p2, fun x hx => ?_⟩
  have hn2 := p2.nodup_iff.1 hn
  obtain ⟨n1, n2⟩ := List.nodup_cons.1 hn2
  obtain ⟨n3, _⟩ := List.nodup_cons.1 n2
  exact ⟨fun e => n1 (by rw [← e]; exact List.mem_cons_of_mem _ hx), fun e => n3 (by rw [← e]; exact hx)⟩

/-- What is cheapest gives what stands more often no longer word. -/
theorem best_order {f len : Nat → Nat} {us6 : List Nat} (N : Nat) (hn : us6.Nodup) (hl : ∀ s ∈ us6, len s ≤ N) (hk : (us6.map fun s => 2 ^ (N - len s)).sum ≤ 2 ^ N)
    (hb : ∀ o, (∀ s ∈ us6, o s ≤ N) → (us6.map fun s => 2 ^ (N - o s)).sum ≤ 2 ^ N → fl f len us6 ≤ fl f o us6) {s t : Nat} (hs : s ∈ us6) (ht : t ∈ us6) (hst : f t < f s) : len s ≤ len t := by
  apply Classical.byContradiction
  intro c
  have hne : s ≠ t := fun e => by subst e; omega
  obtain ⟨r, hp, hr⟩ := pick2 hn hs ht hne
  obtain ⟨o, ho⟩ : ∃ o : Nat → Nat, o = fun x => if x = s then len t else if x = t then len s else len x := ⟨_, rfl⟩
  have os : o s = len t := by rw [ho]; simp
  have ot : o t = len s := by rw [ho]; exact (if_neg fun e => hne e.symm).trans (if_pos rfl)
  have ox : ∀ x ∈ r, o x = len x := fun x hx => by rw [ho]; simp [(hr x hx).1, (hr x hx).2]
  have hle : ∀ x ∈ us6, o x ≤ N := fun x hx => by
    rcases List.mem_cons.1 (hp.subset hx) with rfl | hx
    · rw [os]; exact hl t ht
    · rcases List.mem_cons.1 hx with rfl | hx
      · rw [ot]; exact hl s hs
      · rw [ox x hx]; exact hl x (hp.symm.subset (by simp [hx]))
  have e1 : (us6.map fun x => 2 ^ (N - o x)).sum = (us6.map fun x => 2 ^ (N - len x)).sum := by
    rw [perm_sum _ hp, perm_sum _ hp]
    simp only [List.map_cons, List.sum_cons, os, ot]
    rw [map_sum_congr (f := fun x => 2 ^ (N - o x)) (g := fun x => 2 ^ (N - len x)) fun x hx => by rw [ox x hx]]
    omega
  have h1 := hb o hle (by rw [e1]; exact hk)
  have e2 : fl f o us6 = f s * len t + (f t * len s + fl f len r) := by
    unfold fl
    rw [perm_sum _ hp]
    simp only [List.map_cons, List.sum_cons, os, ot]
    rw [map_sum_congr (f := fun x => f x * o x) (g := fun x => f x * len x) fun x hx => by rw [ox x hx]]
  have e3 : fl f len us6 = f s * len s + (f t * len t + fl f len r) := by
    unfold fl
    rw [perm_sum _ hp]
    rfl
  rw [e2, e3] at h1
  obtain ⟨a, ha⟩ : ∃ a, f s = f t + (a + 1) := ⟨f s - f t - 1, by omega⟩
  obtain ⟨b, hb'⟩ : ∃ b, len s = len t + (b + 1) := ⟨len s - len t - 1, by omega⟩
  rw [ha, hb'] at h1
  simp only [Nat.add_mul, Nat.mul_add] at h1
  omega

/-- A list's sum over its places. -/
theorem sum_range {α : Type} (l : List α) (d : α) (g : α → Nat) : (l.map g).sum = sm l.length (fun i => g (l.getD i d)) := by
  have key : ∀ n, n ≤ l.length → ((l.take n).map g).sum = sm n (fun i => g (l.getD i d)) := fun n hn => by
    induction n with
    | zero => simp [sm]
    | succ n ih =>
      rw [List.take_succ_eq_append_getElem (by omega), List.map_append, List.sum_append, ih (by omega), sm_succ, List.getD_eq_getElem?_getD, List.getElem?_eq_getElem (show n < l.length by omega)]
      simp
  have := key l.length (Nat.le_refl _)
  rwa [List.take_length] at this

/-- PACKAGE-MERGE'S LENGTHS: complete, none above the limit, none cheaper within it; us6: by rising frequency. -/
theorem limited_good {f len : Nat → Nat} {us6 : List Nat} (L : Nat) (hL : 1 ≤ L) (hu : 1 ≤ us6.length) (hw : Rise (us6.map f)) (hfit : us6.length ≤ 2 ^ L)
    (hlen : ∀ i, i < us6.length → len (us6.getD i 0) = ct (sel (us6.map f) L (2 * (us6.length - 1))) i) :
    (us6.map fun s => 2 ^ (L - len s)).sum = 2 ^ L ∧ (∀ s ∈ us6, len s ≤ L) ∧ ∀ o, (∀ s ∈ us6, o s ≤ L) → (us6.map fun s => 2 ^ (L - o s)).sum ≤ 2 ^ L → fl f len us6 ≤ fl f o us6 := by
  obtain ⟨k, rfl⟩ : ∃ k, L = k + 1 := ⟨L - 1, by omega⟩
  have hwl : (us6.map f).length = us6.length := List.length_map ..
  have hroom : 2 * (us6.length - 1) ≤ (row (us6.map f) (k + 1)).length := by
    have := row_room (us6.map f) k 2 (by rw [hwl, Nat.mul_comm, ← Nat.pow_succ]; exact hfit)
    rw [hwl] at this
    omega
  obtain ⟨s1, s2, s3⟩ := sel_facts (k + 1) _ hroom
  have s4 := sel_falls hw (k + 1) _ hroom
  have s5 := sel_len (us6.map f) (k + 1) (2 * (us6.length - 1))
  obtain ⟨cs, hcs⟩ : ∃ cs, cs = sel (us6.map f) (k + 1) (2 * (us6.length - 1)) := ⟨_, rfl⟩
  rw [← hcs] at s1 s2 s3 s4 s5 hlen
  rw [hwl] at s1
  have k1 := kr_sel cs s4 us6.length s1
  rw [s5] at k1
  have e1 : (us6.map fun s => 2 ^ (k + 1 - len s)).sum = sm us6.length (fun i => 2 ^ (k + 1 - ct cs i)) := by
    rw [sum_range us6 0]
    exact sm_congr fun i hi => by rw [hlen i hi]
  have hdist : 2 * (us6.length - 1) * 2 ^ (k + 1) + 2 * 2 ^ (k + 1) = 2 * (us6.length * 2 ^ (k + 1)) := by
    obtain ⟨n, hn⟩ : ∃ n, us6.length = n + 1 := ⟨us6.length - 1, by omega⟩
    rw [hn, Nat.add_sub_cancel, Nat.add_mul, Nat.mul_assoc]
    omega
  refine ⟨by rw [e1]; omega, ?_, fun o ho hk => ?_⟩
  · intro s hs
    obtain ⟨i, hi, rfl⟩ := List.getElem_of_mem hs
    have := hlen i hi
    rw [List.getD_eq_getElem?_getD, List.getElem?_eq_getElem hi, Option.getD_some] at this
    rw [this, ← s5]
    exact ct_le cs i
  · have c1 := coins (k + 1) (prs f o us6) (by rw [prs_fst]; exact hw) (by
      intro x hx
      obtain ⟨s, hs, rfl⟩ := List.mem_map.1 hx
      exact ho s hs) (by rw [← krf, prs_krf]; exact hk)
    rw [prs_fst, show (prs f o us6).length = us6.length by simp [prs], s3] at c1
    have e2 : fl f len us6 = lvc (us6.map f) cs := by
      rw [← prc_sel _ _ (by rw [hwl]; exact s1), hwl]
      unfold fl
      rw [sum_range us6 0]
      exact sm_congr fun i hi => by
        rw [hlen i hi]
        congr 1
        simp [List.getD, hi]
    have e3 : ((prs f o us6).map fun x => x.1 * x.2).sum = fl f o us6 := prs_prc f o us6
    omega
end Go.Proofs.YtfdhffcdkmklbaaDoor

namespace Go.Proofs.YtfdhffcdkmklbaaDoor

/-! Depths as a function of rows: the lightest is looked for one by one; the row keeps the order of the numbers. -/

def nod0 : Nod := (0, [])

/-- The place of the lightest among the first k + 1; of equal ones the first. -/
def lgk (row : List Nod) : Nat → Nat
  | 0 => 0
  | k + 1 => if (row.getD (k + 1) nod0).1 < (row.getD (lgk row k) nod0).1 then k + 1 else lgk row k

theorem lgk_le (row : List Nod) (k : Nat) : lgk row k ≤ k := by
  induction k with
  | zero => exact Nat.le_refl _
  | succ k ih => simp only [lgk]; split <;> omega

theorem lgk_least (row : List Nod) (k i : Nat) (h : i ≤ k) : (row.getD (lgk row k) nod0).1 ≤ (row.getD i nod0).1 := by
  induction k with
  | zero => obtain rfl : i = 0 := by omega
            exact Nat.le_refl _
  | succ k ih =>
    simp only [lgk]
    by_cases c : (row.getD (k + 1) nod0).1 < (row.getD (lgk row k) nod0).1
    · rw [if_pos c]
      by_cases e : i = k + 1
      · rw [e]; exact Nat.le_refl _
      · have := ih (by omega); omega
    · rw [if_neg c]
      by_cases e : i = k + 1
      · rw [e]; omega
      · exact ih (by omega)

def lgt (row : List Nod) : Nat := lgk row (row.length - 1)

theorem lgt_lt {row : List Nod} (h : 0 < row.length) : lgt row < row.length := by have := lgk_le row (row.length - 1); unfold lgt; omega

theorem lgt_least {row : List Nod} {n : Nod} (h : n ∈ row) : (row.getD (lgt row) nod0).1 ≤ n.1 := by
  obtain ⟨i, hi, rfl⟩ := List.getElem_of_mem h
  have := lgk_least row (row.length - 1) i (by omega)
  have e : row.getD i nod0 = row[i] := by rw [List.getD_eq_getElem?_getD, List.getElem?_eq_getElem hi]; rfl
  rw [e] at this
  exact this

theorem erase_perm {row : List Nod} {i : Nat} (h : i < row.length) : row.Perm (row.getD i nod0 :: row.eraseIdx i) := by
  have e : row.getD i nod0 = row[i] := by rw [List.getD_eq_getElem?_getD, List.getElem?_eq_getElem h]; rfl
  rw [e, List.eraseIdx_eq_take_drop_succ]
  have : row = row.take i ++ row[i] :: row.drop (i + 1) := by
    rw [← List.drop_eq_getElem_cons h, List.take_append_drop]
  conv => lhs; rw [this]
  exact List.perm_middle

def fir (row : List Nod) : Nod := row.getD (lgt row) nod0
def wo (row : List Nod) : List Nod := row.eraseIdx (lgt row)
def hjn (row : List Nod) : Nod := ((fir row).1 + (fir (wo row)).1, (fir row).2 ++ (fir (wo row)).2)
def hst (row : List Nod) : List Nod := wo (wo row) ++ [hjn row]

theorem wo_len {row : List Nod} (h : 0 < row.length) : (wo row).length = row.length - 1 := by
  unfold wo
  rw [List.length_eraseIdx, if_pos (lgt_lt h)]

theorem hst_len {row : List Nod} (h : 2 ≤ row.length) : (hst row).length = row.length - 1 := by
  unfold hst
  rw [List.length_append, wo_len (by rw [wo_len (by omega)]; omega), wo_len (by omega)]
  simp
  omega

/-- Joined so many times. -/
def hrun : Nat → List Nod → (Nat → Nat) → (Nat → Nat)
  | 0, _, len => len
  | n + 1, row, len => hrun n (hst row) (bmp len (hjn row).2)

theorem hrun_done (n : Nat) (row : List Nod) (len : Nat → Nat) (h : row.length = n + 1) : Done row len (hrun n row len) := by
  induction n generalizing row len with
  | zero =>
    obtain ⟨x, rfl⟩ := List.length_eq_one_iff.1 h
    exact .one x len
  | succ n ih =>
    have h1 : 0 < row.length := by omega
    have h2 : 0 < (wo row).length := by rw [wo_len h1]; omega
    have p1 : row.Perm (fir row :: wo row) := erase_perm (lgt_lt h1)
    have p2 : (wo row).Perm (fir (wo row) :: wo (wo row)) := erase_perm (lgt_lt h2)
    have p3 : row.Perm (fir row :: fir (wo row) :: wo (wo row)) := p1.trans ((List.perm_cons _).2 p2)
    refine .join (fir row) (fir (wo row)) (wo (wo row)) (hjn row).2 p3 ?_ ?_ (List.Perm.refl _) ?_ (ih (hst row) _ (by rw [hst_len (by omega)]; omega))
    · exact lgt_least (p3.symm.subset (by simp))
    · intro r hr
      exact lgt_least (p2.symm.subset (by simp [hr]))
    · unfold hst
      exact List.perm_append_comm.trans (by rw [List.singleton_append]; exact List.Perm.refl _)

theorem erase_map {α β : Type} (f : α → β) (l : List α) (i : Nat) : (l.map f).eraseIdx i = (l.eraseIdx i).map f := by
  rw [List.eraseIdx_eq_take_drop_succ, List.eraseIdx_eq_take_drop_succ, List.map_append, List.map_take, List.map_drop]

/-! Frequencies by a factor. -/

def sc (b : Nat) (row : List Nod) : List Nod := row.map fun n => (b * n.1, n.2)

theorem sc_get (b : Nat) (row : List Nod) (i : Nat) : (sc b row).getD i nod0 = (b * (row.getD i nod0).1, (row.getD i nod0).2) := by
  unfold sc
  rw [List.getD_eq_getElem?_getD, List.getD_eq_getElem?_getD, List.getElem?_map]
  cases row[i]? with
  | none => simp [nod0]
  | some n => rfl

theorem sc_lgk {b : Nat} (hb : 0 < b) (row : List Nod) (k : Nat) : lgk (sc b row) k = lgk row k := by
  induction k with
  | zero => rfl
  | succ k ih => simp only [lgk, ih, sc_get, Nat.mul_lt_mul_left hb]

theorem sc_lgt {b : Nat} (hb : 0 < b) (row : List Nod) : lgt (sc b row) = lgt row := by
  unfold lgt
  rw [sc_lgk hb]
  simp [sc]

theorem sc_wo {b : Nat} (hb : 0 < b) (row : List Nod) : wo (sc b row) = sc b (wo row) := by
  unfold wo
  rw [sc_lgt hb]
  exact erase_map _ _ _

theorem sc_fir {b : Nat} (hb : 0 < b) (row : List Nod) : fir (sc b row) = (b * (fir row).1, (fir row).2) := by
  unfold fir
  rw [sc_lgt hb, sc_get]

theorem sc_hst {b : Nat} (hb : 0 < b) (row : List Nod) : hst (sc b row) = sc b (hst row) ∧ (hjn (sc b row)).2 = (hjn row).2 := by
  have e : hjn (sc b row) = (b * (hjn row).1, (hjn row).2) := by
    unfold hjn
    rw [sc_wo hb, sc_fir hb, sc_fir hb, Nat.mul_add]
  refine ⟨?_, by rw [e]⟩
  unfold hst
  rw [sc_wo hb, sc_wo hb, e]
  simp [sc]

theorem hrun_sc {b : Nat} (hb : 0 < b) (n : Nat) (row : List Nod) (len : Nat → Nat) : hrun n (sc b row) len = hrun n row len := by
  induction n generalizing row len with
  | zero => rfl
  | succ n ih =>
    simp only [hrun]
    rw [(sc_hst hb row).1, (sc_hst hb row).2, ih]

/-! Other names for the symbols. -/

def rn (g : Nat → Nat) (row : List Nod) : List Nod := row.map fun n => (n.1, n.2.map g)

theorem rn_get (g : Nat → Nat) (row : List Nod) (i : Nat) : (rn g row).getD i nod0 = ((row.getD i nod0).1, (row.getD i nod0).2.map g) := by
  unfold rn
  rw [List.getD_eq_getElem?_getD, List.getD_eq_getElem?_getD, List.getElem?_map]
  cases row[i]? with
  | none => simp [nod0]
  | some n => rfl

theorem rn_lgt (g : Nat → Nat) (row : List Nod) : lgt (rn g row) = lgt row := by
  have : ∀ k, lgk (rn g row) k = lgk row k := fun k => by
    induction k with
    | zero => rfl
    | succ k ih => simp only [lgk, ih, rn_get]
  unfold lgt
  rw [this]
  simp [rn]

theorem rn_wo (g : Nat → Nat) (row : List Nod) : wo (rn g row) = rn g (wo row) := by
  unfold wo
  rw [rn_lgt]
  exact erase_map _ _ _

theorem rn_fir (g : Nat → Nat) (row : List Nod) : fir (rn g row) = ((fir row).1, (fir row).2.map g) := by
  unfold fir
  rw [rn_lgt, rn_get]

theorem rn_hst (g : Nat → Nat) (row : List Nod) : hst (rn g row) = rn g (hst row) ∧ (hjn (rn g row)).2 = (hjn row).2.map g := by
  have e : hjn (rn g row) = ((hjn row).1, (hjn row).2.map g) := by
    unfold hjn
    rw [rn_wo, rn_fir, rn_fir, List.map_append]
  refine ⟨?_, by rw [e]⟩
  unfold hst
  rw [rn_wo, rn_wo, e]
  simp [rn]

theorem hrun_rn {g : Nat → Nat} (hg : ∀ a b, g a = g b → a = b) (n : Nat) (row : List Nod) (len len2 : Nat → Nat) (h : ∀ s, len2 (g s) = len s) : ∀ s, hrun n (rn g row) len2 (g s) = hrun n row len s := by
  induction n generalizing row len len2 with
  | zero => exact h
  | succ n ih =>
    simp only [hrun]
    rw [(rn_hst g row).1, (rn_hst g row).2]
    refine ih _ _ _ fun s => ?_
    unfold bmp
    by_cases c : s ∈ (hjn row).2
    · rw [if_pos c, if_pos (List.mem_map_of_mem c), h]
    · rw [if_neg c, if_neg (fun hm => c (by obtain ⟨t, ht, e⟩ := List.mem_map.1 hm; rw [← hg _ _ e]; exact ht)), h]

/-! Package-merge by a factor. -/

theorem mrg_sc {b : Nat} (hb : 0 < b) (w p : List Nat) : mrg (w.map (b * ·)) (p.map (b * ·)) = (mrg w p).map (b * ·) := by
  induction w, p using mrg.induct with
  | case1 p => simp [mrg]
  | case2 a w => simp [mrg]
  | case3 a w c p h ih =>
    have h' : b * a ≤ b * c := Nat.mul_le_mul_left _ h
    simp only [List.map_cons] at ih
    simp only [List.map_cons, mrg, if_pos h, if_pos h', ih]
  | case4 a w c p h ih =>
    have h' : ¬ b * a ≤ b * c := fun hh => h (Nat.le_of_mul_le_mul_left hh hb)
    simp only [List.map_cons] at ih
    simp only [List.map_cons, mrg, if_neg h, if_neg h', ih]

theorem cnt_sc {b : Nat} (hb : 0 < b) (w p : List Nat) (m : Nat) : cnt (w.map (b * ·)) (p.map (b * ·)) m = cnt w p m := by
  induction w, p using mrg.induct generalizing m with
  | case1 p => cases m <;> simp [cnt]
  | case2 a w =>
    have : ∀ (w : List Nat) (m : Nat), cnt (w.map (b * ·)) [] m = cnt w [] m := fun w => by
      induction w with
      | nil => intro m; rfl
      | cons a w ih => intro m; cases m with
        | zero => simp [cnt]
        | succ m => simp only [List.map_cons, cnt, ih]
    exact this (a :: w) m
  | case3 a w c p h ih =>
    have h' : b * a ≤ b * c := Nat.mul_le_mul_left _ h
    cases m with
    | zero => simp [cnt]
    | succ m =>
      have := ih m
      simp only [List.map_cons] at this
      simp only [List.map_cons, cnt, if_pos h, if_pos h', this]
  | case4 a w c p h ih =>
    have h' : ¬ b * a ≤ b * c := fun hh => h (Nat.le_of_mul_le_mul_left hh hb)
    cases m with
    | zero => simp [cnt]
    | succ m =>
      have := ih m
      simp only [List.map_cons] at this
      simp only [List.map_cons, cnt, if_neg h, if_neg h', this]

theorem pks_sc (b : Nat) (l : List Nat) : pks (l.map (b * ·)) = (pks l).map (b * ·) := by
  induction l using pks.induct with
  | case1 a c r ih => simp only [List.map_cons, pks, ih, Nat.mul_add]
  | case2 l hl =>
    match l, hl with
    | [], _ => rfl
    | [a], _ => rfl
    | a :: c :: r, hl => exact absurd rfl (hl a c r)

theorem row_sc {b : Nat} (hb : 0 < b) (w : List Nat) (k : Nat) : row (w.map (b * ·)) k = (row w k).map (b * ·) := by
  induction k with
  | zero => rfl
  | succ k ih => simp only [row, ih, pks_sc, mrg_sc hb]

theorem sel_sc {b : Nat} (hb : 0 < b) (w : List Nat) (k m : Nat) : sel (w.map (b * ·)) k m = sel w k m := by
  induction k generalizing m with
  | zero => rfl
  | succ k ih => simp only [sel, row_sc hb, pks_sc, cnt_sc hb, ih]
end Go.Proofs.YtfdhffcdkmklbaaDoor

namespace Go.Proofs.YtfdhffcdkmklbaaDoor

/-! The program's joining: each node of the row bears a number; for each number the holder's. -/

abbrev Znd := Nod × Nat

def zro (Z : List Znd) : List Nod := Z.map (·.1)
def zlg (Z : List Znd) : Nat := lgt (zro Z)
def zfi (Z : List Znd) : Znd := Z.getD (zlg Z) (nod0, 0)
def zwo (Z : List Znd) : List Znd := Z.eraseIdx (zlg Z)
def zst (Z : List Znd) (j : Nat) : List Znd := zwo (zwo Z) ++ [(hjn (zro Z), j)]

def upd (H : Nat → Nat) (a b j : Nat) : Nat → Nat := fun v => if v = b then j else if v = a then j else H v

def hids : Nat → List Znd → Nat → (Nat → Nat) → (Nat → Nat)
  | 0, _, _, H => H
  | m + 1, Z, j, H => hids m (zst Z j) (j + 1) (upd H (zfi Z).2 (zfi (zwo Z)).2 j)

theorem zro_wo (Z : List Znd) : zro (zwo Z) = wo (zro Z) := (erase_map (fun z : Znd => z.1) Z _).symm

theorem zro_st (Z : List Znd) (j : Nat) : zro (zst Z j) = hst (zro Z) := by
  unfold zst hst
  rw [← zro_wo, ← zro_wo]
  simp [zro]

theorem zro_len (Z : List Znd) : (zro Z).length = Z.length := by simp [zro]

theorem zlg_lt {Z : List Znd} (h : 0 < Z.length) : zlg Z < Z.length := by
  have := lgt_lt (row := zro Z) (by rw [zro_len]; exact h)
  rwa [zro_len] at this

theorem zfi_fst {Z : List Znd} : (zfi Z).1 = fir (zro Z) := by
  unfold zfi fir zlg zro
  rw [List.getD_eq_getElem?_getD, List.getD_eq_getElem?_getD, List.getElem?_map]
  cases Z[lgt (Z.map (·.1))]? with
  | none => rfl
  | some x => rfl

theorem zperm {Z : List Znd} (h : 0 < Z.length) : Z.Perm (zfi Z :: zwo Z) := by
  have hi := zlg_lt h
  have e : zfi Z = Z[zlg Z] := by unfold zfi; rw [List.getD_eq_getElem?_getD, List.getElem?_eq_getElem hi]; rfl
  rw [e]
  unfold zwo
  rw [List.eraseIdx_eq_take_drop_succ]
  have : Z = Z.take (zlg Z) ++ Z[zlg Z] :: Z.drop (zlg Z + 1) := by
    rw [← List.drop_eq_getElem_cons hi, List.take_append_drop]
  conv => lhs; rw [this]
  exact List.perm_middle

theorem zwo_len {Z : List Znd} (h : 0 < Z.length) : (zwo Z).length = Z.length - 1 := by
  unfold zwo
  rw [List.length_eraseIdx, if_pos (zlg_lt h)]

theorem zst_len {Z : List Znd} (h : 2 ≤ Z.length) (j : Nat) : (zst Z j).length = Z.length - 1 := by
  unfold zst
  rw [List.length_append, zwo_len (by rw [zwo_len (by omega)]; omega), zwo_len (by omega)]
  simp
  omega

theorem zperm2 {Z : List Znd} (h : 2 ≤ Z.length) : Z.Perm (zfi Z :: zfi (zwo Z) :: zwo (zwo Z)) :=
  (zperm (by omega)).trans ((List.perm_cons _).2 (zperm (by rw [zwo_len (by omega)]; omega)))

/-- The numbers are apart and below the next one. -/
structure Znum (Z : List Znd) (j : Nat) : Prop where
  nd : (Z.map (·.2)).Nodup
  lt : ∀ z ∈ Z, z.2 < j

theorem Znum.st {Z : List Znd} {j : Nat} (h : Znum Z j) (h2 : 2 ≤ Z.length) : Znum (zst Z j) (j + 1) := by
  have hp := zperm2 h2
  have hn : ((zfi Z :: zfi (zwo Z) :: zwo (zwo Z)).map (·.2)).Nodup := (hp.map _).nodup_iff.1 h.nd
  simp only [List.map_cons, List.nodup_cons] at hn
  refine ⟨?_, fun z hz => ?_⟩
  · unfold zst
    rw [List.map_append, List.nodup_append]
    refine ⟨hn.2.2, by simp, ?_⟩
    intro a ha b hb
    simp at hb
    subst hb
    obtain ⟨z, hz, rfl⟩ := List.mem_map.1 ha
    have := h.lt z (hp.symm.subset (by simp [hz]))
    omega
  · unfold zst at hz
    rcases List.mem_append.1 hz with hz | hz
    · have := h.lt z (hp.symm.subset (by simp [hz]))
      omega
    · simp at hz
      rw [hz]
      exact Nat.lt_succ_self _

theorem hids_far (m : Nat) (Z : List Znd) (j : Nat) (H : Nat → Nat) (hn : Znum Z j) (hl : Z.length = m + 1) (v : Nat) (hv : v < j) (hz : v ∉ Z.map (·.2)) : hids m Z j H v = H v := by
  induction m generalizing Z j H with
  | zero => rfl
  | succ m ih =>
    have h2 : 2 ≤ Z.length := by omega
    have hp := zperm2 h2
    have h1 : v ≠ (zfi Z).2 := fun e => hz (by rw [e]; exact List.mem_map_of_mem (hp.symm.subset (by simp)))
    have h1' : v ≠ (zfi (zwo Z)).2 := fun e => hz (by rw [e]; exact List.mem_map_of_mem (hp.symm.subset (by simp)))
    simp only [hids]
    rw [ih (zst Z j) (j + 1) _ (hn.st h2) (by rw [zst_len h2]; omega) (by omega) ?_]
    · unfold upd; rw [if_neg h1', if_neg h1]
    · intro hm
      unfold zst at hm
      rw [List.map_append, List.mem_append] at hm
      rcases hm with hm | hm
      · obtain ⟨z, hz', e⟩ := List.mem_map.1 hm
        exact hz (by rw [← e]; exact List.mem_map_of_mem (hp.symm.subset (by simp [hz'])))
      · simp at hm; omega

/-- Each number's holder is above it, and no holder is above the last one. -/
theorem hids_up (m : Nat) (Z : List Znd) (j : Nat) (H : Nat → Nat) (hn : Znum Z j) (hl : Z.length = m + 1) (v : Nat) (hv : v + 1 < j + m) (hz : v ∈ Z.map (·.2) ∨ j ≤ v) (hm : 1 ≤ m) : v < hids m Z j H v ∧ hids m Z j H v < j + m := by
  induction m generalizing Z j H with
  | zero => omega
  | succ m ih =>
    have h2 : 2 ≤ Z.length := by omega
    have hp := zperm2 h2
    have hn' := hn.st h2
    have hl' : (zst Z j).length = m + 1 := by rw [zst_len h2]; omega
    have hnd : ((zfi Z :: zfi (zwo Z) :: zwo (zwo Z)).map (·.2)).Nodup := (hp.map _).nodup_iff.1 hn.nd
    simp only [List.map_cons, List.nodup_cons, List.mem_cons, not_or] at hnd
    simp only [hids]
    have hit : ∀ v, (v = (zfi Z).2 ∨ v = (zfi (zwo Z)).2) → hids m (zst Z j) (j + 1) (upd H (zfi Z).2 (zfi (zwo Z)).2 j) v = j ∧ v < j := by
      intro v hv
      have hvj : v < j := by
        rcases hv with e | e
        · rw [e]; exact hn.lt _ (hp.symm.subset (by simp))
        · rw [e]; exact hn.lt _ (hp.symm.subset (by simp))
      refine ⟨?_, hvj⟩
      rw [hids_far m (zst Z j) (j + 1) _ hn' hl' v (by omega) ?_]
      · unfold upd
        rcases hv with e | e
        · by_cases c : v = (zfi (zwo Z)).2
          · rw [if_pos c]
          · rw [if_neg c, if_pos e]
        · rw [if_pos e]
      · intro hmm
        unfold zst at hmm
        rw [List.map_append, List.mem_append] at hmm
        rcases hmm with hmm | hmm
        · rcases hv with e | e
          · rw [e] at hmm; exact hnd.1.2 hmm
          · rw [e] at hmm; exact hnd.2.1 hmm
        · simp at hmm; omega
    by_cases c : v = (zfi Z).2 ∨ v = (zfi (zwo Z)).2
    · obtain ⟨e, hlt⟩ := hit v c
      rw [e]
      exact ⟨hlt, by omega⟩
    · have hmem : v ∈ (zst Z j).map (·.2) ∨ j + 1 ≤ v := by
        rcases hz with hz | hz
        · left
          obtain ⟨z, hz', e⟩ := List.mem_map.1 hz
          rcases List.mem_cons.1 (hp.subset hz') with rfl | hz''
          · exact absurd (Or.inl e.symm) c
          · rcases List.mem_cons.1 hz'' with rfl | hz3
            · exact absurd (Or.inr e.symm) c
            · unfold zst
              rw [List.map_append, List.mem_append]
              exact .inl (by rw [← e]; exact List.mem_map_of_mem hz3)
        · by_cases e : v = j
          · left; unfold zst; rw [List.map_append, List.mem_append]; right; simp [e]
          · right; omega
      by_cases hm1 : 1 ≤ m
      · have := ih (zst Z j) (j + 1) (upd H (zfi Z).2 (zfi (zwo Z)).2 j) hn' hl' (by omega) hmem hm1
        exact ⟨this.1, by omega⟩
      · obtain rfl : m = 0 := by omega
        exfalso
        rcases hmem with hmem | hmem
        · have hw : (zwo (zwo Z)).length = 0 := by
            rw [zwo_len (by rw [zwo_len (by omega)]; omega), zwo_len (by omega)]; omega
          have hw' : zwo (zwo Z) = [] := List.eq_nil_of_length_eq_zero hw
          unfold zst at hmem
          rw [hw'] at hmem
          simp at hmem
          omega
        · omega

/-- Depths, from the last node down: what the joining counts. -/
theorem hids_deep (m : Nat) (Z : List Znd) (j : Nat) (H : Nat → Nat) (len : Nat → Nat) (D : Nat → Nat) (hn : Znum Z j) (hl : Z.length = m + 1) (hs : (syms (zro Z)).Nodup)
    (r : Nat) (hr : (m = 0 → ∃ x, Z = [(x, r)]) ∧ (1 ≤ m → r = j + m - 1)) (hD0 : D r = 0) (hD : ∀ v, (v ∈ Z.map (·.2) ∨ j ≤ v) → v < j + m → v ≠ r → D v = D (hids m Z j H v) + 1) :
    ∀ z ∈ Z, ∀ s ∈ z.1.2, hrun m (zro Z) len s = len s + D z.2 := by
  induction m generalizing Z j H len with
  | zero =>
    obtain ⟨x, rfl⟩ := hr.1 rfl
    intro z hz s hs'
    simp at hz
    subst hz
    simp [hrun, hD0]
  | succ m ih =>
    have h2 : 2 ≤ Z.length := by omega
    have hp := zperm2 h2
    have hn' := hn.st h2
    have hl' : (zst Z j).length = m + 1 := by rw [zst_len h2]; omega
    have hrj : r = j + m := by have := hr.2 (by omega); omega
    have hps : (syms (zro Z)).Perm (syms (zro (zfi Z :: zfi (zwo Z) :: zwo (zwo Z)))) := syms_perm (hp.map _)
    have hs2 : (syms (zro (zfi Z :: zfi (zwo Z) :: zwo (zwo Z)))).Nodup := hps.nodup_iff.1 hs
    have hjn2 : (hjn (zro Z)).2 = (zfi Z).1.2 ++ (zfi (zwo Z)).1.2 := by
      unfold hjn
      rw [zfi_fst, zfi_fst, zro_wo]
    have hs3 : (syms (zro (zst Z j))).Nodup := by
      have e : (syms (zro (zst Z j))).Perm (syms (zro (zfi Z :: zfi (zwo Z) :: zwo (zwo Z)))) := by
        unfold zst
        have e1 : syms (zro (zwo (zwo Z) ++ [(hjn (zro Z), j)])) = syms (zro (zwo (zwo Z))) ++ ((zfi Z).1.2 ++ (zfi (zwo Z)).1.2) := by
          rw [← hjn2]
          simp [syms, zro]
        have e2 : syms (zro (zfi Z :: zfi (zwo Z) :: zwo (zwo Z))) = ((zfi Z).1.2 ++ (zfi (zwo Z)).1.2) ++ syms (zro (zwo (zwo Z))) := by
          simp [syms, zro]
        rw [e1, e2]
        exact List.perm_append_comm
      exact e.nodup_iff.2 hs2
    have IH := ih (zst Z j) (j + 1) (upd H (zfi Z).2 (zfi (zwo Z)).2 j) (bmp len (hjn (zro Z)).2) hn' hl' hs3 (by
      refine ⟨fun e => ?_, fun e => by omega⟩
      subst e
      have hw : (zwo (zwo Z)).length = 0 := by
        rw [zwo_len (by rw [zwo_len (by omega)]; omega), zwo_len (by omega)]; omega
      have hw' : zwo (zwo Z) = [] := List.eq_nil_of_length_eq_zero hw
      refine ⟨hjn (zro Z), ?_⟩
      unfold zst
      rw [hw', hrj]
      rfl) (by
      intro v hv hlt hne
      refine hD v ?_ (by omega) hne
      rcases hv with hv | hv
      · unfold zst at hv
        rw [List.map_append, List.mem_append] at hv
        rcases hv with hv | hv
        · left
          obtain ⟨z, hz', e⟩ := List.mem_map.1 hv
          rw [← e]
          exact List.mem_map_of_mem (hp.symm.subset (by simp [hz']))
        · right; simp at hv; omega
      · right; omega)
    rw [zro_st] at IH
    have hnd : ((zfi Z :: zfi (zwo Z) :: zwo (zwo Z)).map (·.2)).Nodup := (hp.map _).nodup_iff.1 hn.nd
    simp only [List.map_cons, List.nodup_cons, List.mem_cons, not_or] at hnd
    have two : ∀ z, (z = zfi Z ∨ z = zfi (zwo Z)) → ∀ s ∈ z.1.2, hrun (m + 1) (zro Z) len s = len s + D z.2 := by
      intro z hz s hs'
      have hsj : s ∈ (hjn (zro Z)).2 := by
        rw [hjn2]
        rcases hz with rfl | rfl
        · exact List.mem_append_left _ hs'
        · exact List.mem_append_right _ hs'
      have hzm : z ∈ Z := by
        rcases hz with rfl | rfl
        · exact hp.symm.subset (by simp)
        · exact hp.symm.subset (by simp)
      have hzj := hn.lt z hzm
      have := IH (hjn (zro Z), j) (by unfold zst; simp) s hsj
      simp only [hrun]
      rw [this, bmp_in hsj]
      have hv := hD z.2 (.inl (List.mem_map_of_mem hzm)) (by omega) (by omega)
      have hit : hids (m + 1) Z j H z.2 = j := by
        simp only [hids]
        rw [hids_far m (zst Z j) (j + 1) _ hn' hl' z.2 (by omega) ?_]
        · unfold upd
          rcases hz with rfl | rfl
          · by_cases c : (zfi Z).2 = (zfi (zwo Z)).2
            · rw [if_pos c]
            · rw [if_neg c, if_pos rfl]
          · rw [if_pos rfl]
        · intro hmm
          unfold zst at hmm
          rw [List.map_append, List.mem_append] at hmm
          rcases hmm with hmm | hmm
          · rcases hz with rfl | rfl
            · exact hnd.1.2 hmm
            · exact hnd.2.1 hmm
          · simp at hmm; omega
      rw [hit] at hv
      rw [hv]
      show _ + D j = _
      omega
    intro z hz s hs'
    rcases List.mem_cons.1 (hp.subset hz) with hz1 | hz1
    · exact two z (.inl hz1) s hs'
    · rcases List.mem_cons.1 hz1 with hz2 | hz2
      · exact two z (.inr hz2) s hs'
      · have := IH z (by unfold zst; simp [hz2]) s hs'
        simp only [hrun]
        rw [this]
        have hout : s ∉ (hjn (zro Z)).2 := by
          rw [hjn2]
          intro hmem
          have e2 : syms (zro (zfi Z :: zfi (zwo Z) :: zwo (zwo Z))) = ((zfi Z).1.2 ++ (zfi (zwo Z)).1.2) ++ syms (zro (zwo (zwo Z))) := by
            simp [syms, zro]
          rw [e2, List.nodup_append] at hs2
          exact hs2.2.2 s hmem s (List.mem_flatMap.2 ⟨z.1, List.mem_map_of_mem hz2, hs'⟩) rfl
        rw [bmp_out hout]
end Go.Proofs.YtfdhffcdkmklbaaDoor

namespace Go.Proofs.YtfdhffcdkmklbaaDoor.H4
open Go.RowKit

def SI (w : World) (v : Value) (l : List Int) : Prop :=
  ∃ ao cap, v = .slice ao l.length cap ∧ l.length ≤ cap ∧ cap ≤ maxLen ∧ (ao = none → cap = 0) ∧ ∀ x, ao = some x → ∀ i, i < l.length → w.cell? (x.add i) = some (.int .i64 (l.getD i 0))

def OI (w : World) (base : Nat) (v : Value) (l : List Int) : Prop := w.ownsRow base 3 1 v l.length (l.map (Value.int .i64))

theorem hide {p : Prop} (h : p) : Hid p := h
theorem unhide {p : Prop} (h : Hid p) : p := h

theorem add_block (x : Addr) (i : Nat) : (x.add i).block = x.block := by unfold Addr.add; split <;> rfl

theorem SI.move {w w' : World} {v : Value} {l : List Int} (h : SI w v l) (hc : ∀ a u, w.cell? a = some u → v.ownBlock = some a.block → w'.cell? a = some u) : SI w' v l := by
  obtain ⟨ao, cap, rfl, h1, h2, h3, h4⟩ := h
  refine ⟨ao, cap, rfl, h1, h2, h3, fun x hx i hi => hc _ _ (h4 x hx i hi) ?_⟩
  subst hx; simp [Value.ownBlock, add_block]

theorem SI.below {w w' : World} {v : Value} {l : List Int} (h : SI w v l) (hb : Below w.heap.size w w') : SI w' v l :=
  h.move fun a _ ha _ => (hb.cell (World.block_lt_of_cell? w a ha)).trans ha

theorem OI.lt {w : World} {base : Nat} {v : Value} {l : List Int} (h : OI w base v l) : ∀ k, v.ownBlock = some k → base ≤ k ∧ k < w.heap.size := World.ownsRow.lt h

theorem OI.sb {w : World} {base : Nat} {v : Value} {l : List Int} (h : OI w base v l) : SI w v l := by
  have hc := @World.ownsRow.cells _ _ _ _ _ _ _ h
  rcases h.2 with ⟨rfl, h0⟩ | ⟨g, cap, cur, rfl, _, _, h3, h4, _, _⟩
  · obtain rfl : l = [] := List.eq_nil_of_length_eq_zero h0
    exact ⟨none, 0, rfl, Nat.le_refl _, Nat.zero_le _, fun _ => rfl, fun x hx => by cases hx⟩
  · refine ⟨some ⟨g, 0, none⟩, cap, rfl, h3, h4, (fun e => by cases e), fun x hx i hi => ?_⟩
    cases hx
    refine hc (g := g) rfl i _ ?_
    simp [hi]

theorem OI.shape {w : World} {base : Nat} {v : Value} {l : List Int} (h : OI w base v l) : ∃ a c, v = .slice a l.length c := by
  rcases h.2 with ⟨rfl, h0⟩ | ⟨g, cap, cur, rfl, _⟩
  · exact ⟨none, 0, by rw [h0]⟩
  · exact ⟨_, _, rfl⟩

theorem OI.move {w w' : World} {base : Nat} {v : Value} {l : List Int} (h : OI w base v l) (hb : ∀ k, v.ownBlock = some k → w'.heap[k]? = w.heap[k]?) : OI w' base v l := by
  refine ⟨h.1, ?_⟩
  rcases h.2 with h2 | ⟨g, cap, cur, rfl, h1, h2, r⟩
  · exact .inl h2
  · exact .inr ⟨g, cap, cur, rfl, h1, (hb g rfl).trans h2, r⟩

theorem OI.base {w : World} {base base' : Nat} {v : Value} {l : List Int} (h : OI w base v l) (hb : base' ≤ base) : OI w base' v l := by
  refine ⟨h.1, ?_⟩
  rcases h.2 with h2 | ⟨g, cap, cur, rfl, h1, r⟩
  · exact .inl h2
  · exact .inr ⟨g, cap, cur, rfl, Nat.le_trans hb h1, r⟩

theorem OI.below {w w' : World} {base B : Nat} {v : Value} {l : List Int} (h : OI w base v l) (hb : Below B w w') (hB : w.heap.size ≤ B) : OI w' base v l :=
  h.move fun k hk => hb.block k (Nat.lt_of_lt_of_le (h.lt k hk).2 hB)

theorem size_alloc' (w : World) (o : Obj) : (w.alloc o).heap.size = w.heap.size + 1 := by simp

theorem heap_two (w : World) (o p : Obj) : ((w.alloc o).alloc p).heap[w.heap.size + 1]? = some p ∧ ((w.alloc o).alloc p).heap[w.heap.size]? = some o := by
  have e := heap_alloc_new (w.alloc o) p
  rw [size_alloc'] at e
  exact ⟨e, (Below.heap_alloc (w.alloc o) p w.heap.size (by rw [size_alloc']; omega)).trans (heap_alloc_new w o)⟩

theorem infoInt : (Tryd.prog.info? 3).map (fun i => (i.zero, i.size, i.bytes)) = some (some (.int .i64 0), 1, 8) := by kernel_rfl

theorem madeInts (n : Nat) : (madeCells #[Value.int .i64 0] n).toList = List.replicate n (Value.int .i64 0) := by
  have e : ∀ k : Nat, [Value.int IntKind.i64 0][k % 1]?.getD default = Value.int .i64 0 := fun k => by simp [Nat.mod_one]
  simp only [madeCells]
  simp [e, List.map_const']

theorem ownsRow_full {w : World} {base g n : Nat} {xs : List Value} (h : w.ownsRow base 3 1 (.slice (some ⟨g, 0, none⟩) n n) n xs) : w.heap[g]? = some (.cells xs.toArray 3 (0, 0)) ∧ base ≤ g := by
  obtain ⟨hl, h | ⟨g', cap, cur, he, hb, hg, _, _, hs, ht⟩⟩ := h
  · exact absurd h.1 (by simp)
  · simp only [Value.slice.injEq, Option.some.injEq, Addr.mk.injEq] at he
    obtain ⟨⟨rfl, -, -⟩, -, rfl⟩ := he
    have : cur = xs.toArray := by
      apply Array.ext'
      rw [← ht, List.take_of_length_le (by simp [hs])]
    exact ⟨by rw [hg, this], hb⟩

theorem OI.of_full {w : World} {base g : Nat} {l : List Int} (hg : w.heap[g]? = some (.cells (l.map (Value.int .i64)).toArray 3 (0, 0))) (hb : base ≤ g) (hm : l.length ≤ maxLen) : OI w base (.slice (some ⟨g, 0, none⟩) l.length l.length) l :=
  ⟨by simp, .inr ⟨g, l.length, _, rfl, hb, hg, Nat.le_refl _, hm, by simp, List.take_of_length_le (by simp)⟩⟩

theorem splice_all {α : Type} (L cs : List α) (h : cs.length = L.length) : splice L 0 cs = cs := by
  simp [splice, h]

theorem addr_lit {w : World} {x : Addr} {u : Value} (h : w.cell? (x.add 0) = some u) : ∃ b o, x = ⟨b, o, none⟩ := by
  have hs := World.cell?_spot h
  obtain ⟨b, o, s⟩ := x
  refine ⟨b, o, ?_⟩
  unfold Addr.add at hs
  cases s with
  | none => rfl
  | some q => simp at hs

theorem take_step {l1 l2 : List Int} {k : Nat} (h1 : k < l1.length) (hl : l1.length = l2.length) (ht : l1.take k = l2.take k) :
    (l1.getD k 0 = l2.getD k 0 → l1.take (k + 1) = l2.take (k + 1)) ∧ (l1.getD k 0 ≠ l2.getD k 0 → l1 ≠ l2) := by
  refine ⟨fun h => ?_, fun h e => h (by rw [e])⟩
  have e1 : l1.getD k 0 = l1[k] := by simp [h1]
  have e2 : l2.getD k 0 = l2[k]'(by omega) := by simp [show k < l2.length by omega]
  rw [e1, e2] at h
  rw [List.take_succ_eq_append_getElem h1, List.take_succ_eq_append_getElem (by omega), ht, h]

theorem size_setCell (w : World) (a : Addr) (u : Value) : (w.setCell a u).heap.size = w.heap.size := by simp [World.setCell]

theorem setCell_others (w : World) (g o : Nat) (u : Value) : ∀ k, k ≠ g → (w.setCell ⟨g, o, none⟩ u).heap[k]? = w.heap[k]? := fun k hk => Below.heap_setCell w _ u k hk

end Go.Proofs.YtfdhffcdkmklbaaDoor.H4

namespace Go.Proofs.YtfdhffcdkmklbaaDoor.H4

/-- A value under its key, with the turn at which it was put in. -/
structure It (V : Type) where
  key : Int
  turn : Int
  val : V

instance {V : Type} [Inhabited V] : Inhabited (It V) := ⟨⟨0, 0, default⟩⟩

variable {V : Type}

def Lt (a b : It V) : Prop := a.key < b.key ∨ a.key = b.key ∧ a.turn < b.turn

instance (a b : It V) : Decidable (Lt a b) := by unfold Lt; infer_instance

theorem Lt.asymm {a b : It V} (h : Lt a b) : ¬ Lt b a := by unfold Lt at *; omega

theorem Lt.ntrans {a b c : It V} (h : ¬ Lt a b) (k : ¬ Lt b c) : ¬ Lt a c := by unfold Lt at *; omega

variable [Inhabited V]

def pt (xs : List (It V)) (i : Nat) : It V := xs.getD i default

theorem pt_eq {xs : List (It V)} {i : Nat} (h : i < xs.length) : pt xs i = xs[i] := by simp [pt, h]

theorem pt_get {xs : List (It V)} {i : Nat} (h : i < xs.length) : xs[i]? = some (pt xs i) := by rw [pt_eq h]; simp [h]

def swp (xs : List (It V)) (i j : Nat) : List (It V) := (xs.set i (pt xs j)).set j (pt xs i)

@[simp] theorem length_swp (xs : List (It V)) (i j : Nat) : (swp xs i j).length = xs.length := by simp [swp]

theorem pt_swp {xs : List (It V)} {i j : Nat} (hi : i < xs.length) (hj : j < xs.length) (k : Nat) : pt (swp xs i j) k = if k = j then pt xs i else if k = i then pt xs j else pt xs k := by
  unfold swp pt
  by_cases h1 : k = j
  · subst h1
    simp [hj, List.getD]
  · by_cases h2 : k = i
    · subst h2
      rw [if_neg h1, if_pos rfl]
      have : ¬ j = k := fun e => h1 e.symm
      simp [List.getD, this, hi]
    · rw [if_neg h1, if_neg h2]
      have a1 : ¬ j = k := fun e => h1 e.symm
      have a2 : ¬ i = k := fun e => h2 e.symm
      simp [List.getD, a1, a2]

theorem swp_perm {xs : List (It V)} {i j : Nat} (hi : i < xs.length) (hj : j < xs.length) : (swp xs i j).Perm xs := by
  have h := Array.swap_perm (xs := xs.toArray) (i := i) (j := j) (by simpa using hi) (by simpa using hj)
  have h2 := h.toList
  rw [Array.toList_swap] at h2
  unfold swp
  rw [pt_eq hi, pt_eq hj]
  simpa using h2

/-- None is ahead of its parent. -/
def Tree (xs : List (It V)) : Prop := ∀ i, 0 < i → i < xs.length → ¬ Lt (pt xs i) (pt xs ((i - 1) / 2))

/-- A tree but for the one at place p, which may be ahead of its parent. -/
def Up (xs : List (It V)) (p : Nat) : Prop :=
  (∀ i, 0 < i → i < xs.length → i ≠ p → ¬ Lt (pt xs i) (pt xs ((i - 1) / 2))) ∧ ∀ i, 0 < i → i < xs.length → (i - 1) / 2 = p → 0 < p → ¬ Lt (pt xs i) (pt xs ((p - 1) / 2))

/-- A tree but for the one at place p, which may be behind its children. -/
def Down (xs : List (It V)) (p : Nat) : Prop :=
  (∀ i, 0 < i → i < xs.length → (i - 1) / 2 ≠ p → ¬ Lt (pt xs i) (pt xs ((i - 1) / 2))) ∧ ∀ i, 0 < i → i < xs.length → (i - 1) / 2 = p → 0 < p → ¬ Lt (pt xs i) (pt xs ((p - 1) / 2))

theorem Up.top {xs : List (It V)} (h : Up xs 0) : Tree xs := fun i h0 hi => h.1 i h0 hi (by omega)

theorem Up.stay {xs : List (It V)} {p : Nat} (h : Up xs p) (hn : ¬ Lt (pt xs p) (pt xs ((p - 1) / 2))) : Tree xs := fun i h0 hi => by
  by_cases e : i = p
  · subst e; exact hn
  · exact h.1 i h0 hi e

theorem Up.rise {xs : List (It V)} {p : Nat} (h : Up xs p) (h0 : 0 < p) (hp : p < xs.length) (hl : Lt (pt xs p) (pt xs ((p - 1) / 2))) : Up (swp xs p ((p - 1) / 2)) ((p - 1) / 2) := by
  have hq : (p - 1) / 2 < xs.length := by omega
  have hne : (p - 1) / 2 ≠ p := by omega
  refine ⟨fun i i0 hi hn => ?_, fun i i0 hi he q0 => ?_⟩
  · rw [length_swp] at hi
    rw [pt_swp hp hq, pt_swp hp hq, if_neg hn]
    by_cases e1 : i = p
    · subst e1
      rw [if_pos rfl, if_pos rfl]
      exact hl.asymm
    · rw [if_neg e1]
      by_cases e2 : (i - 1) / 2 = (p - 1) / 2
      · rw [if_pos e2]
        have := h.1 i i0 hi e1
        rw [e2] at this
        exact Lt.ntrans this hl.asymm
      · rw [if_neg e2]
        by_cases e3 : (i - 1) / 2 = p
        · rw [if_pos e3]
          exact h.2 i i0 hi e3 h0
        · rw [if_neg e3]
          exact h.1 i i0 hi e1
  · rw [length_swp] at hi
    rw [pt_swp hp hq, pt_swp hp hq, if_neg (by omega : ¬ ((p - 1) / 2 - 1) / 2 = (p - 1) / 2), if_neg (by omega : ¬ ((p - 1) / 2 - 1) / 2 = p), if_neg (by omega : ¬ i = (p - 1) / 2)]
    have hqq := h.1 ((p - 1) / 2) q0 hq hne
    by_cases e1 : i = p
    · rw [if_pos e1]
      exact hqq
    · rw [if_neg e1]
      have := h.1 i i0 hi e1
      rw [he] at this
      exact Lt.ntrans this hqq

theorem Down.stay {xs : List (It V)} {p : Nat} (h : Down xs p) (hn : ∀ i, 0 < i → i < xs.length → (i - 1) / 2 = p → ¬ Lt (pt xs i) (pt xs p)) : Tree xs := fun i i0 hi => by
  by_cases e : (i - 1) / 2 = p
  · rw [e]; exact hn i i0 hi e
  · exact h.1 i i0 hi e

theorem Down.sink {xs : List (It V)} {p f : Nat} (h : Down xs p) (hf0 : 0 < f) (hf : f < xs.length) (he : (f - 1) / 2 = p) (hl : Lt (pt xs f) (pt xs p)) (hm : ∀ i, 0 < i → i < xs.length → (i - 1) / 2 = p → ¬ Lt (pt xs i) (pt xs f)) : Down (swp xs p f) f := by
  have hp : p < xs.length := by omega
  have hne : f ≠ p := by omega
  refine ⟨fun i i0 hi hn => ?_, fun i i0 hi hif _ => ?_⟩
  · rw [length_swp] at hi
    rw [pt_swp hp hf, pt_swp hp hf, if_neg hn]
    by_cases e1 : i = f
    · rw [if_pos e1, e1, he, if_pos rfl]
      exact hl.asymm
    · rw [if_neg e1]
      by_cases e2 : (i - 1) / 2 = p
      · rw [if_pos e2, if_neg (by omega : ¬ i = p)]
        exact hm i i0 hi e2
      · rw [if_neg e2]
        by_cases e3 : i = p
        · rw [if_pos e3, e3]
          exact h.2 f hf0 hf he (by omega)
        · rw [if_neg e3]
          exact h.1 i i0 hi e2
  · rw [length_swp] at hi
    rw [pt_swp hp hf, pt_swp hp hf, he, if_neg (by omega : ¬ i = f), if_neg (by omega : ¬ i = p), if_neg (by omega : ¬ p = f), if_pos rfl]
    have := h.1 i i0 hi (by omega)
    rwa [hif] at this

theorem Tree.top {xs : List (It V)} (h : Tree xs) : ∀ i, i < xs.length → ¬ Lt (pt xs i) (pt xs 0) := by
  intro i
  induction i using Nat.strongRecOn with
  | ind i ih =>
    intro hi
    by_cases h0 : i = 0
    · subst h0; exact fun hh => hh.asymm hh
    · exact Lt.ntrans (h i (by omega) hi) (ih ((i - 1) / 2) (by omega) (by omega))

/-- The place of the first, among those ahead of place k. -/
def fstTo (R : List (It V)) : Nat → Nat
  | 0 => 0
  | k + 1 => if (pt R k).key < (pt R (fstTo R k)).key then k else fstTo R k

def Asc (R : List (It V)) : Prop := ∀ i j, i < j → j < R.length → (pt R i).turn < (pt R j).turn

theorem fstTo_lt (R : List (It V)) : ∀ k, 0 < k → fstTo R k < k
  | 0, h => by omega
  | 1, _ => by
    show (if _ then 0 else 0) < 1
    split <;> omega
  | k + 2, _ => by
    have := fstTo_lt R (k + 1) (by omega)
    have e : fstTo R (k + 2) = if (pt R (k + 1)).key < (pt R (fstTo R (k + 1))).key then k + 1 else fstTo R (k + 1) := rfl
    rw [e]
    split
    · exact Nat.lt_succ_self _
    · omega

theorem fstTo_least {R : List (It V)} (h : Asc R) : ∀ k, k ≤ R.length → ∀ i, i < k → ¬ Lt (pt R i) (pt R (fstTo R k))
  | 0, _, i, hi => by omega
  | k + 1, hk, i, hi => by
    have ih := fstTo_least h k (by omega)
    unfold fstTo
    by_cases e : i = k
    · subst e
      by_cases hlt : (pt R i).key < (pt R (fstTo R i)).key
      · rw [if_pos hlt]; exact fun hh => hh.asymm hh
      · rw [if_neg hlt]
        intro hh
        rcases hh with hh | ⟨_, hh⟩
        · exact hlt hh
        · by_cases h0 : i = 0
          · subst h0; simp only [fstTo] at hh; omega
          · have := h _ i (fstTo_lt R i (by omega)) (by omega)
            omega
    · by_cases hlt : (pt R k).key < (pt R (fstTo R k)).key
      · rw [if_pos hlt]
        exact Lt.ntrans (ih i (by omega)) (Lt.asymm (.inl hlt))
      · rw [if_neg hlt]
        exact ih i (by omega)

/-- What a heap holds: the row in memory is a tree of what was put in. -/
structure Holds (xs R : List (It V)) (n : Int) : Prop where
  tree : Tree xs
  perm : xs.Perm R
  asc : Asc R
  low : ∀ i, i < R.length → (pt R i).turn < n

theorem Holds.len {xs R : List (It V)} {n : Int} (h : Holds xs R n) : xs.length = R.length := h.perm.length_eq

theorem mem_pt {R : List (It V)} {i : Nat} (h : i < R.length) : pt R i ∈ R := by rw [pt_eq h]; exact List.getElem_mem h

theorem exists_pt {R : List (It V)} {x : It V} (h : x ∈ R) : ∃ i, i < R.length ∧ pt R i = x := by
  obtain ⟨i, hi, rfl⟩ := List.getElem_of_mem h
  exact ⟨i, hi, pt_eq hi⟩

theorem Asc.inj {R : List (It V)} (h : Asc R) {i j : Nat} (hi : i < R.length) (hj : j < R.length) (e : (pt R i).turn = (pt R j).turn) : i = j := by
  rcases Nat.lt_trichotomy i j with hl | rfl | hl
  · have := h i j hl hj; omega
  · rfl
  · have := h j i hl hi; omega

/-- The tree's top is the first. -/
theorem Holds.first {xs R : List (It V)} {n : Int} (h : Holds xs R n) (hn : 0 < R.length) : pt xs 0 = pt R (fstTo R R.length) := by
  have hf := fstTo_lt R R.length hn
  have hl := h.len
  obtain ⟨i, hi, he⟩ := exists_pt (h.perm.mem_iff.1 (mem_pt (R := xs) (i := 0) (by omega)))
  obtain ⟨j, hj, hje⟩ := exists_pt (h.perm.mem_iff.2 (mem_pt hf))
  have h1 := fstTo_least h.asc R.length (Nat.le_refl _) i hi
  have h2 := h.tree.top j hj
  rw [hje, ← he] at h2
  have : i = fstTo R R.length := by
    refine h.asc.inj hi hf ?_
    unfold Lt at h1 h2
    omega
  rw [← he, this]

theorem Asc.erase {R : List (It V)} (h : Asc R) (k : Nat) : Asc (R.eraseIdx k) := by
  intro i j hij hj
  have hlen : (R.eraseIdx k).length ≤ R.length := List.length_eraseIdx_le ..
  have e : ∀ m, m < (R.eraseIdx k).length → pt (R.eraseIdx k) m = pt R (if m < k then m else m + 1) := by
    intro m hm
    unfold pt
    rw [List.getD, List.getD, List.getElem?_eraseIdx]
    split <;> rfl
  have hl2 : k < R.length → (R.eraseIdx k).length + 1 = R.length := fun hk => by rw [List.length_eraseIdx, if_pos hk]; omega
  rw [e i (by omega), e j hj]
  by_cases hk : k < R.length
  · have := hl2 hk
    apply h
    · split <;> split <;> omega
    · split <;> omega
  · have : (R.eraseIdx k).length = R.length := by rw [List.length_eraseIdx, if_neg hk]
    apply h
    · split <;> split <;> omega
    · split <;> omega

theorem Asc.snoc {R : List (It V)} {n : Int} (h : Asc R) (hl : ∀ i, i < R.length → (pt R i).turn < n) (x : It V) (hx : x.turn = n) : Asc (R ++ [x]) ∧ ∀ i, i < (R ++ [x]).length → (pt (R ++ [x]) i).turn < n + 1 := by
  have e1 : ∀ i, i < R.length → pt (R ++ [x]) i = pt R i := fun i hi => by unfold pt; rw [List.getD, List.getD, List.getElem?_append_left hi]
  have e2 : pt (R ++ [x]) R.length = x := by unfold pt; simp [List.getD]
  refine ⟨fun i j hij hj => ?_, fun i hi => ?_⟩
  · rw [List.length_append, List.length_singleton] at hj
    by_cases ej : j = R.length
    · rw [ej, e2, e1 i (by omega), hx]
      exact hl i (by omega)
    · rw [e1 j (by omega), e1 i (by omega)]
      exact h i j hij (by omega)
  · rw [List.length_append, List.length_singleton] at hi
    by_cases ei : i = R.length
    · rw [ei, e2, hx]; omega
    · rw [e1 i (by omega)]
      have := hl i (by omega)
      omega

theorem up_snoc {xs : List (It V)} (h : Tree xs) (x : It V) : Up (xs ++ [x]) xs.length := by
  have e1 : ∀ i, i < xs.length → pt (xs ++ [x]) i = pt xs i := fun i hi => by unfold pt; rw [List.getD, List.getD, List.getElem?_append_left hi]
  refine ⟨fun i i0 hi hn => ?_, fun i i0 hi he => ?_⟩
  · rw [List.length_append, List.length_singleton] at hi
    rw [e1 i (by omega), e1 _ (by omega)]
    exact h i i0 (by omega)
  · rw [List.length_append, List.length_singleton] at hi
    omega

/-- A value comes in, and has risen. -/
theorem Holds.push {xs R : List (It V)} {n : Int} (h : Holds xs R n) (x : It V) (hx : x.turn = n) {ys : List (It V)} (ht : Tree ys) (hp : ys.Perm (xs ++ [x])) : Holds ys (R ++ [x]) (n + 1) := by
  obtain ⟨a, b⟩ := h.asc.snoc h.low x hx
  exact ⟨ht, hp.trans (h.perm.append_right _), a, b⟩

/-- The last goes to the top, and sinks. -/
def cut (xs : List (It V)) : List (It V) := (xs.set 0 (pt xs (xs.length - 1))).take (xs.length - 1)

theorem length_cut (xs : List (It V)) : (cut xs).length = xs.length - 1 := by simp [cut]

theorem pt_cut {xs : List (It V)} {i : Nat} (h : i < xs.length - 1) : pt (cut xs) i = if i = 0 then pt xs (xs.length - 1) else pt xs i := by
  unfold cut
  by_cases e : i = 0
  · subst e
    rw [if_pos rfl]
    unfold pt
    simp [List.getD, h]
  · rw [if_neg e]
    unfold pt
    have : ¬ 0 = i := fun q => e q.symm
    rw [List.getD, List.getElem?_take, if_pos h, List.getElem?_set, if_neg this]
    rfl

theorem down_cut {xs : List (It V)} (h : Tree xs) : Down (cut xs) 0 := by
  refine ⟨fun i i0 hi hn => ?_, fun i i0 hi he p0 => by omega⟩
  rw [length_cut] at hi
  rw [pt_cut hi, pt_cut (by omega), if_neg (by omega), if_neg hn]
  exact h i i0 (by omega)

theorem cut_perm {xs : List (It V)} (h : 0 < xs.length) : (pt xs 0 :: cut xs).Perm xs := by
  cases xs with
  | nil => simp at h
  | cons a r =>
    unfold cut pt
    cases hr : r.reverse with
    | nil =>
      have : r = [] := by simpa using congrArg List.reverse hr
      subst this
      simp [List.getD]
    | cons z q =>
      have : r = q.reverse ++ [z] := by simpa using congrArg List.reverse hr
      subst this
      simp [List.getD]
      exact (List.perm_append_singleton z q.reverse).symm

theorem erase_perm {R : List (It V)} {i : Nat} (h : i < R.length) : (pt R i :: R.eraseIdx i).Perm R := by
  rw [List.eraseIdx_eq_take_drop_succ, pt_eq h]
  refine List.perm_middle.symm.trans ?_
  rw [← List.drop_eq_getElem_cons h, List.take_append_drop]

theorem Holds.pop {xs R : List (It V)} {n : Int} (h : Holds xs R n) (hn : 0 < R.length) {ys : List (It V)} (ht : Tree ys) (hp : ys.Perm (cut xs)) : Holds ys (R.eraseIdx (fstTo R R.length)) n := by
  have hf := fstTo_lt R R.length hn
  have hl := h.len
  refine ⟨ht, ?_, h.asc.erase _, fun i hi => ?_⟩
  · have h1 : (pt xs 0 :: ys).Perm R := ((hp.cons _).trans (cut_perm (by omega))).trans h.perm
    have h2 := erase_perm hf
    rw [h.first hn] at h1
    exact (h1.trans h2.symm).cons_inv
  · have hm := List.mem_of_mem_eraseIdx (mem_pt hi)
    obtain ⟨j, hj, e⟩ := exists_pt hm
    rw [← e]
    exact h.low j hj

end Go.Proofs.YtfdhffcdkmklbaaDoor.H4

namespace Go.Proofs.YtfdhffcdkmklbaaDoor.H4
open Go.RowKit Go.Maps
set_option maxRecDepth 20000

theorem drew3 (w : World) (a b c : Nat) : ∃ n, ((w.drewN a).drewN b).drewN c = w.drewN n := ⟨a + (b + c), by rw [World.drewN_drewN, World.drewN_drewN]⟩

end Go.Proofs.YtfdhffcdkmklbaaDoor.H4

