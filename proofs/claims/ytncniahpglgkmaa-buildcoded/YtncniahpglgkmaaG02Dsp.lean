import Derived.Test.YtncniahpglgkmaaG01Pks
namespace Go.Proofs.Ytncniahpglgkmaa

/-! What both calls' lists are good for, said of the used symbols 'us6' with frequencies f. -/

def leafs (f : Nat → Nat) (us6 : List Nat) : List Nod := us6.map fun s => (f s, [s])

theorem syms_leafs (f : Nat → Nat) (us6 : List Nat) : syms (leafs f us6) = us6 := by
  induction us6 with
  | nil => rfl
  | cons a l ih => simp only [leafs, syms, List.map_cons, List.flatMap_cons] at ih ⊢; rw [ih]; rfl

theorem fst_leafs (f : Nat → Nat) (us6 : List Nat) : (leafs f us6).map (·.1) = us6.map f := by simp [leafs, Function.comp_def]

theorem leafs_forest {f : Nat → Nat} {us6 : List Nat} (hn : us6.Nodup) (hf : ∀ s ∈ us6, 1 ≤ f s) : Forest f (fun _ => 0) (leafs f us6) := by
  refine ⟨by rw [syms_leafs]; exact hn, ?_, ?_, ?_⟩
  · intro n hn'
    obtain ⟨s, _, rfl⟩ := List.mem_map.1 hn'
    simp
  · intro n hn'
    obtain ⟨s, _, rfl⟩ := List.mem_map.1 hn'
    simp
  · intro n hn'
    obtain ⟨s, hs, rfl⟩ := List.mem_map.1 hn'
    exact ⟨0, by simp, hf s hs, fun _ => by simp [kr], .inl rfl⟩

/-- The pairs of a list of lengths. -/
def prs (f len : Nat → Nat) (us6 : List Nat) : List (Nat × Nat) := us6.map fun s => (f s, len s)

theorem prs_fst (f len : Nat → Nat) (us6 : List Nat) : (prs f len us6).map (·.1) = us6.map f := by simp [prs, Function.comp_def]
theorem prs_prc (f len : Nat → Nat) (us6 : List Nat) : prc (prs f len us6) = fl f len us6 := by simp [prs, prc, fl, Function.comp_def]
theorem prs_krf (N : Nat) (f len : Nat → Nat) (us6 : List Nat) : krf N (prs f len us6) = (us6.map fun s => 2 ^ (N - len s)).sum := by simp [prs, krf, Function.comp_def]

/-- HUFFMAN'S LENGTHS: complete, no word above 59 bits, none cheaper. -/
theorem depths_good {f len : Nat → Nat} {us6 : List Nat} (hn : us6.Nodup) (hf : ∀ s ∈ us6, 1 ≤ f s) (hT : (us6.map f).sum < fb 61) (h : Done (leafs f us6) (fun _ => 0) len) :
    kr len us6 = 2 ^ 60 ∧ (∀ s ∈ us6, len s ≤ 59) ∧ (∀ s, s ∉ us6 → len s = 0) ∧ ∀ N o, (∀ s ∈ us6, o s ≤ N) → (us6.map fun s => 2 ^ (N - o s)).sum ≤ 2 ^ N → fl f len us6 ≤ fl f o us6 := by
  obtain ⟨h1, h2, h3, c, h4, h5⟩ := done_all h (leafs_forest hn hf) (by rw [fst_leafs]; exact hT)
  rw [syms_leafs] at h1 h2 h3 h5
  refine ⟨h1, h2, h3, fun N o ho hk => ?_⟩
  have e0 : fl f (fun _ => 0) us6 = 0 := by unfold fl; clear h1 h2 h3 h4 h5 hn hf hT h ho hk; induction us6 with
    | nil => rfl
    | cons a l ih => simp only [List.map_cons, List.sum_cons, Nat.mul_zero, Nat.zero_add] at ih ⊢; exact ih
  have := huffman h4 N (prs f o us6) (by rw [prs_fst, fst_leafs]) (by
    intro x hx
    obtain ⟨s, hs, rfl⟩ := List.mem_map.1 hx
    exact ho s hs) (by rw [prs_krf]; exact hk)
  rw [prs_prc] at this
  omega

theorem pick2 {us6 : List Nat} {s t : Nat} (hn : us6.Nodup) (hs : s ∈ us6) (ht : t ∈ us6) (hst : s ≠ t) : ∃ r, us6.Perm (s :: t :: r) ∧ ∀ x ∈ r, x ≠ s ∧ x ≠ t := by
  obtain ⟨a, b, rfl⟩ := List.append_of_mem hs
  have p1 : (a ++ s :: b).Perm (s :: (a ++ b)) := List.perm_middle
  have ht' : t ∈ a ++ b := by
    rcases List.mem_cons.1 (p1.subset ht) with e | h
    · exact absurd e.symm hst
    · exact h
  obtain ⟨c, d, hcd⟩ := List.append_of_mem ht'
  have p2 : (a ++ s :: b).Perm (s :: t :: (c ++ d)) := p1.trans ((List.perm_cons s).2 (by rw [hcd]; exact List.perm_middle))
  refine ⟨c ++ d, p2, fun x hx => ?_⟩
  have hn2 := p2.nodup_iff.1 hn
  obtain ⟨n1, n2⟩ := List.nodup_cons.1 hn2
  obtain ⟨n3, _⟩ := List.nodup_cons.1 n2
  exact ⟨fun e => n1 (by rw [← e]; exact List.mem_cons_of_mem _ hx), fun e => n3 (by rw [← e]; exact hx)⟩

/-- What is cheapest gives what stands more often no longer word. -/
theorem best_order {f len : Nat → Nat} {us6 : List Nat} (N : Nat) (hn : us6.Nodup) (hl : ∀ s ∈ us6, len s ≤ N) (hk : (us6.map fun s => 2 ^ (N - len s)).sum ≤ 2 ^ N)
    (hb : ∀ o, (∀ s ∈ us6, o s ≤ N) → (us6.map fun s => 2 ^ (N - o s)).sum ≤ 2 ^ N → fl f len us6 ≤ fl f o us6) {s t : Nat} (hs : s ∈ us6) (ht : t ∈ us6) (hst : f t < f s) : len s ≤ len t := by
  apply Classical.byContradiction
  intro c
  have hne : s ≠ t := fun e => by subst e; omega
  obtain ⟨r, hp, hr⟩ := pick2 hn hs ht hne
  obtain ⟨o, ho⟩ : ∃ o : Nat → Nat, o = fun x => if x = s then len t else if x = t then len s else len x := ⟨_, rfl⟩
  have os : o s = len t := by rw [ho]; simp
  have ot : o t = len s := by rw [ho]; exact (if_neg fun e => hne e.symm).trans (if_pos rfl)
  have ox : ∀ x ∈ r, o x = len x := fun x hx => by rw [ho]; simp [(hr x hx).1, (hr x hx).2]
  have hle : ∀ x ∈ us6, o x ≤ N := fun x hx => by
    rcases List.mem_cons.1 (hp.subset hx) with rfl | hx
    · rw [os]; exact hl t ht
    · rcases List.mem_cons.1 hx with rfl | hx
      · rw [ot]; exact hl s hs
      · rw [ox x hx]; exact hl x (hp.symm.subset (by simp [hx]))
  have e1 : (us6.map fun x => 2 ^ (N - o x)).sum = (us6.map fun x => 2 ^ (N - len x)).sum := by
    rw [perm_sum _ hp, perm_sum _ hp]
    simp only [List.map_cons, List.sum_cons, os, ot]
    rw [map_sum_congr (f := fun x => 2 ^ (N - o x)) (g := fun x => 2 ^ (N - len x)) fun x hx => by rw [ox x hx]]
    omega
  have h1 := hb o hle (by rw [e1]; exact hk)
  have e2 : fl f o us6 = f s * len t + (f t * len s + fl f len r) := by
    unfold fl
    rw [perm_sum _ hp]
    simp only [List.map_cons, List.sum_cons, os, ot]
    rw [map_sum_congr (f := fun x => f x * o x) (g := fun x => f x * len x) fun x hx => by rw [ox x hx]]
  have e3 : fl f len us6 = f s * len s + (f t * len t + fl f len r) := by
    unfold fl
    rw [perm_sum _ hp]
    rfl
  rw [e2, e3] at h1
  obtain ⟨a, ha⟩ : ∃ a, f s = f t + (a + 1) := ⟨f s - f t - 1, by omega⟩
  obtain ⟨b, hb'⟩ : ∃ b, len s = len t + (b + 1) := ⟨len s - len t - 1, by omega⟩
  rw [ha, hb'] at h1
  simp only [Nat.add_mul, Nat.mul_add] at h1
  omega

/-- A list's sum over its places. -/
theorem sum_range {α : Type} (l : List α) (d : α) (g : α → Nat) : (l.map g).sum = sm l.length (fun i => g (l.getD i d)) := by
  have key : ∀ n, n ≤ l.length → ((l.take n).map g).sum = sm n (fun i => g (l.getD i d)) := fun n hn => by
    induction n with
    | zero => simp [sm]
    | succ n ih =>
      rw [List.take_succ_eq_append_getElem (by omega), List.map_append, List.sum_append, ih (by omega), sm_succ, List.getD_eq_getElem?_getD, List.getElem?_eq_getElem (show n < l.length by omega)]
      simp
  have := key l.length (Nat.le_refl _)
  rwa [List.take_length] at this

/-- PACKAGE-MERGE'S LENGTHS: complete, none above the limit, none cheaper within it; us6: by rising frequency. -/
theorem limited_good {f len : Nat → Nat} {us6 : List Nat} (L : Nat) (hL : 1 ≤ L) (hu : 1 ≤ us6.length) (hw : Rise (us6.map f)) (hfit : us6.length ≤ 2 ^ L)
    (hlen : ∀ i, i < us6.length → len (us6.getD i 0) = ct (sel (us6.map f) L (2 * (us6.length - 1))) i) :
    (us6.map fun s => 2 ^ (L - len s)).sum = 2 ^ L ∧ (∀ s ∈ us6, len s ≤ L) ∧ ∀ o, (∀ s ∈ us6, o s ≤ L) → (us6.map fun s => 2 ^ (L - o s)).sum ≤ 2 ^ L → fl f len us6 ≤ fl f o us6 := by
  obtain ⟨k, rfl⟩ : ∃ k, L = k + 1 := ⟨L - 1, by omega⟩
  have hwl : (us6.map f).length = us6.length := List.length_map ..
  have hroom : 2 * (us6.length - 1) ≤ (row (us6.map f) (k + 1)).length := by
    have := row_room (us6.map f) k 2 (by rw [hwl, Nat.mul_comm, ← Nat.pow_succ]; exact hfit)
    rw [hwl] at this
    omega
  obtain ⟨s1, s2, s3⟩ := sel_facts (k + 1) _ hroom
  have s4 := sel_falls hw (k + 1) _ hroom
  have s5 := sel_len (us6.map f) (k + 1) (2 * (us6.length - 1))
  obtain ⟨cs, hcs⟩ : ∃ cs, cs = sel (us6.map f) (k + 1) (2 * (us6.length - 1)) := ⟨_, rfl⟩
  rw [← hcs] at s1 s2 s3 s4 s5 hlen
  rw [hwl] at s1
  have k1 := kr_sel cs s4 us6.length s1
  rw [s5] at k1
  have e1 : (us6.map fun s => 2 ^ (k + 1 - len s)).sum = sm us6.length (fun i => 2 ^ (k + 1 - ct cs i)) := by
    rw [sum_range us6 0]
    exact sm_congr fun i hi => by rw [hlen i hi]
  have hdist : 2 * (us6.length - 1) * 2 ^ (k + 1) + 2 * 2 ^ (k + 1) = 2 * (us6.length * 2 ^ (k + 1)) := by
    obtain ⟨n, hn⟩ : ∃ n, us6.length = n + 1 := ⟨us6.length - 1, by omega⟩
    rw [hn, Nat.add_sub_cancel, Nat.add_mul, Nat.mul_assoc]
    omega
  refine ⟨by rw [e1]; omega, ?_, fun o ho hk => ?_⟩
  · intro s hs
    obtain ⟨i, hi, rfl⟩ := List.getElem_of_mem hs
    have := hlen i hi
    rw [List.getD_eq_getElem?_getD, List.getElem?_eq_getElem hi, Option.getD_some] at this
    rw [this, ← s5]
    exact ct_le cs i
  · have c1 := coins (k + 1) (prs f o us6) (by rw [prs_fst]; exact hw) (by
      intro x hx
      obtain ⟨s, hs, rfl⟩ := List.mem_map.1 hx
      exact ho s hs) (by rw [← krf, prs_krf]; exact hk)
    rw [prs_fst, show (prs f o us6).length = us6.length by simp [prs], s3] at c1
    have e2 : fl f len us6 = lvc (us6.map f) cs := by
      rw [← prc_sel _ _ (by rw [hwl]; exact s1), hwl]
      unfold fl
      rw [sum_range us6 0]
      exact sm_congr fun i hi => by
        rw [hlen i hi]
        congr 1
        simp [List.getD, hi]
    have e3 : ((prs f o us6).map fun x => x.1 * x.2).sum = fl f o us6 := prs_prc f o us6
    omega
end Go.Proofs.Ytncniahpglgkmaa

namespace Go.Proofs.Ytncniahpglgkmaa

/-! Depths as a function of rows: the lightest is looked for one by one; the row keeps the order of the numbers. -/

def nod0 : Nod := (0, [])

/-- The place of the lightest among the first k + 1; of equal ones the first. -/
def lgk (row : List Nod) : Nat → Nat
  | 0 => 0
  | k + 1 => if (row.getD (k + 1) nod0).1 < (row.getD (lgk row k) nod0).1 then k + 1 else lgk row k

theorem lgk_le (row : List Nod) (k : Nat) : lgk row k ≤ k := by
  induction k with
  | zero => exact Nat.le_refl _
  | succ k ih => simp only [lgk]; split <;> omega

theorem lgk_least (row : List Nod) (k i : Nat) (h : i ≤ k) : (row.getD (lgk row k) nod0).1 ≤ (row.getD i nod0).1 := by
  induction k with
  | zero => obtain rfl : i = 0 := by omega
            exact Nat.le_refl _
  | succ k ih =>
    simp only [lgk]
    by_cases c : (row.getD (k + 1) nod0).1 < (row.getD (lgk row k) nod0).1
    · rw [if_pos c]
      by_cases e : i = k + 1
      · rw [e]; exact Nat.le_refl _
      · have := ih (by omega); omega
    · rw [if_neg c]
      by_cases e : i = k + 1
      · rw [e]; omega
      · exact ih (by omega)

def lgt (row : List Nod) : Nat := lgk row (row.length - 1)

theorem lgt_lt {row : List Nod} (h : 0 < row.length) : lgt row < row.length := by have := lgk_le row (row.length - 1); unfold lgt; omega

theorem lgt_least {row : List Nod} {n : Nod} (h : n ∈ row) : (row.getD (lgt row) nod0).1 ≤ n.1 := by
  obtain ⟨i, hi, rfl⟩ := List.getElem_of_mem h
  have := lgk_least row (row.length - 1) i (by omega)
  have e : row.getD i nod0 = row[i] := by rw [List.getD_eq_getElem?_getD, List.getElem?_eq_getElem hi]; rfl
  rw [e] at this
  exact this

theorem erase_perm {row : List Nod} {i : Nat} (h : i < row.length) : row.Perm (row.getD i nod0 :: row.eraseIdx i) := by
  have e : row.getD i nod0 = row[i] := by rw [List.getD_eq_getElem?_getD, List.getElem?_eq_getElem h]; rfl
  rw [e, List.eraseIdx_eq_take_drop_succ]
  have : row = row.take i ++ row[i] :: row.drop (i + 1) := by
    rw [← List.drop_eq_getElem_cons h, List.take_append_drop]
  conv => lhs; rw [this]
  exact List.perm_middle

def fir (row : List Nod) : Nod := row.getD (lgt row) nod0
def wo (row : List Nod) : List Nod := row.eraseIdx (lgt row)
def hjn (row : List Nod) : Nod := ((fir row).1 + (fir (wo row)).1, (fir row).2 ++ (fir (wo row)).2)
def hst (row : List Nod) : List Nod := wo (wo row) ++ [hjn row]

theorem wo_len {row : List Nod} (h : 0 < row.length) : (wo row).length = row.length - 1 := by
  unfold wo
  rw [List.length_eraseIdx, if_pos (lgt_lt h)]

theorem hst_len {row : List Nod} (h : 2 ≤ row.length) : (hst row).length = row.length - 1 := by
  unfold hst
  rw [List.length_append, wo_len (by rw [wo_len (by omega)]; omega), wo_len (by omega)]
  simp
  omega

/-- Joined so many times. -/
def hrun : Nat → List Nod → (Nat → Nat) → (Nat → Nat)
  | 0, _, len => len
  | n + 1, row, len => hrun n (hst row) (bmp len (hjn row).2)

theorem hrun_done (n : Nat) (row : List Nod) (len : Nat → Nat) (h : row.length = n + 1) : Done row len (hrun n row len) := by
  induction n generalizing row len with
  | zero =>
    obtain ⟨x, rfl⟩ := List.length_eq_one_iff.1 h
    exact .one x len
  | succ n ih =>
    have h1 : 0 < row.length := by omega
    have h2 : 0 < (wo row).length := by rw [wo_len h1]; omega
    have p1 : row.Perm (fir row :: wo row) := erase_perm (lgt_lt h1)
    have p2 : (wo row).Perm (fir (wo row) :: wo (wo row)) := erase_perm (lgt_lt h2)
    have p3 : row.Perm (fir row :: fir (wo row) :: wo (wo row)) := p1.trans ((List.perm_cons _).2 p2)
    refine .join (fir row) (fir (wo row)) (wo (wo row)) (hjn row).2 p3 ?_ ?_ (List.Perm.refl _) ?_ (ih (hst row) _ (by rw [hst_len (by omega)]; omega))
    · exact lgt_least (p3.symm.subset (by simp))
    · intro r hr
      exact lgt_least (p2.symm.subset (by simp [hr]))
    · unfold hst
      exact List.perm_append_comm.trans (by rw [List.singleton_append]; exact List.Perm.refl _)

theorem erase_map {α β : Type} (f : α → β) (l : List α) (i : Nat) : (l.map f).eraseIdx i = (l.eraseIdx i).map f := by
  rw [List.eraseIdx_eq_take_drop_succ, List.eraseIdx_eq_take_drop_succ, List.map_append, List.map_take, List.map_drop]

/-! Frequencies by a factor. -/

def sc (b : Nat) (row : List Nod) : List Nod := row.map fun n => (b * n.1, n.2)

theorem sc_get (b : Nat) (row : List Nod) (i : Nat) : (sc b row).getD i nod0 = (b * (row.getD i nod0).1, (row.getD i nod0).2) := by
  unfold sc
  rw [List.getD_eq_getElem?_getD, List.getD_eq_getElem?_getD, List.getElem?_map]
  cases row[i]? with
  | none => simp [nod0]
  | some n => rfl

theorem sc_lgk {b : Nat} (hb : 0 < b) (row : List Nod) (k : Nat) : lgk (sc b row) k = lgk row k := by
  induction k with
  | zero => rfl
  | succ k ih => simp only [lgk, ih, sc_get, Nat.mul_lt_mul_left hb]

theorem sc_lgt {b : Nat} (hb : 0 < b) (row : List Nod) : lgt (sc b row) = lgt row := by
  unfold lgt
  rw [sc_lgk hb]
  simp [sc]

theorem sc_wo {b : Nat} (hb : 0 < b) (row : List Nod) : wo (sc b row) = sc b (wo row) := by
  unfold wo
  rw [sc_lgt hb]
  exact erase_map _ _ _

theorem sc_fir {b : Nat} (hb : 0 < b) (row : List Nod) : fir (sc b row) = (b * (fir row).1, (fir row).2) := by
  unfold fir
  rw [sc_lgt hb, sc_get]

theorem sc_hst {b : Nat} (hb : 0 < b) (row : List Nod) : hst (sc b row) = sc b (hst row) ∧ (hjn (sc b row)).2 = (hjn row).2 := by
  have e : hjn (sc b row) = (b * (hjn row).1, (hjn row).2) := by
    unfold hjn
    rw [sc_wo hb, sc_fir hb, sc_fir hb, Nat.mul_add]
  refine ⟨?_, by rw [e]⟩
  unfold hst
  rw [sc_wo hb, sc_wo hb, e]
  simp [sc]

theorem hrun_sc {b : Nat} (hb : 0 < b) (n : Nat) (row : List Nod) (len : Nat → Nat) : hrun n (sc b row) len = hrun n row len := by
  induction n generalizing row len with
  | zero => rfl
  | succ n ih =>
    simp only [hrun]
    rw [(sc_hst hb row).1, (sc_hst hb row).2, ih]

/-! Other names for the symbols. -/

def rn (g : Nat → Nat) (row : List Nod) : List Nod := row.map fun n => (n.1, n.2.map g)

theorem rn_get (g : Nat → Nat) (row : List Nod) (i : Nat) : (rn g row).getD i nod0 = ((row.getD i nod0).1, (row.getD i nod0).2.map g) := by
  unfold rn
  rw [List.getD_eq_getElem?_getD, List.getD_eq_getElem?_getD, List.getElem?_map]
  cases row[i]? with
  | none => simp [nod0]
  | some n => rfl

theorem rn_lgt (g : Nat → Nat) (row : List Nod) : lgt (rn g row) = lgt row := by
  have : ∀ k, lgk (rn g row) k = lgk row k := fun k => by
    induction k with
    | zero => rfl
    | succ k ih => simp only [lgk, ih, rn_get]
  unfold lgt
  rw [this]
  simp [rn]

theorem rn_wo (g : Nat → Nat) (row : List Nod) : wo (rn g row) = rn g (wo row) := by
  unfold wo
  rw [rn_lgt]
  exact erase_map _ _ _

theorem rn_fir (g : Nat → Nat) (row : List Nod) : fir (rn g row) = ((fir row).1, (fir row).2.map g) := by
  unfold fir
  rw [rn_lgt, rn_get]

theorem rn_hst (g : Nat → Nat) (row : List Nod) : hst (rn g row) = rn g (hst row) ∧ (hjn (rn g row)).2 = (hjn row).2.map g := by
  have e : hjn (rn g row) = ((hjn row).1, (hjn row).2.map g) := by
    unfold hjn
    rw [rn_wo, rn_fir, rn_fir, List.map_append]
  refine ⟨?_, by rw [e]⟩
  unfold hst
  rw [rn_wo, rn_wo, e]
  simp [rn]

theorem hrun_rn {g : Nat → Nat} (hg : ∀ a b, g a = g b → a = b) (n : Nat) (row : List Nod) (len len2 : Nat → Nat) (h : ∀ s, len2 (g s) = len s) : ∀ s, hrun n (rn g row) len2 (g s) = hrun n row len s := by
  induction n generalizing row len len2 with
  | zero => exact h
  | succ n ih =>
    simp only [hrun]
    rw [(rn_hst g row).1, (rn_hst g row).2]
    refine ih _ _ _ fun s => ?_
    unfold bmp
    by_cases c : s ∈ (hjn row).2
    · rw [if_pos c, if_pos (List.mem_map_of_mem c), h]
    · rw [if_neg c, if_neg (fun hm => c (by obtain ⟨t, ht, e⟩ := List.mem_map.1 hm; rw [← hg _ _ e]; exact ht)), h]

/-! Package-merge by a factor. -/

theorem mrg_sc {b : Nat} (hb : 0 < b) (w p : List Nat) : mrg (w.map (b * ·)) (p.map (b * ·)) = (mrg w p).map (b * ·) := by
  induction w, p using mrg.induct with
  | case1 p => simp [mrg]
  | case2 a w => simp [mrg]
  | case3 a w c p h ih =>
    have h' : b * a ≤ b * c := Nat.mul_le_mul_left _ h
    simp only [List.map_cons] at ih
    simp only [List.map_cons, mrg, if_pos h, if_pos h', ih]
  | case4 a w c p h ih =>
    have h' : ¬ b * a ≤ b * c := fun hh => h (Nat.le_of_mul_le_mul_left hh hb)
    simp only [List.map_cons] at ih
    simp only [List.map_cons, mrg, if_neg h, if_neg h', ih]

theorem cnt_sc {b : Nat} (hb : 0 < b) (w p : List Nat) (m : Nat) : cnt (w.map (b * ·)) (p.map (b * ·)) m = cnt w p m := by
  induction w, p using mrg.induct generalizing m with
  | case1 p => cases m <;> simp [cnt]
  | case2 a w =>
    have : ∀ (w : List Nat) (m : Nat), cnt (w.map (b * ·)) [] m = cnt w [] m := fun w => by
      induction w with
      | nil => intro m; rfl
      | cons a w ih => intro m; cases m with
        | zero => simp [cnt]
        | succ m => simp only [List.map_cons, cnt, ih]
    exact this (a :: w) m
  | case3 a w c p h ih =>
    have h' : b * a ≤ b * c := Nat.mul_le_mul_left _ h
    cases m with
    | zero => simp [cnt]
    | succ m =>
      have := ih m
      simp only [List.map_cons] at this
      simp only [List.map_cons, cnt, if_pos h, if_pos h', this]
  | case4 a w c p h ih =>
    have h' : ¬ b * a ≤ b * c := fun hh => h (Nat.le_of_mul_le_mul_left hh hb)
    cases m with
    | zero => simp [cnt]
    | succ m =>
      have := ih m
      simp only [List.map_cons] at this
      simp only [List.map_cons, cnt, if_neg h, if_neg h', this]

theorem pks_sc (b : Nat) (l : List Nat) : pks (l.map (b * ·)) = (pks l).map (b * ·) := by
  induction l using pks.induct with
  | case1 a c r ih => simp only [List.map_cons, pks, ih, Nat.mul_add]
  | case2 l hl =>
    match l, hl with
    | [], _ => rfl
    | [a], _ => rfl
    | a :: c :: r, hl => exact absurd rfl (hl a c r)

theorem row_sc {b : Nat} (hb : 0 < b) (w : List Nat) (k : Nat) : row (w.map (b * ·)) k = (row w k).map (b * ·) := by
  induction k with
  | zero => rfl
  | succ k ih => simp only [row, ih, pks_sc, mrg_sc hb]

theorem sel_sc {b : Nat} (hb : 0 < b) (w : List Nat) (k m : Nat) : sel (w.map (b * ·)) k m = sel w k m := by
  induction k generalizing m with
  | zero => rfl
  | succ k ih => simp only [sel, row_sc hb, pks_sc, cnt_sc hb, ih]
end Go.Proofs.Ytncniahpglgkmaa

