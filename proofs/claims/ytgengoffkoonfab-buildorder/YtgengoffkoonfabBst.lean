import Derived.Test.YtgengoffkoonfabPks
namespace Go.Proofs.Ytgengoffkoonfab

/-! What both calls' lists are good for, said of the used symbols 'us' with frequencies f. -/

def leafs (f : Nat → Nat) (us : List Nat) : List Nod := us.map fun s => (f s, [s])

theorem syms_leafs (f : Nat → Nat) (us : List Nat) : syms (leafs f us) = us := by
  induction us with
  | nil => rfl
  | cons a l ih => simp only [leafs, syms, List.map_cons, List.flatMap_cons] at ih ⊢; rw [ih]; rfl

theorem fst_leafs (f : Nat → Nat) (us : List Nat) : (leafs f us).map (·.1) = us.map f := by simp [leafs, Function.comp_def]

theorem leafs_forest {f : Nat → Nat} {us : List Nat} (hn : us.Nodup) (hf : ∀ s ∈ us, 1 ≤ f s) : Forest f (fun _ => 0) (leafs f us) := by
  refine ⟨by rw [syms_leafs]; exact hn, ?_, ?_, ?_⟩
  · intro n hn'
    obtain ⟨s, _, rfl⟩ := List.mem_map.1 hn'
    simp
  · intro n hn'
    obtain ⟨s, _, rfl⟩ := List.mem_map.1 hn'
    simp
  · intro n hn'
    obtain ⟨s, hs, rfl⟩ := List.mem_map.1 hn'
    exact ⟨0, by simp, hf s hs, fun _ => by simp [kr], .inl rfl⟩

/-- The pairs of a list of lengths. -/
def prs (f len : Nat → Nat) (us : List Nat) : List (Nat × Nat) := us.map fun s => (f s, len s)

theorem prs_fst (f len : Nat → Nat) (us : List Nat) : (prs f len us).map (·.1) = us.map f := by simp [prs, Function.comp_def]
theorem prs_prc (f len : Nat → Nat) (us : List Nat) : prc (prs f len us) = fl f len us := by simp [prs, prc, fl, Function.comp_def]
theorem prs_krf (N : Nat) (f len : Nat → Nat) (us : List Nat) : krf N (prs f len us) = (us.map fun s => 2 ^ (N - len s)).sum := by simp [prs, krf, Function.comp_def]

/-- HUFFMAN'S LENGTHS: complete, no word above 59 bits, none cheaper. -/
theorem depths_good {f len : Nat → Nat} {us : List Nat} (hn : us.Nodup) (hf : ∀ s ∈ us, 1 ≤ f s) (hT : (us.map f).sum < fb 61) (h : Done (leafs f us) (fun _ => 0) len) :
    kr len us = 2 ^ 60 ∧ (∀ s ∈ us, len s ≤ 59) ∧ (∀ s, s ∉ us → len s = 0) ∧ ∀ N o, (∀ s ∈ us, o s ≤ N) → (us.map fun s => 2 ^ (N - o s)).sum ≤ 2 ^ N → fl f len us ≤ fl f o us := by
  obtain ⟨h1, h2, h3, c, h4, h5⟩ := done_all h (leafs_forest hn hf) (by rw [fst_leafs]; exact hT)
  rw [syms_leafs] at h1 h2 h3 h5
  refine ⟨h1, h2, h3, fun N o ho hk => ?_⟩
  have e0 : fl f (fun _ => 0) us = 0 := by unfold fl; clear h1 h2 h3 h4 h5 hn hf hT h ho hk; induction us with
    | nil => rfl
    | cons a l ih => simp only [List.map_cons, List.sum_cons, Nat.mul_zero, Nat.zero_add] at ih ⊢; exact ih
  have := huffman h4 N (prs f o us) (by rw [prs_fst, fst_leafs]) (by
    intro x hx
    obtain ⟨s, hs, rfl⟩ := List.mem_map.1 hx
    exact ho s hs) (by rw [prs_krf]; exact hk)
  rw [prs_prc] at this
  omega

theorem pick2 {us : List Nat} {s t : Nat} (hn : us.Nodup) (hs : s ∈ us) (ht : t ∈ us) (hst : s ≠ t) : ∃ r, us.Perm (s :: t :: r) ∧ ∀ x ∈ r, x ≠ s ∧ x ≠ t := by
  obtain ⟨a, b, rfl⟩ := List.append_of_mem hs
  have p1 : (a ++ s :: b).Perm (s :: (a ++ b)) := List.perm_middle
  have ht' : t ∈ a ++ b := by
    rcases List.mem_cons.1 (p1.subset ht) with e | h
    · exact absurd e.symm hst
    · exact h
  obtain ⟨c, d, hcd⟩ := List.append_of_mem ht'
  have p2 : (a ++ s :: b).Perm (s :: t :: (c ++ d)) := p1.trans ((List.perm_cons s).2 (by rw [hcd]; exact List.perm_middle))
  refine ⟨c ++ d, p2, fun x hx => ?_⟩
  have hn2 := p2.nodup_iff.1 hn
  obtain ⟨n1, n2⟩ := List.nodup_cons.1 hn2
  obtain ⟨n3, _⟩ := List.nodup_cons.1 n2
  exact ⟨fun e => n1 (by rw [← e]; exact List.mem_cons_of_mem _ hx), fun e => n3 (by rw [← e]; exact hx)⟩

/-- What is cheapest gives what stands more often no longer word. -/
theorem best_order {f len : Nat → Nat} {us : List Nat} (N : Nat) (hn : us.Nodup) (hl : ∀ s ∈ us, len s ≤ N) (hk : (us.map fun s => 2 ^ (N - len s)).sum ≤ 2 ^ N)
    (hb : ∀ o, (∀ s ∈ us, o s ≤ N) → (us.map fun s => 2 ^ (N - o s)).sum ≤ 2 ^ N → fl f len us ≤ fl f o us) {s t : Nat} (hs : s ∈ us) (ht : t ∈ us) (hst : f t < f s) : len s ≤ len t := by
  apply Classical.byContradiction
  intro c
  have hne : s ≠ t := fun e => by subst e; omega
  obtain ⟨r, hp, hr⟩ := pick2 hn hs ht hne
  obtain ⟨o, ho⟩ : ∃ o : Nat → Nat, o = fun x => if x = s then len t else if x = t then len s else len x := ⟨_, rfl⟩
  have os : o s = len t := by rw [ho]; simp
  have ot : o t = len s := by rw [ho]; exact (if_neg fun e => hne e.symm).trans (if_pos rfl)
  have ox : ∀ x ∈ r, o x = len x := fun x hx => by rw [ho]; simp [(hr x hx).1, (hr x hx).2]
  have hle : ∀ x ∈ us, o x ≤ N := fun x hx => by
    rcases List.mem_cons.1 (hp.subset hx) with rfl | hx
    · rw [os]; exact hl t ht
    · rcases List.mem_cons.1 hx with rfl | hx
      · rw [ot]; exact hl s hs
      · rw [ox x hx]; exact hl x (hp.symm.subset (by simp [hx]))
  have e1 : (us.map fun x => 2 ^ (N - o x)).sum = (us.map fun x => 2 ^ (N - len x)).sum := by
    rw [perm_sum _ hp, perm_sum _ hp]
    simp only [List.map_cons, List.sum_cons, os, ot]
    rw [map_sum_congr (f := fun x => 2 ^ (N - o x)) (g := fun x => 2 ^ (N - len x)) fun x hx => by rw [ox x hx]]
    omega
  have h1 := hb o hle (by rw [e1]; exact hk)
  have e2 : fl f o us = f s * len t + (f t * len s + fl f len r) := by
    unfold fl
    rw [perm_sum _ hp]
    simp only [List.map_cons, List.sum_cons, os, ot]
    rw [map_sum_congr (f := fun x => f x * o x) (g := fun x => f x * len x) fun x hx => by rw [ox x hx]]
  have e3 : fl f len us = f s * len s + (f t * len t + fl f len r) := by
    unfold fl
    rw [perm_sum _ hp]
    rfl
  rw [e2, e3] at h1
  obtain ⟨a, ha⟩ : ∃ a, f s = f t + (a + 1) := ⟨f s - f t - 1, by omega⟩
  obtain ⟨b, hb'⟩ : ∃ b, len s = len t + (b + 1) := ⟨len s - len t - 1, by omega⟩
  rw [ha, hb'] at h1
  simp only [Nat.add_mul, Nat.mul_add] at h1
  omega

/-- A list's sum over its places. -/
theorem sum_range {α : Type} (l : List α) (d : α) (g : α → Nat) : (l.map g).sum = sm l.length (fun i => g (l.getD i d)) := by
  have key : ∀ n, n ≤ l.length → ((l.take n).map g).sum = sm n (fun i => g (l.getD i d)) := fun n hn => by
    induction n with
    | zero => simp [sm]
    | succ n ih =>
      rw [List.take_succ_eq_append_getElem (by omega), List.map_append, List.sum_append, ih (by omega), sm_succ, List.getD_eq_getElem?_getD, List.getElem?_eq_getElem (show n < l.length by omega)]
      simp
  have := key l.length (Nat.le_refl _)
  rwa [List.take_length] at this

/-- PACKAGE-MERGE'S LENGTHS: complete, none above the limit, none cheaper within it; us: by rising frequency. -/
theorem limited_good {f len : Nat → Nat} {us : List Nat} (L : Nat) (hL : 1 ≤ L) (hu : 1 ≤ us.length) (hw : Rise (us.map f)) (hfit : us.length ≤ 2 ^ L)
    (hlen : ∀ i, i < us.length → len (us.getD i 0) = ct (sel (us.map f) L (2 * (us.length - 1))) i) :
    (us.map fun s => 2 ^ (L - len s)).sum = 2 ^ L ∧ (∀ s ∈ us, len s ≤ L) ∧ ∀ o, (∀ s ∈ us, o s ≤ L) → (us.map fun s => 2 ^ (L - o s)).sum ≤ 2 ^ L → fl f len us ≤ fl f o us := by
  obtain ⟨k, rfl⟩ : ∃ k, L = k + 1 := ⟨L - 1, by omega⟩
  have hwl : (us.map f).length = us.length := List.length_map ..
  have hroom : 2 * (us.length - 1) ≤ (row (us.map f) (k + 1)).length := by
    have := row_room (us.map f) k 2 (by rw [hwl, Nat.mul_comm, ← Nat.pow_succ]; exact hfit)
    rw [hwl] at this
    omega
  obtain ⟨s1, s2, s3⟩ := sel_facts (k + 1) _ hroom
  have s4 := sel_falls hw (k + 1) _ hroom
  have s5 := sel_len (us.map f) (k + 1) (2 * (us.length - 1))
  obtain ⟨cs, hcs⟩ : ∃ cs, cs = sel (us.map f) (k + 1) (2 * (us.length - 1)) := ⟨_, rfl⟩
  rw [← hcs] at s1 s2 s3 s4 s5 hlen
  rw [hwl] at s1
  have k1 := kr_sel cs s4 us.length s1
  rw [s5] at k1
  have e1 : (us.map fun s => 2 ^ (k + 1 - len s)).sum = sm us.length (fun i => 2 ^ (k + 1 - ct cs i)) := by
    rw [sum_range us 0]
    exact sm_congr fun i hi => by rw [hlen i hi]
  have hdist : 2 * (us.length - 1) * 2 ^ (k + 1) + 2 * 2 ^ (k + 1) = 2 * (us.length * 2 ^ (k + 1)) := by
    obtain ⟨n, hn⟩ : ∃ n, us.length = n + 1 := ⟨us.length - 1, by omega⟩
    rw [hn, Nat.add_sub_cancel, Nat.add_mul, Nat.mul_assoc]
    omega
  refine ⟨by rw [e1]; omega, ?_, fun o ho hk => ?_⟩
  · intro s hs
    obtain ⟨i, hi, rfl⟩ := List.getElem_of_mem hs
    have := hlen i hi
    rw [List.getD_eq_getElem?_getD, List.getElem?_eq_getElem hi, Option.getD_some] at this
    rw [this, ← s5]
    exact ct_le cs i
  · have c1 := coins (k + 1) (prs f o us) (by rw [prs_fst]; exact hw) (by
      intro x hx
      obtain ⟨s, hs, rfl⟩ := List.mem_map.1 hx
      exact ho s hs) (by rw [← krf, prs_krf]; exact hk)
    rw [prs_fst, show (prs f o us).length = us.length by simp [prs], s3] at c1
    have e2 : fl f len us = lvc (us.map f) cs := by
      rw [← prc_sel _ _ (by rw [hwl]; exact s1), hwl]
      unfold fl
      rw [sum_range us 0]
      exact sm_congr fun i hi => by
        rw [hlen i hi]
        congr 1
        simp [List.getD, hi]
    have e3 : ((prs f o us).map fun x => x.1 * x.2).sum = fl f o us := prs_prc f o us
    omega
end Go.Proofs.Ytgengoffkoonfab
