import Derived.Test.YtegoienjikjhkaaDoorGA07
namespace Go.Proofs.YtegoienjikjhkaaDoor

/-! Package-merge: what the lengths are behind it. -/

def npk : List Nod → List Nod
  | a :: b :: r => (a.1 + b.1, a.2 ++ b.2) :: npk r
  | _ => []

def nmg : List Nod → List Nod → List Nod
  | [], p => p
  | a :: w, [] => a :: w
  | a :: w, b :: p => if a.1 ≤ b.1 then a :: nmg w (b :: p) else b :: nmg (a :: w) p
termination_by w p => w.length + p.length

def nrow (w : List Nod) : Nat → List Nod
  | 0 => []
  | k + 1 => nmg w (npk (nrow w k))

theorem npk_fst (l : List Nod) : (npk l).map (·.1) = pks (l.map (·.1)) := by
  induction l using npk.induct with
  | case1 a b r ih => simp [npk, pks, ih]
  | case2 l hl =>
    match l, hl with
    | [], _ => rfl
    | [a], _ => rfl
    | a :: b :: r, hl => exact absurd rfl (hl a b r)

theorem nmg_fst (w p : List Nod) : (nmg w p).map (·.1) = mrg (w.map (·.1)) (p.map (·.1)) := by
  induction w, p using nmg.induct with
  | case1 p => simp [nmg, mrg]
  | case2 a w => simp [nmg, mrg]
  | case3 a w b p h ih =>
    simp only [nmg, if_pos h, List.map_cons, mrg]
    rw [ih]; simp
  | case4 a w b p h ih =>
    simp only [nmg, if_neg h, List.map_cons, mrg]
    rw [ih]; simp

theorem nrow_fst (w : List Nod) (k : Nat) : (nrow w k).map (·.1) = row (w.map (·.1)) k := by
  induction k with
  | zero => rfl
  | succ k ih => simp only [nrow, row, nmg_fst, npk_fst, ih]

theorem cnt_nil (w : List Nat) (m : Nat) (h : m ≤ w.length) : cnt w [] m = m := by
  induction w generalizing m with
  | nil => simp at h; subst h; simp [cnt]
  | cons a w ih =>
    cases m with
    | zero => simp [cnt]
    | succ m => simp only [cnt]; rw [ih m (by simpa using h)]

theorem nmg_take (w p : List Nod) (m : Nat) (h : m ≤ w.length + p.length) : ((nmg w p).take m).Perm (w.take (cnt (w.map (·.1)) (p.map (·.1)) m) ++ p.take (m - cnt (w.map (·.1)) (p.map (·.1)) m)) ∧ cnt (w.map (·.1)) (p.map (·.1)) m ≤ w.length ∧ cnt (w.map (·.1)) (p.map (·.1)) m ≤ m ∧ m - cnt (w.map (·.1)) (p.map (·.1)) m ≤ p.length := by
  induction w, p using nmg.induct generalizing m with
  | case1 p =>
    have e : cnt (([] : List Nod).map (·.1)) (p.map (·.1)) m = 0 := by cases m <;> simp [cnt]
    rw [e]
    simp only [nmg, List.length_nil, Nat.zero_add] at h ⊢
    exact ⟨by simp, Nat.le_refl _, Nat.zero_le _, by simpa using h⟩
  | case2 a w =>
    have e : cnt ((a :: w).map (·.1)) (([] : List Nod).map (·.1)) m = m := cnt_nil _ m (by simpa using h)
    rw [e]
    simp only [nmg]
    exact ⟨by simp, by simpa using h, Nat.le_refl _, by simp⟩
  | case3 a w b p c ih =>
    cases m with
    | zero => simp [cnt]
    | succ m =>
      obtain ⟨i1, i2, i3, i4⟩ := ih m (by simp at h ⊢; omega)
      have e : cnt ((a :: w).map (·.1)) ((b :: p).map (·.1)) (m + 1) = cnt (w.map (·.1)) ((b :: p).map (·.1)) m + 1 := by simp [cnt, c]
      rw [e]
      simp only [nmg, if_pos c, List.take_succ_cons, List.cons_append, Nat.add_sub_add_right]
      refine ⟨(List.perm_cons a).2 i1, by simpa using i2, by omega, i4⟩
  | case4 a w b p c ih =>
    cases m with
    | zero => simp [cnt]
    | succ m =>
      obtain ⟨i1, i2, i3, i4⟩ := ih m (by simp at h ⊢; omega)
      have e : cnt ((a :: w).map (·.1)) ((b :: p).map (·.1)) (m + 1) = cnt ((a :: w).map (·.1)) (p.map (·.1)) m := by simp [cnt, c]
      rw [e]
      simp only [nmg, if_neg c, List.take_succ_cons]
      refine ⟨?_, i2, by omega, by rw [List.length_cons]; omega⟩
      rw [show m + 1 - cnt ((a :: w).map (·.1)) (p.map (·.1)) m = (m - cnt ((a :: w).map (·.1)) (p.map (·.1)) m) + 1 by omega, List.take_succ_cons]
      exact ((List.perm_cons b).2 i1).trans List.perm_middle.symm

theorem npk_syms (l : List Nod) (q : Nat) (h : 2 * q ≤ l.length) : syms ((npk l).take q) = syms (l.take (2 * q)) := by
  induction l using npk.induct generalizing q with
  | case1 a b r ih =>
    cases q with
    | zero => rfl
    | succ q =>
      simp only [List.length_cons] at h
      have := ih q (by omega)
      rw [show 2 * (q + 1) = (2 * q + 1) + 1 by omega]
      simp only [npk, List.take_succ_cons, syms, List.flatMap_cons, List.append_assoc] at this ⊢
      rw [this]
  | case2 l hl =>
    match l, hl with
    | [], _ => simp [npk]
    | [a], _ => simp at h; obtain rfl : q = 0 := by omega
                rfl
    | a :: b :: r, hl => exact absurd rfl (hl a b r)

/-- How many leaves are taken of each row, the last row first. -/
def sel (w : List Nat) : Nat → Nat → List Nat
  | 0, _ => []
  | k + 1, m => cnt w (pks (row w k)) m :: sel w k (2 * (m - cnt w (pks (row w k)) m))

theorem sel_len (w : List Nat) (k m : Nat) : (sel w k m).length = k := by
  induction k generalizing m with
  | zero => rfl
  | succ k ih => simp [sel, ih]

theorem cnt_facts (w p : List Nat) (m : Nat) (h : m ≤ w.length + p.length) : ((mrg w p).take m).Perm (w.take (cnt w p m) ++ p.take (m - cnt w p m)) ∧ cnt w p m ≤ w.length ∧ cnt w p m ≤ m ∧ m - cnt w p m ≤ p.length := by
  have e : ∀ l : List Nat, (l.map fun x => ((x, []) : Nod)).map (·.1) = l := fun l => by simp [Function.comp_def]
  have := nmg_take (w.map fun x => (x, [])) (p.map fun x => (x, [])) m (by simpa using h)
  rw [e, e] at this
  obtain ⟨h1, h2, h3, h4⟩ := this
  refine ⟨?_, by simpa using h2, h3, by simpa using h4⟩
  have h5 := h1.map (·.1)
  rw [List.map_take, nmg_fst, e, e, List.map_append, List.map_take, List.map_take, e, e] at h5
  exact h5

/-- All that is known of the counts. -/
theorem sel_facts {w : List Nat} (k m : Nat) (hm : m ≤ (row w k).length) : (∀ c ∈ sel w k m, c ≤ w.length) ∧ 2 * wth (sel w k m) = m * 2 ^ k ∧ ((row w k).take m).sum = lvc w (sel w k m) := by
  induction k generalizing m with
  | zero =>
    simp [row] at hm
    subst hm
    simp [sel, wth, lvc]
  | succ k ih =>
    have hl := row_len w k
    obtain ⟨c1, c2, c3, c4⟩ := cnt_facts w (pks (row w k)) m (by rw [pks_len]; omega)
    rw [pks_len] at c4
    obtain ⟨c, hc⟩ : ∃ c, c = cnt w (pks (row w k)) m := ⟨_, rfl⟩
    rw [← hc] at c1 c2 c3 c4
    obtain ⟨i1, i2, i3⟩ := ih (2 * (m - c)) (by omega)
    simp only [sel]
    rw [← hc]
    refine ⟨?_, ?_, ?_⟩
    · intro x hx
      rcases List.mem_cons.1 hx with rfl | hx
      · exact c2
      · exact i1 x hx
    · simp only [wth, sel_len, Nat.mul_add, i2, Nat.pow_succ]
      have e1 : 2 * (m - c) * 2 ^ k = 2 * ((m - c) * 2 ^ k) := Nat.mul_assoc ..
      have e2 : m * (2 ^ k * 2) = 2 * (m * 2 ^ k) := by rw [← Nat.mul_assoc]; omega
      have e3 : (m - c) * 2 ^ k + c * 2 ^ k = m * 2 ^ k := by rw [← Nat.add_mul, Nat.sub_add_cancel c3]
      omega
    · have s1 := perm_sum id c1
      simp only [List.map_id_fun, id_eq, List.sum_append] at s1
      rw [pks_sum _ _ (by omega), i3] at s1
      show ((mrg w (pks (row w k))).take m).sum = _
      rw [s1]
      simp [lvc]

theorem sel_syms (w : List Nod) (k m : Nat) (hm : m ≤ (nrow w k).length) : (syms ((nrow w k).take m)).Perm ((sel (w.map (·.1)) k m).flatMap fun c => syms (w.take c)) := by
  induction k generalizing m with
  | zero =>
    simp [nrow] at hm
    subst hm
    simp [sel, syms, nrow]
  | succ k ih =>
    have hk : (npk (nrow w k)).length = (nrow w k).length / 2 := by
      have := congrArg List.length (npk_fst (nrow w k))
      rw [pks_len] at this
      simpa using this
    have hl : (nrow w (k + 1)).length = w.length + (npk (nrow w k)).length := by
      have := congrArg List.length (nmg_fst w (npk (nrow w k)))
      rw [mrg_len] at this
      simpa [nrow] using this
    obtain ⟨c1, c2, c3, c4⟩ := nmg_take w (npk (nrow w k)) m (by omega)
    rw [npk_fst, nrow_fst] at c1 c2 c3 c4
    obtain ⟨c, hc⟩ : ∃ c, c = cnt (w.map (·.1)) (pks (row (w.map (·.1)) k)) m := ⟨_, rfl⟩
    simp only [sel]
    rw [← hc] at c1 c2 c3 c4 ⊢
    have h2 : 2 * (m - c) ≤ (nrow w k).length := by omega
    have h1 := syms_perm c1
    refine h1.trans ?_
    have e : syms (w.take c ++ (npk (nrow w k)).take (m - c)) = syms (w.take c) ++ syms ((npk (nrow w k)).take (m - c)) := by simp [syms]
    rw [e, npk_syms _ _ h2, List.flatMap_cons]
    exact List.Perm.append_left _ (ih _ h2)

theorem row_room (w : List Nat) (k t : Nat) (h : w.length ≤ t * 2 ^ k) : 2 * w.length ≤ (row w (k + 1)).length + t := by
  induction k generalizing t with
  | zero =>
    have := row_len w 0
    simp [row] at this h ⊢
    rw [mrg_len]
    simp [pks]
    omega
  | succ k ih =>
    have := ih (2 * t) (by rw [Nat.pow_succ] at h; rw [Nat.mul_assoc, Nat.mul_comm 2, Nat.mul_assoc]; exact h)
    have := row_len w (k + 1)
    omega

/-- A leaf that weighs no more than a package that is taken is taken. -/
theorem cnt_ge {w p : List Nat} (hw : Rise w) (m q i : Nat) (hm : m ≤ w.length + p.length) (hq : q < m - cnt w p m) (hi : i < w.length) (h : w.getD i 0 ≤ p.getD q 0) : i < cnt w p m := by
  induction w, p using mrg.induct generalizing m q i with
  | case1 p => simp at hi
  | case2 a w =>
    rw [cnt_nil _ _ (by simpa using hm)] at hq
    omega
  | case3 a w b p c ih =>
    cases m with
    | zero => omega
    | succ m =>
      simp only [cnt, if_pos c] at hq ⊢
      cases i with
      | zero => omega
      | succ i =>
        have := ih (List.pairwise_cons.1 hw).2 m q i (by simp at hm ⊢; omega) (by omega) (by simpa using hi) (by simpa using h)
        omega
  | case4 a w b p c ih =>
    cases m with
    | zero => omega
    | succ m =>
      simp only [cnt, if_neg c] at hq ⊢
      cases q with
      | zero =>
        exfalso
        have hai : a ≤ (a :: w).getD i 0 := by
          cases i with
          | zero => simp
          | succ i =>
            simp only [List.getD_cons_succ]
            have hi' : i < w.length := by simpa using hi
            rw [List.getD_eq_getElem?_getD, List.getElem?_eq_getElem hi']
            exact (List.pairwise_cons.1 hw).1 _ (List.getElem_mem hi')
        rw [List.getD_cons_zero] at h
        omega
      | succ q =>
        have hq' : q < m - cnt (a :: w) p m := by
          have := (cnt_facts (a :: w) p m (by simp at hm ⊢; omega)).2.2.1
          omega
        exact ih hw m q i (by simp at hm ⊢; omega) hq' hi (by simpa using h)

theorem rise_last {l : List Nat} (h : Rise l) {n : Nat} (hn : n < l.length) {x : Nat} (hx : x ∈ l.take (n + 1)) : x ≤ l.getD n 0 := by
  rw [List.getD_eq_getElem?_getD, List.getElem?_eq_getElem hn]
  rw [List.take_succ_eq_append_getElem hn] at hx
  rcases List.mem_append.1 hx with hx | hx
  · obtain ⟨i, hi, rfl⟩ := List.getElem_of_mem hx
    rw [List.length_take] at hi
    simp only [List.getElem_take, Option.getD_some]
    exact List.pairwise_iff_getElem.1 h i n (by omega) hn (by omega)
  · simp at hx; subst hx; simp

theorem pks_get (l : List Nat) (q : Nat) (h : 2 * q + 1 < l.length) : (pks l).getD q 0 = l.getD (2 * q) 0 + l.getD (2 * q + 1) 0 := by
  induction l using pks.induct generalizing q with
  | case1 a b r ih =>
    cases q with
    | zero => simp [pks]
    | succ q =>
      have := ih q (by simp at h; omega)
      simp only [pks, List.getD_cons_succ, this]
      rw [show 2 * (q + 1) = (2 * q + 1) + 1 by omega]
      simp
  | case2 l hl =>
    match l, hl with
    | [], _ => simp at h
    | [a], _ => simp at h
    | a :: b :: r, hl => exact absurd rfl (hl a b r)

/-- No later row takes fewer leaves than the row below it. -/
theorem sel_falls {w : List Nat} (hw : Rise w) (k m : Nat) (hm : m ≤ (row w k).length) : (sel w k m).Pairwise (· ≥ ·) := by
  induction k generalizing m with
  | zero => exact List.Pairwise.nil
  | succ k ih =>
    have hl := row_len w k
    obtain ⟨c1, c2, c3, c4⟩ := cnt_facts w (pks (row w k)) m (by rw [pks_len]; omega)
    rw [pks_len] at c4
    obtain ⟨c, hc⟩ : ∃ c, c = cnt w (pks (row w k)) m := ⟨_, rfl⟩
    have hq : 2 * (m - c) ≤ (row w k).length := by rw [hc]; omega
    have i1 := ih (2 * (m - c)) hq
    simp only [sel]
    rw [← hc]
    refine List.pairwise_cons.2 ⟨?_, i1⟩
    cases k with
    | zero => simp [sel]
    | succ k =>
      simp only [sel] at i1 ⊢
      have hl2 := row_len w k
      obtain ⟨d1, d2, d3, d4⟩ := cnt_facts w (pks (row w k)) (2 * (m - c)) (by rw [pks_len]; omega)
      obtain ⟨d, hd⟩ : ∃ d, d = cnt w (pks (row w k)) (2 * (m - c)) := ⟨_, rfl⟩
      rw [← hd] at i1 d1 d2 d3 ⊢
      have hdc : d ≤ c := by
        cases d with
        | zero => exact Nat.zero_le _
        | succ d =>
          have hq1 : 1 ≤ m - c := by omega
          have hmem : w.getD d 0 ∈ (row w (k + 1)).take (2 * (m - c) - 1 + 1) := by
            rw [show 2 * (m - c) - 1 + 1 = 2 * (m - c) by omega]
            refine d1.symm.subset (List.mem_append_left _ ?_)
            rw [List.getD_eq_getElem?_getD, List.getElem?_eq_getElem (show d < w.length by omega), Option.getD_some]
            rw [List.mem_iff_getElem]
            exact ⟨d, by rw [List.length_take]; omega, by simp⟩
          have h1 := rise_last (row_rise hw (k + 1)) (n := 2 * (m - c) - 1) (by omega) hmem
          have h2 := pks_get (row w (k + 1)) (m - c - 1) (by omega)
          rw [show 2 * (m - c - 1) + 1 = 2 * (m - c) - 1 by omega] at h2
          have h3 := cnt_ge (p := pks (row w (k + 1))) hw m (m - c - 1) d (by rw [pks_len]; omega) (by rw [← hc]; omega) (by omega) (by omega)
          rw [← hc] at h3
          omega
      intro x hx
      rcases List.mem_cons.1 hx with rfl | hx
      · exact hdc
      · exact Nat.le_trans ((List.pairwise_cons.1 i1).1 x hx) hdc

/-- How often a rank is taken. -/
def ct (cs : List Nat) (i : Nat) : Nat := (cs.filter fun c => decide (i < c)).length

theorem ct_cons (c : Nat) (cs : List Nat) (i : Nat) : ct (c :: cs) i = (if i < c then 1 else 0) + ct cs i := by
  unfold ct
  by_cases h : i < c
  · rw [List.filter_cons_of_pos (by simpa using h), if_pos h, List.length_cons]; omega
  · rw [List.filter_cons_of_neg (by simpa using h), if_neg h]; omega

theorem ct_zero {cs : List Nat} {i : Nat} (h : ∀ c ∈ cs, c ≤ i) : ct cs i = 0 := by
  unfold ct
  rw [List.filter_eq_nil_iff.2 fun c hc => by have := h c hc; simp; omega]
  rfl

theorem ct_le (cs : List Nat) (i : Nat) : ct cs i ≤ cs.length := List.length_filter_le _ _

theorem ct_mono (cs : List Nat) {i j : Nat} (h : i ≤ j) : ct cs j ≤ ct cs i := by
  induction cs with
  | nil => exact Nat.le_refl _
  | cons c cs ih => rw [ct_cons, ct_cons]; split <;> split <;> omega

def sm (u : Nat) (g : Nat → Nat) : Nat := ((List.range u).map g).sum

theorem sm_succ (u : Nat) (g : Nat → Nat) : sm (u + 1) g = sm u g + g u := by simp [sm, List.range_succ]

theorem sm_congr {u : Nat} {g h : Nat → Nat} (e : ∀ i, i < u → g i = h i) : sm u g = sm u h := map_sum_congr fun i hi => e i (List.mem_range.1 hi)

/-- Kraft's sum of what is taken. -/
theorem kr_sel (cs : List Nat) (hm : cs.Pairwise (· ≥ ·)) (u : Nat) (hu : ∀ c ∈ cs, c ≤ u) : sm u (fun i => 2 ^ (cs.length - ct cs i)) + wth cs = u * 2 ^ cs.length := by
  induction cs generalizing u with
  | nil =>
    have : ∀ u, sm u (fun i => 2 ^ (([] : List Nat).length - ct [] i)) = u := fun u => by
      induction u with
      | zero => rfl
      | succ u ih => rw [sm_succ, ih]; rfl
    rw [this]
    simp [wth]
  | cons c cs ih =>
    obtain ⟨h1, h2⟩ := List.pairwise_cons.1 hm
    have i1 := ih h2 c h1
    obtain ⟨e, rfl⟩ : ∃ e, u = c + e := ⟨u - c, by have := hu c (by simp); omega⟩
    have s1 : sm c (fun i => 2 ^ ((c :: cs).length - ct (c :: cs) i)) = sm c (fun i => 2 ^ (cs.length - ct cs i)) := sm_congr fun i hi => by
      rw [ct_cons, if_pos hi, List.length_cons]
      congr 1
      omega
    have s2 : ∀ e, sm (c + e) (fun i => 2 ^ ((c :: cs).length - ct (c :: cs) i)) = sm c (fun i => 2 ^ ((c :: cs).length - ct (c :: cs) i)) + e * 2 ^ (c :: cs).length := fun e => by
      induction e with
      | zero => simp
      | succ e ih2 =>
        rw [← Nat.add_assoc, sm_succ, ih2, ct_zero (fun x hx => by
          rcases List.mem_cons.1 hx with rfl | hx
          · omega
          · have := h1 x hx; omega), Nat.sub_zero, Nat.succ_mul]
        omega
    rw [s2, s1]
    simp only [wth, List.length_cons, Nat.pow_succ, Nat.add_mul] at i1 ⊢
    have e1 : c * (2 ^ cs.length * 2) = c * 2 ^ cs.length + c * 2 ^ cs.length := by rw [← Nat.mul_assoc]; omega
    omega

theorem sm_add (u : Nat) (g h : Nat → Nat) : sm u (fun i => g i + h i) = sm u g + sm u h := by
  induction u with
  | zero => rfl
  | succ u ih => rw [sm_succ, sm_succ, sm_succ, ih]; omega

theorem sm_take (w : List Nat) (c : Nat) (h : c ≤ w.length) : (w.take c).sum = sm c (fun i => w.getD i 0) := by
  induction c with
  | zero => simp [sm]
  | succ c ih =>
    rw [List.take_succ_eq_append_getElem (by omega), List.sum_append, ih (by omega), sm_succ]
    simp [List.getD, List.getElem?_eq_getElem (show c < w.length by omega)]

theorem sm_cut (u c : Nat) (g : Nat → Nat) (h : c ≤ u) : sm u (fun i => if i < c then g i else 0) = sm c g := by
  obtain ⟨e, rfl⟩ : ∃ e, u = c + e := ⟨u - c, by omega⟩
  clear h
  induction e with
  | zero => exact sm_congr fun i hi => by rw [if_pos (by omega)]
  | succ e ih => rw [← Nat.add_assoc, sm_succ, ih, if_neg (by omega)]; rfl

/-- The price of what is taken. -/
theorem prc_sel (w cs : List Nat) (h : ∀ c ∈ cs, c ≤ w.length) : sm w.length (fun i => w.getD i 0 * ct cs i) = lvc w cs := by
  induction cs with
  | nil =>
    have : ∀ u, sm u (fun i => w.getD i 0 * ct [] i) = 0 := fun u => by
      induction u with
      | zero => rfl
      | succ u ih => rw [sm_succ, ih]; rfl
    rw [this]; rfl
  | cons c cs ih =>
    have e : sm w.length (fun i => w.getD i 0 * ct (c :: cs) i) = sm w.length (fun i => (if i < c then w.getD i 0 else 0) + w.getD i 0 * ct cs i) := sm_congr fun i _ => by
      rw [ct_cons, Nat.mul_add]
      split <;> simp
    rw [e, sm_add, sm_cut _ _ _ (h c (by simp)), ← sm_take _ _ (h c (by simp)), ih fun x hx => h x (by simp [hx])]
    simp [lvc]
end Go.Proofs.YtegoienjikjhkaaDoor

namespace Go.Proofs.YtegoienjikjhkaaDoor

/-! What both calls' lists are good for, said of the used symbols 'us6' with frequencies f. -/

def leafs (f : Nat → Nat) (us6 : List Nat) : List Nod := us6.map fun s => (f s, [s])

theorem syms_leafs (f : Nat → Nat) (us6 : List Nat) : syms (leafs f us6) = us6 := by
  induction us6 with
  | nil => rfl
  | cons a l ih => simp only [leafs, syms, List.map_cons, List.flatMap_cons] at ih ⊢; rw [ih]; rfl

theorem fst_leafs (f : Nat → Nat) (us6 : List Nat) : (leafs f us6).map (·.1) = us6.map f := by simp [leafs, Function.comp_def]

theorem leafs_forest {f : Nat → Nat} {us6 : List Nat} (hn : us6.Nodup) (hf : ∀ s ∈ us6, 1 ≤ f s) : Forest f (fun _ => 0) (leafs f us6) := by
  refine ⟨by rw [syms_leafs]; exact hn, ?_, ?_, ?_⟩
  · intro n hn'
    obtain ⟨s, _, rfl⟩ := List.mem_map.1 hn'
    simp
  · intro n hn'
    obtain ⟨s, _, rfl⟩ := List.mem_map.1 hn'
    simp
  · intro n hn'
    obtain ⟨s, hs, rfl⟩ := List.mem_map.1 hn'
    exact ⟨0, by simp, hf s hs, fun _ => by simp [kr], .inl rfl⟩

/-- The pairs of a list of lengths. -/
def prs (f len : Nat → Nat) (us6 : List Nat) : List (Nat × Nat) := us6.map fun s => (f s, len s)

theorem prs_fst (f len : Nat → Nat) (us6 : List Nat) : (prs f len us6).map (·.1) = us6.map f := by simp [prs, Function.comp_def]
theorem prs_prc (f len : Nat → Nat) (us6 : List Nat) : prc (prs f len us6) = fl f len us6 := by simp [prs, prc, fl, Function.comp_def]
theorem prs_krf (N : Nat) (f len : Nat → Nat) (us6 : List Nat) : krf N (prs f len us6) = (us6.map fun s => 2 ^ (N - len s)).sum := by simp [prs, krf, Function.comp_def]

/-- HUFFMAN'S LENGTHS: complete, no word above 59 bits, none cheaper. -/
theorem depths_good {f len : Nat → Nat} {us6 : List Nat} (hn : us6.Nodup) (hf : ∀ s ∈ us6, 1 ≤ f s) (hT : (us6.map f).sum < fb 61) (h : Done (leafs f us6) (fun _ => 0) len) :
    kr len us6 = 2 ^ 60 ∧ (∀ s ∈ us6, len s ≤ 59) ∧ (∀ s, s ∉ us6 → len s = 0) ∧ ∀ N o, (∀ s ∈ us6, o s ≤ N) → (us6.map fun s => 2 ^ (N - o s)).sum ≤ 2 ^ N → fl f len us6 ≤ fl f o us6 := by
  obtain ⟨h1, h2, h3, c, h4, h5⟩ := done_all h (leafs_forest hn hf) (by rw [fst_leafs]; exact hT)
  rw [syms_leafs] at h1 h2 h3 h5
  refine ⟨h1, h2, h3, fun N o ho hk => ?_⟩
  have e0 : fl f (fun _ => 0) us6 = 0 := by unfold fl; clear h1 h2 h3 h4 h5 hn hf hT h ho hk; induction us6 with
    | nil => rfl
    | cons a l ih => simp only [List.map_cons, List.sum_cons, Nat.mul_zero, Nat.zero_add] at ih ⊢; exact ih
  have := huffman h4 N (prs f o us6) (by rw [prs_fst, fst_leafs]) (by
    intro x hx
    obtain ⟨s, hs, rfl⟩ := List.mem_map.1 hx
    exact ho s hs) (by rw [prs_krf]; exact hk)
  rw [prs_prc] at this
  omega

theorem pick2 {us6 : List Nat} {s t : Nat} (hn : us6.Nodup) (hs : s ∈ us6) (ht : t ∈ us6) (hst : s ≠ t) : ∃ r, us6.Perm (s :: t :: r) ∧ ∀ x ∈ r, x ≠ s ∧ x ≠ t := by
  obtain ⟨a, b, rfl⟩ := List.append_of_mem hs
  have p1 : (a ++ s :: b).Perm (s :: (a ++ b)) := List.perm_middle
  have ht' : t ∈ a ++ b := by
    rcases List.mem_cons.1 (p1.subset ht) with e | h
    · exact absurd e.symm hst
    · exact h
  obtain ⟨c, d, hcd⟩ := List.append_of_mem ht'
  have p2 : (a ++ s :: b).Perm (s :: t :: (c ++ d)) := p1.trans ((List.perm_cons s).2 (by rw [hcd]; exact List.perm_middle))
  refine ⟨c ++ d, p2, fun x hx => ?_⟩
  have hn2 := p2.nodup_iff.1 hn
  obtain ⟨n1, n2⟩ := List.nodup_cons.1 hn2
  obtain ⟨n3, _⟩ := List.nodup_cons.1 n2
  exact ⟨fun e => n1 (by rw [← e]; exact List.mem_cons_of_mem _ hx), fun e => n3 (by rw [← e]; exact hx)⟩

/-- What is cheapest gives what stands more often no longer word. -/
theorem best_order {f len : Nat → Nat} {us6 : List Nat} (N : Nat) (hn : us6.Nodup) (hl : ∀ s ∈ us6, len s ≤ N) (hk : (us6.map fun s => 2 ^ (N - len s)).sum ≤ 2 ^ N)
    (hb : ∀ o, (∀ s ∈ us6, o s ≤ N) → (us6.map fun s => 2 ^ (N - o s)).sum ≤ 2 ^ N → fl f len us6 ≤ fl f o us6) {s t : Nat} (hs : s ∈ us6) (ht : t ∈ us6) (hst : f t < f s) : len s ≤ len t := by
  apply Classical.byContradiction
  intro c
  have hne : s ≠ t := fun e => by subst e; omega
  obtain ⟨r, hp, hr⟩ := pick2 hn hs ht hne
  obtain ⟨o, ho⟩ : ∃ o : Nat → Nat, o = fun x => if x = s then len t else if x = t then len s else len x := ⟨_, rfl⟩
  have os : o s = len t := by rw [ho]; simp
  have ot : o t = len s := by rw [ho]; exact (if_neg fun e => hne e.symm).trans (if_pos rfl)
  have ox : ∀ x ∈ r, o x = len x := fun x hx => by rw [ho]; simp [(hr x hx).1, (hr x hx).2]
  have hle : ∀ x ∈ us6, o x ≤ N := fun x hx => by
    rcases List.mem_cons.1 (hp.subset hx) with rfl | hx
    · rw [os]; exact hl t ht
    · rcases List.mem_cons.1 hx with rfl | hx
      · rw [ot]; exact hl s hs
      · rw [ox x hx]; exact hl x (hp.symm.subset (by simp [hx]))
  have e1 : (us6.map fun x => 2 ^ (N - o x)).sum = (us6.map fun x => 2 ^ (N - len x)).sum := by
    rw [perm_sum _ hp, perm_sum _ hp]
    simp only [List.map_cons, List.sum_cons, os, ot]
    rw [map_sum_congr (f := fun x => 2 ^ (N - o x)) (g := fun x => 2 ^ (N - len x)) fun x hx => by rw [ox x hx]]
    omega
  have h1 := hb o hle (by rw [e1]; exact hk)
  have e2 : fl f o us6 = f s * len t + (f t * len s + fl f len r) := by
    unfold fl
    rw [perm_sum _ hp]
    simp only [List.map_cons, List.sum_cons, os, ot]
    rw [map_sum_congr (f := fun x => f x * o x) (g := fun x => f x * len x) fun x hx => by rw [ox x hx]]
  have e3 : fl f len us6 = f s * len s + (f t * len t + fl f len r) := by
    unfold fl
    rw [perm_sum _ hp]
    rfl
  rw [e2, e3] at h1
  obtain ⟨a, ha⟩ : ∃ a, f s = f t + (a + 1) := ⟨f s - f t - 1, by omega⟩
  obtain ⟨b, hb'⟩ : ∃ b, len s = len t + (b + 1) := ⟨len s - len t - 1, by omega⟩
  rw [ha, hb'] at h1
  simp only [Nat.add_mul, Nat.mul_add] at h1
  omega

/-- A list's sum over its places. -/
theorem sum_range {α : Type} (l : List α) (d : α) (g : α → Nat) : (l.map g).sum = sm l.length (fun i => g (l.getD i d)) := by
  have key : ∀ n, n ≤ l.length → ((l.take n).map g).sum = sm n (fun i => g (l.getD i d)) := fun n hn => by
    induction n with
    | zero => simp [sm]
    | succ n ih =>
      rw [List.take_succ_eq_append_getElem (by omega), List.map_append, List.sum_append, ih (by omega), sm_succ, List.getD_eq_getElem?_getD, List.getElem?_eq_getElem (show n < l.length by omega)]
      simp
  have := key l.length (Nat.le_refl _)
  rwa [List.take_length] at this

/-- PACKAGE-MERGE'S LENGTHS: complete, none above the limit, none cheaper within it; us6: by rising frequency. -/
theorem limited_good {f len : Nat → Nat} {us6 : List Nat} (L : Nat) (hL : 1 ≤ L) (hu : 1 ≤ us6.length) (hw : Rise (us6.map f)) (hfit : us6.length ≤ 2 ^ L)
    (hlen : ∀ i, i < us6.length → len (us6.getD i 0) = ct (sel (us6.map f) L (2 * (us6.length - 1))) i) :
    (us6.map fun s => 2 ^ (L - len s)).sum = 2 ^ L ∧ (∀ s ∈ us6, len s ≤ L) ∧ ∀ o, (∀ s ∈ us6, o s ≤ L) → (us6.map fun s => 2 ^ (L - o s)).sum ≤ 2 ^ L → fl f len us6 ≤ fl f o us6 := by
  obtain ⟨k, rfl⟩ : ∃ k, L = k + 1 := ⟨L - 1, by omega⟩
  have hwl : (us6.map f).length = us6.length := List.length_map ..
  have hroom : 2 * (us6.length - 1) ≤ (row (us6.map f) (k + 1)).length := by
    have := row_room (us6.map f) k 2 (by rw [hwl, Nat.mul_comm, ← Nat.pow_succ]; exact hfit)
    rw [hwl] at this
    omega
  obtain ⟨s1, s2, s3⟩ := sel_facts (k + 1) _ hroom
  have s4 := sel_falls hw (k + 1) _ hroom
  have s5 := sel_len (us6.map f) (k + 1) (2 * (us6.length - 1))
  obtain ⟨cs, hcs⟩ : ∃ cs, cs = sel (us6.map f) (k + 1) (2 * (us6.length - 1)) := ⟨_, rfl⟩
  rw [← hcs] at s1 s2 s3 s4 s5 hlen
  rw [hwl] at s1
  have k1 := kr_sel cs s4 us6.length s1
  rw [s5] at k1
  have e1 : (us6.map fun s => 2 ^ (k + 1 - len s)).sum = sm us6.length (fun i => 2 ^ (k + 1 - ct cs i)) := by
    rw [sum_range us6 0]
    exact sm_congr fun i hi => by rw [hlen i hi]
  have hdist : 2 * (us6.length - 1) * 2 ^ (k + 1) + 2 * 2 ^ (k + 1) = 2 * (us6.length * 2 ^ (k + 1)) := by
    obtain ⟨n, hn⟩ : ∃ n, us6.length = n + 1 := ⟨us6.length - 1, by omega⟩
    rw [hn, Nat.add_sub_cancel, Nat.add_mul, Nat.mul_assoc]
    omega
  refine ⟨by rw [e1]; omega, ?_, fun o ho hk => ?_⟩
  · intro s hs
    obtain ⟨i, hi, rfl⟩ := List.getElem_of_mem hs
    have := hlen i hi
    rw [List.getD_eq_getElem?_getD, List.getElem?_eq_getElem hi, Option.getD_some] at this
    rw [this, ← s5]
    exact ct_le cs i
  · have c1 := coins (k + 1) (prs f o us6) (by rw [prs_fst]; exact hw) (by
      intro x hx
      obtain ⟨s, hs, rfl⟩ := List.mem_map.1 hx
      exact ho s hs) (by rw [← krf, prs_krf]; exact hk)
    rw [prs_fst, show (prs f o us6).length = us6.length by simp [prs], s3] at c1
    have e2 : fl f len us6 = lvc (us6.map f) cs := by
      rw [← prc_sel _ _ (by rw [hwl]; exact s1), hwl]
      unfold fl
      rw [sum_range us6 0]
      exact sm_congr fun i hi => by
        rw [hlen i hi]
        congr 1
        simp [List.getD, hi]
    have e3 : ((prs f o us6).map fun x => x.1 * x.2).sum = fl f o us6 := prs_prc f o us6
    omega
end Go.Proofs.YtegoienjikjhkaaDoor

namespace Go.Proofs.YtegoienjikjhkaaDoor

/-! Depths as a function of rows: the lightest is looked for one by one; the row keeps the order of the numbers. -/

def nod0 : Nod := (0, [])

/-- The place of the lightest among the first k + 1; of equal ones the first. -/
def lgk (row : List Nod) : Nat → Nat
  | 0 => 0
  | k + 1 => if (row.getD (k + 1) nod0).1 < (row.getD (lgk row k) nod0).1 then k + 1 else lgk row k

theorem lgk_le (row : List Nod) (k : Nat) : lgk row k ≤ k := by
  induction k with
  | zero => exact Nat.le_refl _
  | succ k ih => simp only [lgk]; split <;> omega

theorem lgk_least (row : List Nod) (k i : Nat) (h : i ≤ k) : (row.getD (lgk row k) nod0).1 ≤ (row.getD i nod0).1 := by
  induction k with
  | zero => obtain rfl : i = 0 := by omega
            exact Nat.le_refl _
  | succ k ih =>
    simp only [lgk]
    by_cases c : (row.getD (k + 1) nod0).1 < (row.getD (lgk row k) nod0).1
    · rw [if_pos c]
      by_cases e : i = k + 1
      · rw [e]; exact Nat.le_refl _
      · have := ih (by omega); omega
    · rw [if_neg c]
      by_cases e : i = k + 1
      · rw [e]; omega
      · exact ih (by omega)

def lgt (row : List Nod) : Nat := lgk row (row.length - 1)

theorem lgt_lt {row : List Nod} (h : 0 < row.length) : lgt row < row.length := by have := lgk_le row (row.length - 1); unfold lgt; omega

theorem lgt_least {row : List Nod} {n : Nod} (h : n ∈ row) : (row.getD (lgt row) nod0).1 ≤ n.1 := by
  obtain ⟨i, hi, rfl⟩ := List.getElem_of_mem h
  have := lgk_least row (row.length - 1) i (by omega)
  have e : row.getD i nod0 = row[i] := by rw [List.getD_eq_getElem?_getD, List.getElem?_eq_getElem hi]; rfl
  rw [e] at this
  exact this

theorem erase_perm {row : List Nod} {i : Nat} (h : i < row.length) : row.Perm (row.getD i nod0 :: row.eraseIdx i) := by
  have e : row.getD i nod0 = row[i] := by rw [List.getD_eq_getElem?_getD, List.getElem?_eq_getElem h]; rfl
  rw [e, List.eraseIdx_eq_take_drop_succ]
  have : row = row.take i ++ row[i] :: row.drop (i + 1) := by
    rw [← List.drop_eq_getElem_cons h, List.take_append_drop]
  conv => lhs; rw [this]
  exact List.perm_middle

def fir (row : List Nod) : Nod := row.getD (lgt row) nod0
def wo (row : List Nod) : List Nod := row.eraseIdx (lgt row)
def hjn (row : List Nod) : Nod := ((fir row).1 + (fir (wo row)).1, (fir row).2 ++ (fir (wo row)).2)
def hst (row : List Nod) : List Nod := wo (wo row) ++ [hjn row]

theorem wo_len {row : List Nod} (h : 0 < row.length) : (wo row).length = row.length - 1 := by
  unfold wo
  rw [List.length_eraseIdx, if_pos (lgt_lt h)]

theorem hst_len {row : List Nod} (h : 2 ≤ row.length) : (hst row).length = row.length - 1 := by
  unfold hst
  rw [List.length_append, wo_len (by rw [wo_len (by omega)]; omega), wo_len (by omega)]
  simp
  omega

/-- Joined so many times. -/
def hrun : Nat → List Nod → (Nat → Nat) → (Nat → Nat)
  | 0, _, len => len
  | n + 1, row, len => hrun n (hst row) (bmp len (hjn row).2)

theorem hrun_done (n : Nat) (row : List Nod) (len : Nat → Nat) (h : row.length = n + 1) : Done row len (hrun n row len) := by
  induction n generalizing row len with
  | zero =>
    obtain ⟨x, rfl⟩ := List.length_eq_one_iff.1 h
    exact .one x len
  | succ n ih =>
    have h1 : 0 < row.length := by omega
    have h2 : 0 < (wo row).length := by rw [wo_len h1]; omega
    have p1 : row.Perm (fir row :: wo row) := erase_perm (lgt_lt h1)
    have p2 : (wo row).Perm (fir (wo row) :: wo (wo row)) := erase_perm (lgt_lt h2)
    have p3 : row.Perm (fir row :: fir (wo row) :: wo (wo row)) := p1.trans ((List.perm_cons _).2 p2)
    refine .join (fir row) (fir (wo row)) (wo (wo row)) (hjn row).2 p3 ?_ ?_ (List.Perm.refl _) ?_ (ih (hst row) _ (by rw [hst_len (by omega)]; omega))
    · exact lgt_least (p3.symm.subset (by simp))
    · intro r hr
      exact lgt_least (p2.symm.subset (by simp [hr]))
    · unfold hst
      exact List.perm_append_comm.trans (by rw [List.singleton_append]; exact List.Perm.refl _)

theorem erase_map {α β : Type} (f : α → β) (l : List α) (i : Nat) : (l.map f).eraseIdx i = (l.eraseIdx i).map f := by
  rw [List.eraseIdx_eq_take_drop_succ, List.eraseIdx_eq_take_drop_succ, List.map_append, List.map_take, List.map_drop]

/-! Frequencies by a factor. -/

def sc (b : Nat) (row : List Nod) : List Nod := row.map fun n => (b * n.1, n.2)

theorem sc_get (b : Nat) (row : List Nod) (i : Nat) : (sc b row).getD i nod0 = (b * (row.getD i nod0).1, (row.getD i nod0).2) := by
  unfold sc
  rw [List.getD_eq_getElem?_getD, List.getD_eq_getElem?_getD, List.getElem?_map]
  cases row[i]? with
  | none => simp [nod0]
  | some n => rfl

theorem sc_lgk {b : Nat} (hb : 0 < b) (row : List Nod) (k : Nat) : lgk (sc b row) k = lgk row k := by
  induction k with
  | zero => rfl
  | succ k ih => simp only [lgk, ih, sc_get, Nat.mul_lt_mul_left hb]

theorem sc_lgt {b : Nat} (hb : 0 < b) (row : List Nod) : lgt (sc b row) = lgt row := by
  unfold lgt
  rw [sc_lgk hb]
  simp [sc]

theorem sc_wo {b : Nat} (hb : 0 < b) (row : List Nod) : wo (sc b row) = sc b (wo row) := by
  unfold wo
  rw [sc_lgt hb]
  exact erase_map _ _ _

theorem sc_fir {b : Nat} (hb : 0 < b) (row : List Nod) : fir (sc b row) = (b * (fir row).1, (fir row).2) := by
  unfold fir
  rw [sc_lgt hb, sc_get]

theorem sc_hst {b : Nat} (hb : 0 < b) (row : List Nod) : hst (sc b row) = sc b (hst row) ∧ (hjn (sc b row)).2 = (hjn row).2 := by
  have e : hjn (sc b row) = (b * (hjn row).1, (hjn row).2) := by
    unfold hjn
    rw [sc_wo hb, sc_fir hb, sc_fir hb, Nat.mul_add]
  refine ⟨?_, by rw [e]⟩
  unfold hst
  rw [sc_wo hb, sc_wo hb, e]
  simp [sc]

theorem hrun_sc {b : Nat} (hb : 0 < b) (n : Nat) (row : List Nod) (len : Nat → Nat) : hrun n (sc b row) len = hrun n row len := by
  induction n generalizing row len with
  | zero => rfl
  | succ n ih =>
    simp only [hrun]
    rw [(sc_hst hb row).1, (sc_hst hb row).2, ih]

/-! Other names for the symbols. -/

def rn (g : Nat → Nat) (row : List Nod) : List Nod := row.map fun n => (n.1, n.2.map g)

theorem rn_get (g : Nat → Nat) (row : List Nod) (i : Nat) : (rn g row).getD i nod0 = ((row.getD i nod0).1, (row.getD i nod0).2.map g) := by
  unfold rn
  rw [List.getD_eq_getElem?_getD, List.getD_eq_getElem?_getD, List.getElem?_map]
  cases row[i]? with
  | none => simp [nod0]
  | some n => rfl

theorem rn_lgt (g : Nat → Nat) (row : List Nod) : lgt (rn g row) = lgt row := by
  have : ∀ k, lgk (rn g row) k = lgk row k := fun k => by
    induction k with
    | zero => rfl
    | succ k ih => simp only [lgk, ih, rn_get]
  unfold lgt
  rw [this]
  simp [rn]

theorem rn_wo (g : Nat → Nat) (row : List Nod) : wo (rn g row) = rn g (wo row) := by
  unfold wo
  rw [rn_lgt]
  exact erase_map _ _ _

theorem rn_fir (g : Nat → Nat) (row : List Nod) : fir (rn g row) = ((fir row).1, (fir row).2.map g) := by
  unfold fir
  rw [rn_lgt, rn_get]

theorem rn_hst (g : Nat → Nat) (row : List Nod) : hst (rn g row) = rn g (hst row) ∧ (hjn (rn g row)).2 = (hjn row).2.map g := by
  have e : hjn (rn g row) = ((hjn row).1, (hjn row).2.map g) := by
    unfold hjn
    rw [rn_wo, rn_fir, rn_fir, List.map_append]
  refine ⟨?_, by rw [e]⟩
  unfold hst
  rw [rn_wo, rn_wo, e]
  simp [rn]

theorem hrun_rn {g : Nat → Nat} (hg : ∀ a b, g a = g b → a = b) (n : Nat) (row : List Nod) (len len2 : Nat → Nat) (h : ∀ s, len2 (g s) = len s) : ∀ s, hrun n (rn g row) len2 (g s) = hrun n row len s := by
  induction n generalizing row len len2 with
  | zero => exact h
  | succ n ih =>
    simp only [hrun]
    rw [(rn_hst g row).1, (rn_hst g row).2]
    refine ih _ _ _ fun s => ?_
    unfold bmp
    by_cases c : s ∈ (hjn row).2
    · rw [if_pos c, if_pos (List.mem_map_of_mem c), h]
    · rw [if_neg c, if_neg (fun hm => c (by obtain ⟨t, ht, e⟩ := List.mem_map.1 hm; rw [← hg _ _ e]; exact ht)), h]

/-! Package-merge by a factor. -/

theorem mrg_sc {b : Nat} (hb : 0 < b) (w p : List Nat) : mrg (w.map (b * ·)) (p.map (b * ·)) = (mrg w p).map (b * ·) := by
  induction w, p using mrg.induct with
  | case1 p => simp [mrg]
  | case2 a w => simp [mrg]
  | case3 a w c p h ih =>
    have h' : b * a ≤ b * c := Nat.mul_le_mul_left _ h
    simp only [List.map_cons] at ih
    simp only [List.map_cons, mrg, if_pos h, if_pos h', ih]
  | case4 a w c p h ih =>
    have h' : ¬ b * a ≤ b * c := fun hh => h (Nat.le_of_mul_le_mul_left hh hb)
    simp only [List.map_cons] at ih
    simp only [List.map_cons, mrg, if_neg h, if_neg h', ih]

theorem cnt_sc {b : Nat} (hb : 0 < b) (w p : List Nat) (m : Nat) : cnt (w.map (b * ·)) (p.map (b * ·)) m = cnt w p m := by
  induction w, p using mrg.induct generalizing m with
  | case1 p => cases m <;> simp [cnt]
  | case2 a w =>
    have : ∀ (w : List Nat) (m : Nat), cnt (w.map (b * ·)) [] m = cnt w [] m := fun w => by
      induction w with
      | nil => intro m; rfl
      | cons a w ih => intro m; cases m with
        | zero => simp [cnt]
        | succ m => simp only [List.map_cons, cnt, ih]
    exact this (a :: w) m
  | case3 a w c p h ih =>
    have h' : b * a ≤ b * c := Nat.mul_le_mul_left _ h
    cases m with
    | zero => simp [cnt]
    | succ m =>
      have := ih m
      simp only [List.map_cons] at this
      simp only [List.map_cons, cnt, if_pos h, if_pos h', this]
  | case4 a w c p h ih =>
    have h' : ¬ b * a ≤ b * c := fun hh => h (Nat.le_of_mul_le_mul_left hh hb)
    cases m with
    | zero => simp [cnt]
    | succ m =>
      have := ih m
      simp only [List.map_cons] at this
      simp only [List.map_cons, cnt, if_neg h, if_neg h', this]

theorem pks_sc (b : Nat) (l : List Nat) : pks (l.map (b * ·)) = (pks l).map (b * ·) := by
  induction l using pks.induct with
  | case1 a c r ih => simp only [List.map_cons, pks, ih, Nat.mul_add]
  | case2 l hl =>
    match l, hl with
    | [], _ => rfl
    | [a], _ => rfl
    | a :: c :: r, hl => exact absurd rfl (hl a c r)

theorem row_sc {b : Nat} (hb : 0 < b) (w : List Nat) (k : Nat) : row (w.map (b * ·)) k = (row w k).map (b * ·) := by
  induction k with
  | zero => rfl
  | succ k ih => simp only [row, ih, pks_sc, mrg_sc hb]

theorem sel_sc {b : Nat} (hb : 0 < b) (w : List Nat) (k m : Nat) : sel (w.map (b * ·)) k m = sel w k m := by
  induction k generalizing m with
  | zero => rfl
  | succ k ih => simp only [sel, row_sc hb, pks_sc, cnt_sc hb, ih]
end Go.Proofs.YtegoienjikjhkaaDoor

