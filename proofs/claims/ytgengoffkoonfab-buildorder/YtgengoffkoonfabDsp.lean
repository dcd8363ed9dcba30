import Derived.Test.YtgengoffkoonfabBst
namespace Go.Proofs.Ytgengoffkoonfab

/-! Depths as a function of rows: the lightest is looked for one by one; the row keeps the order of the numbers. -/

def nod0 : Nod := (0, [])

/-- The place of the lightest among the first k + 1; of equal ones the first. -/
def lgk (row : List Nod) : Nat → Nat
  | 0 => 0
  | k + 1 => if (row.getD (k + 1) nod0).1 < (row.getD (lgk row k) nod0).1 then k + 1 else lgk row k

theorem lgk_le (row : List Nod) (k : Nat) : lgk row k ≤ k := by
  induction k with
  | zero => exact Nat.le_refl _
  | succ k ih => simp only [lgk]; split <;> omega

theorem lgk_least (row : List Nod) (k i : Nat) (h : i ≤ k) : (row.getD (lgk row k) nod0).1 ≤ (row.getD i nod0).1 := by
  induction k with
  | zero => obtain rfl : i = 0 := by omega
            exact Nat.le_refl _
  | succ k ih =>
    simp only [lgk]
    by_cases c : (row.getD (k + 1) nod0).1 < (row.getD (lgk row k) nod0).1
    · rw [if_pos c]
      by_cases e : i = k + 1
      · rw [e]; exact Nat.le_refl _
      · have := ih (by omega); omega
    · rw [if_neg c]
      by_cases e : i = k + 1
      · rw [e]; omega
      · exact ih (by omega)

def lgt (row : List Nod) : Nat := lgk row (row.length - 1)

theorem lgt_lt {row : List Nod} (h : 0 < row.length) : lgt row < row.length := by have := lgk_le row (row.length - 1); unfold lgt; omega

theorem lgt_least {row : List Nod} {n : Nod} (h : n ∈ row) : (row.getD (lgt row) nod0).1 ≤ n.1 := by
  obtain ⟨i, hi, rfl⟩ := List.getElem_of_mem h
  have := lgk_least row (row.length - 1) i (by omega)
  have e : row.getD i nod0 = row[i] := by rw [List.getD_eq_getElem?_getD, List.getElem?_eq_getElem hi]; rfl
  rw [e] at this
  exact this

theorem erase_perm {row : List Nod} {i : Nat} (h : i < row.length) : row.Perm (row.getD i nod0 :: row.eraseIdx i) := by
  have e : row.getD i nod0 = row[i] := by rw [List.getD_eq_getElem?_getD, List.getElem?_eq_getElem h]; rfl
  rw [e, List.eraseIdx_eq_take_drop_succ]
  have : row = row.take i ++ row[i] :: row.drop (i + 1) := by
    rw [← List.drop_eq_getElem_cons h, List.take_append_drop]
  conv => lhs; rw [this]
  exact List.perm_middle

def fir (row : List Nod) : Nod := row.getD (lgt row) nod0
def wo (row : List Nod) : List Nod := row.eraseIdx (lgt row)
def hjn (row : List Nod) : Nod := ((fir row).1 + (fir (wo row)).1, (fir row).2 ++ (fir (wo row)).2)
def hst (row : List Nod) : List Nod := wo (wo row) ++ [hjn row]

theorem wo_len {row : List Nod} (h : 0 < row.length) : (wo row).length = row.length - 1 := by
  unfold wo
  rw [List.length_eraseIdx, if_pos (lgt_lt h)]

theorem hst_len {row : List Nod} (h : 2 ≤ row.length) : (hst row).length = row.length - 1 := by
  unfold hst
  rw [List.length_append, wo_len (by rw [wo_len (by omega)]; omega), wo_len (by omega)]
  simp
  omega

/-- Joined so many times. -/
def hrun : Nat → List Nod → (Nat → Nat) → (Nat → Nat)
  | 0, _, len => len
  | n + 1, row, len => hrun n (hst row) (bmp len (hjn row).2)

theorem hrun_done (n : Nat) (row : List Nod) (len : Nat → Nat) (h : row.length = n + 1) : Done row len (hrun n row len) := by
  induction n generalizing row len with
  | zero =>
    obtain ⟨x, rfl⟩ := List.length_eq_one_iff.1 h
    exact .one x len
  | succ n ih =>
    have h1 : 0 < row.length := by omega
    have h2 : 0 < (wo row).length := by rw [wo_len h1]; omega
    have p1 : row.Perm (fir row :: wo row) := erase_perm (lgt_lt h1)
    have p2 : (wo row).Perm (fir (wo row) :: wo (wo row)) := erase_perm (lgt_lt h2)
    have p3 : row.Perm (fir row :: fir (wo row) :: wo (wo row)) := p1.trans ((List.perm_cons _).2 p2)
    refine .join (fir row) (fir (wo row)) (wo (wo row)) (hjn row).2 p3 ?_ ?_ (List.Perm.refl _) ?_ (ih (hst row) _ (by rw [hst_len (by omega)]; omega))
    · exact lgt_least (p3.symm.subset (by simp))
    · intro r hr
      exact lgt_least (p2.symm.subset (by simp [hr]))
    · unfold hst
      exact List.perm_append_comm.trans (by rw [List.singleton_append]; exact List.Perm.refl _)

theorem erase_map {α β : Type} (f : α → β) (l : List α) (i : Nat) : (l.map f).eraseIdx i = (l.eraseIdx i).map f := by
  rw [List.eraseIdx_eq_take_drop_succ, List.eraseIdx_eq_take_drop_succ, List.map_append, List.map_take, List.map_drop]

/-! Frequencies by a factor. -/

def sc (b : Nat) (row : List Nod) : List Nod := row.map fun n => (b * n.1, n.2)

theorem sc_get (b : Nat) (row : List Nod) (i : Nat) : (sc b row).getD i nod0 = (b * (row.getD i nod0).1, (row.getD i nod0).2) := by
  unfold sc
  rw [List.getD_eq_getElem?_getD, List.getD_eq_getElem?_getD, List.getElem?_map]
  cases row[i]? with
  | none => simp [nod0]
  | some n => rfl

theorem sc_lgk {b : Nat} (hb : 0 < b) (row : List Nod) (k : Nat) : lgk (sc b row) k = lgk row k := by
  induction k with
  | zero => rfl
  | succ k ih => simp only [lgk, ih, sc_get, Nat.mul_lt_mul_left hb]

theorem sc_lgt {b : Nat} (hb : 0 < b) (row : List Nod) : lgt (sc b row) = lgt row := by
  unfold lgt
  rw [sc_lgk hb]
  simp [sc]

theorem sc_wo {b : Nat} (hb : 0 < b) (row : List Nod) : wo (sc b row) = sc b (wo row) := by
  unfold wo
  rw [sc_lgt hb]
  exact erase_map _ _ _

theorem sc_fir {b : Nat} (hb : 0 < b) (row : List Nod) : fir (sc b row) = (b * (fir row).1, (fir row).2) := by
  unfold fir
  rw [sc_lgt hb, sc_get]

theorem sc_hst {b : Nat} (hb : 0 < b) (row : List Nod) : hst (sc b row) = sc b (hst row) ∧ (hjn (sc b row)).2 = (hjn row).2 := by
  have e : hjn (sc b row) = (b * (hjn row).1, (hjn row).2) := by
    unfold hjn
    rw [sc_wo hb, sc_fir hb, sc_fir hb, Nat.mul_add]
  refine ⟨?_, by rw [e]⟩
  unfold hst
  rw [sc_wo hb, sc_wo hb, e]
  simp [sc]

theorem hrun_sc {b : Nat} (hb : 0 < b) (n : Nat) (row : List Nod) (len : Nat → Nat) : hrun n (sc b row) len = hrun n row len := by
  induction n generalizing row len with
  | zero => rfl
  | succ n ih =>
    simp only [hrun]
    rw [(sc_hst hb row).1, (sc_hst hb row).2, ih]

/-! Other names for the symbols. -/

def rn (g : Nat → Nat) (row : List Nod) : List Nod := row.map fun n => (n.1, n.2.map g)

theorem rn_get (g : Nat → Nat) (row : List Nod) (i : Nat) : (rn g row).getD i nod0 = ((row.getD i nod0).1, (row.getD i nod0).2.map g) := by
  unfold rn
  rw [List.getD_eq_getElem?_getD, List.getD_eq_getElem?_getD, List.getElem?_map]
  cases row[i]? with
  | none => simp [nod0]
  | some n => rfl

theorem rn_lgt (g : Nat → Nat) (row : List Nod) : lgt (rn g row) = lgt row := by
  have : ∀ k, lgk (rn g row) k = lgk row k := fun k => by
    induction k with
    | zero => rfl
    | succ k ih => simp only [lgk, ih, rn_get]
  unfold lgt
  rw [this]
  simp [rn]

theorem rn_wo (g : Nat → Nat) (row : List Nod) : wo (rn g row) = rn g (wo row) := by
  unfold wo
  rw [rn_lgt]
  exact erase_map _ _ _

theorem rn_fir (g : Nat → Nat) (row : List Nod) : fir (rn g row) = ((fir row).1, (fir row).2.map g) := by
  unfold fir
  rw [rn_lgt, rn_get]

theorem rn_hst (g : Nat → Nat) (row : List Nod) : hst (rn g row) = rn g (hst row) ∧ (hjn (rn g row)).2 = (hjn row).2.map g := by
  have e : hjn (rn g row) = ((hjn row).1, (hjn row).2.map g) := by
    unfold hjn
    rw [rn_wo, rn_fir, rn_fir, List.map_append]
  refine ⟨?_, by rw [e]⟩
  unfold hst
  rw [rn_wo, rn_wo, e]
  simp [rn]

theorem hrun_rn {g : Nat → Nat} (hg : ∀ a b, g a = g b → a = b) (n : Nat) (row : List Nod) (len len2 : Nat → Nat) (h : ∀ s, len2 (g s) = len s) : ∀ s, hrun n (rn g row) len2 (g s) = hrun n row len s := by
  induction n generalizing row len len2 with
  | zero => exact h
  | succ n ih =>
    simp only [hrun]
    rw [(rn_hst g row).1, (rn_hst g row).2]
    refine ih _ _ _ fun s => ?_
    unfold bmp
    by_cases c : s ∈ (hjn row).2
    · rw [if_pos c, if_pos (List.mem_map_of_mem c), h]
    · rw [if_neg c, if_neg (fun hm => c (by obtain ⟨t, ht, e⟩ := List.mem_map.1 hm; rw [← hg _ _ e]; exact ht)), h]

/-! Package-merge by a factor. -/

theorem mrg_sc {b : Nat} (hb : 0 < b) (w p : List Nat) : mrg (w.map (b * ·)) (p.map (b * ·)) = (mrg w p).map (b * ·) := by
  induction w, p using mrg.induct with
  | case1 p => simp [mrg]
  | case2 a w => simp [mrg]
  | case3 a w c p h ih =>
    have h' : b * a ≤ b * c := Nat.mul_le_mul_left _ h
    simp only [List.map_cons] at ih
    simp only [List.map_cons, mrg, if_pos h, if_pos h', ih]
  | case4 a w c p h ih =>
    have h' : ¬ b * a ≤ b * c := fun hh => h (Nat.le_of_mul_le_mul_left hh hb)
    simp only [List.map_cons] at ih
    simp only [List.map_cons, mrg, if_neg h, if_neg h', ih]

theorem cnt_sc {b : Nat} (hb : 0 < b) (w p : List Nat) (m : Nat) : cnt (w.map (b * ·)) (p.map (b * ·)) m = cnt w p m := by
  induction w, p using mrg.induct generalizing m with
  | case1 p => cases m <;> simp [cnt]
  | case2 a w =>
    have : ∀ (w : List Nat) (m : Nat), cnt (w.map (b * ·)) [] m = cnt w [] m := fun w => by
      induction w with
      | nil => intro m; rfl
      | cons a w ih => intro m; cases m with
        | zero => simp [cnt]
        | succ m => simp only [List.map_cons, cnt, ih]
    exact this (a :: w) m
  | case3 a w c p h ih =>
    have h' : b * a ≤ b * c := Nat.mul_le_mul_left _ h
    cases m with
    | zero => simp [cnt]
    | succ m =>
      have := ih m
      simp only [List.map_cons] at this
      simp only [List.map_cons, cnt, if_pos h, if_pos h', this]
  | case4 a w c p h ih =>
    have h' : ¬ b * a ≤ b * c := fun hh => h (Nat.le_of_mul_le_mul_left hh hb)
    cases m with
    | zero => simp [cnt]
    | succ m =>
      have := ih m
      simp only [List.map_cons] at this
      simp only [List.map_cons, cnt, if_neg h, if_neg h', this]

theorem pks_sc (b : Nat) (l : List Nat) : pks (l.map (b * ·)) = (pks l).map (b * ·) := by
  induction l using pks.induct with
  | case1 a c r ih => simp only [List.map_cons, pks, ih, Nat.mul_add]
  | case2 l hl =>
    match l, hl with
    | [], _ => rfl
    | [a], _ => rfl
    | a :: c :: r, hl => exact absurd rfl (hl a c r)

theorem row_sc {b : Nat} (hb : 0 < b) (w : List Nat) (k : Nat) : row (w.map (b * ·)) k = (row w k).map (b * ·) := by
  induction k with
  | zero => rfl
  | succ k ih => simp only [row, ih, pks_sc, mrg_sc hb]

theorem sel_sc {b : Nat} (hb : 0 < b) (w : List Nat) (k m : Nat) : sel (w.map (b * ·)) k m = sel w k m := by
  induction k generalizing m with
  | zero => rfl
  | succ k ih => simp only [sel, row_sc hb, pks_sc, cnt_sc hb, ih]
end Go.Proofs.Ytgengoffkoonfab
