import Derived.Test.YtkmefeihkmbngaaDoorG03Lsk
namespace Go.Proofs.YtkmefeihkmbngaaDoor
set_option maxRecDepth 20000
set_option linter.unusedVariables false

def okp (x : Int) : Bool := decide (1 ≤ x ∧ x ≤ 65536)
def okP (l : List Int) (n : Nat) : Bool := decide (l.length = n) && l.all okp

theorem okp_of {x : Int} (h : okp x = true) : 1 ≤ x ∧ x ≤ 65536 := by unfold okp at h; exact of_decide_eq_true h

theorem okP_parts {l : List Int} {n : Nat} (h : okP l n = true) : l.length = n ∧ l.all okp = true := by
  unfold okP at h
  simp only [Bool.and_eq_true, decide_eq_true_eq] at h
  exact h

theorem okP_at {l : List Int} {n i : Nat} (h : okP l n = true) (hi : i < n) : 1 ≤ l.getD i 0 ∧ l.getD i 0 ≤ 65536 := by
  obtain ⟨h1, h2⟩ := okP_parts h
  have hl : i < l.length := by omega
  rw [List.getD_eq_getElem?_getD, List.getElem?_eq_getElem hl]
  exact okp_of (List.all_eq_true.1 h2 _ (List.getElem_mem hl))

theorem all_take_snoc {l : List Int} {k : Nat} (h : k < l.length) : (l.take (k + 1)).all okp = ((l.take k).all okp && okp (l.getD k 0)) := by
  rw [List.take_succ_eq_append_getElem h, List.all_append]
  simp [h]

theorem all_bad {l : List Int} {k : Nat} (h : k < l.length) (hb : okp (l.getD k 0) = false) : l.all okp = false := by
  rw [Bool.eq_false_iff]
  intro ha
  have := List.all_eq_true.1 ha (l.getD k 0) (by rw [List.getD_eq_getElem?_getD, List.getElem?_eq_getElem h]; exact List.getElem_mem h)
  rw [hb] at this
  cases this

def dot : List Int → List Int → Int
  | x :: F, y :: L => x * y + dot F L
  | _, _ => 0

theorem dot_nil (L : List Int) : dot [] L = 0 := by cases L <;> rfl

theorem dot_inc : ∀ (F L : List Int) (i : Nat), i < F.length → F.length = L.length → dot (inc F i) L = dot F L + L.getD i 0
  | x :: F, y :: L, 0, _, _ => by
    show (x + 1) * y + dot F L = x * y + dot F L + y
    rw [Int.add_mul]; omega
  | x :: F, y :: L, i + 1, h, hl => by
    have := dot_inc F L i (by simpa using h) (by simpa using hl)
    have e : inc (x :: F) (i + 1) = x :: inc F i := by simp [inc]
    rw [e]
    show x * y + dot (inc F i) L = x * y + dot F L + (y :: L).getD (i + 1) 0
    rw [this]
    have : (y :: L).getD (i + 1) 0 = L.getD i 0 := by simp
    rw [this]; omega
  | [], _, i, h, _ => by simp at h
  | x :: F, [], i, _, h => by simp at h

theorem dot_zeros (n : Nat) : ∀ L : List Int, dot (List.replicate n 0) L = 0 := by
  induction n with
  | zero => intro L; exact dot_nil L
  | succ n ih =>
    intro L
    cases L with
    | nil => rfl
    | cons y L => show 0 * y + dot (List.replicate n 0) L = 0; rw [ih]; omega

theorem dot_snoc : ∀ (F L : List Int) (x y : Int), F.length = L.length → dot (F ++ [x]) (L ++ [y]) = dot F L + x * y
  | [], [], x, y, _ => by show x * y + 0 = 0 + x * y; omega
  | a :: F, b :: L, x, y, h => by
    show a * b + dot (F ++ [x]) (L ++ [y]) = a * b + dot F L + x * y
    rw [dot_snoc F L x y (by simpa using h)]; omega
  | [], _ :: _, _, _, h => by simp at h
  | _ :: _, [], _, _, h => by simp at h

theorem dot_take {F L : List Int} {k : Nat} (h : k < F.length) (hl : F.length = L.length) : dot (F.take (k + 1)) (L.take (k + 1)) = dot (F.take k) (L.take k) + F.getD k 0 * L.getD k 0 := by
  rw [List.take_succ_eq_append_getElem h, List.take_succ_eq_append_getElem (show k < L.length by omega), dot_snoc _ _ _ _ (by simp; omega)]
  simp [h, show k < L.length by omega]

theorem mul_bd {x y : Int} {m : Nat} (h : 0 ≤ x ∧ x ≤ (m : Int)) (g : 1 ≤ y ∧ y ≤ 65536) : 0 ≤ x * y ∧ x * y ≤ (m : Int) * 65536 :=
  ⟨Int.mul_nonneg h.1 (by omega), Int.mul_le_mul h.2 g.2 (by omega) (by omega)⟩

theorem dot_bd {F L : List Int} {m n : Nat} (hF : Bd F m) (hL : okP L n = true) (hl : F.length = n) : ∀ k, k ≤ n → 0 ≤ dot (F.take k) (L.take k) ∧ dot (F.take k) (L.take k) ≤ (k : Int) * ((m : Int) * 65536) := by
  intro k
  induction k with
  | zero => intro _; simp [dot_nil]
  | succ k ih =>
    intro hk
    have := ih (by omega)
    have h1 := mul_bd (hF k) (okP_at hL (i := k) (by omega))
    rw [dot_take (by omega) (by rw [hl, (okP_parts hL).1])]
    have e : ((k + 1 : Nat) : Int) * ((m : Int) * 65536) = (k : Int) * ((m : Int) * 65536) + (m : Int) * 65536 := by
      rw [Int.natCast_add, Int.add_mul]; simp
    omega

theorem dot_all {F L : List Int} {n : Nat} (h1 : F.length = n) (h2 : L.length = n) : dot (F.take n) (L.take n) = dot F L := by
  rw [List.take_of_length_le (by omega), List.take_of_length_le (by omega)]

noncomputable def prE (R : List Tk) (L D : List Int) : Int := if 16777216 < R.length then 1 else if okP L 286 = true ∧ okP D 30 = true then (if asnd R then 0 else 211) else 210
noncomputable def prN (R : List Tk) (L D : List Int) : Int := dot (cls (List.replicate 286 0) R) L + dot (cdt (List.replicate 30 0) R) D
noncomputable def prV (R : List Tk) (L D : List Int) : Int := if prE R L D = 0 then prN R L D else 0

theorem cls_256 (R : List Tk) : ∀ l : List Int, (∀ t ∈ R, Snd t ∧ Bt t) → (cls l R).getD 256 0 = l.getD 256 0 := by
  induction R with
  | nil => intro l _; rfl
  | cons t R ih =>
    intro l h
    have ht := h t (by simp)
    show (cls (cl l t) R).getD 256 0 = _
    rw [ih _ fun u hu => h u (by simp [hu])]
    show (inc l (litS t)).getD 256 0 = _
    simp only [inc, List.getD_eq_getElem?_getD]
    rw [List.getElem?_set_ne (litS_in ht.1 ht.2).2]

theorem set_same {l : List Int} {i : Nat} {x : Int} (h : l.getD i 0 = x) (hi : i < l.length) : l.set i x = l := by
  subst h
  rw [List.getD_eq_getElem?_getD, List.getElem?_eq_getElem hi]
  exact List.set_getElem_self hi

theorem ctl_no_end {R : List Tk} (h : ∀ t ∈ R, Snd t ∧ Bt t) : ((cls (List.replicate 286 0) R).set 256 1).set 256 0 = cls (List.replicate 286 0) R := by
  rw [List.set_set]
  refine set_same ?_ (by rw [cls_len]; simp)
  rw [cls_256 R _ h]
  simp

theorem prn_take {R : List Tk} {L D : List Int} {k : Nat} (hk : k < R.length) (hs : Snd (R.getD k tk0) ∧ Bt (R.getD k tk0)) (hL : L.length = 286) (hD : D.length = 30) :
    prN (R.take (k + 1)) L D = prN (R.take k) L D + (L.getD (litS (R.getD k tk0)) 0 + if (R.getD k tk0).1 = 0 then 0 else D.getD (dsy (R.getD k tk0).2.1.toNat) 0) := by
  unfold prN
  rw [snd_take hk, cls_snoc, cdt_snoc]
  obtain ⟨t, ht⟩ : ∃ t, R.getD k tk0 = t := ⟨_, rfl⟩
  rw [ht] at hs ⊢
  have e1 : dot (cl (cls (List.replicate 286 0) (R.take k)) t) L = dot (cls (List.replicate 286 0) (R.take k)) L + L.getD (litS t) 0 :=
    dot_inc _ _ _ (by rw [cls_len]; simpa using (litS_in hs.1 hs.2).1) (by rw [cls_len, hL]; simp)
  rw [e1]
  by_cases h0 : t.1 = 0
  · have e2 : cd (cdt (List.replicate 30 0) (R.take k)) t = cdt (List.replicate 30 0) (R.take k) := by unfold cd; rw [if_pos h0]
    rw [e2, if_pos h0]; omega
  · have e2 : cd (cdt (List.replicate 30 0) (R.take k)) t = inc (cdt (List.replicate 30 0) (R.take k)) (dsy t.2.1.toNat) := by unfold cd; rw [if_neg h0]
    rw [e2, if_neg h0, dot_inc _ _ _ (by rw [cdt_len]; simpa using dsy_in hs.1 h0) (by rw [cdt_len, hD]; simp)]
    omega

theorem prn_nil (L D : List Int) : prN [] L D = 0 := by
  unfold prN
  show dot (List.replicate 286 0) L + dot (List.replicate 30 0) D = 0
  rw [dot_zeros, dot_zeros]; omega

theorem prn_bd {R : List Tk} {L D : List Int} (hL : okP L 286 = true) (hD : okP D 30 = true) (hn : R.length ≤ 16777216) : 0 ≤ prN R L D ∧ prN R L D ≤ 400000000000000 := by
  have h1 := dot_bd (bd_cls R _ 0 (bd_zeros 286)) hL (by rw [cls_len]; simp) 286 (Nat.le_refl _)
  have h2 := dot_bd (bd_cdt R _ 0 (bd_zeros 30)) hD (by rw [cdt_len]; simp) 30 (Nat.le_refl _)
  rw [dot_all (by rw [cls_len]; simp) (okP_parts hL).1] at h1
  rw [dot_all (by rw [cdt_len]; simp) (okP_parts hD).1] at h2
  unfold prN
  simp only [Nat.zero_add] at h1 h2
  omega
end Go.Proofs.YtkmefeihkmbngaaDoor

