import Derived.Test.YtdpfjfkknimlfaaDoorGBsd
import Derived.Test.YtdpfjfkknimlfaaDoorGSym
namespace Go.Proofs.YtdpfjfkknimlfaaDoor
set_option maxRecDepth 20000
set_option linter.unusedVariables false

/-- The symbols of a length and of a distance. -/
noncomputable def lsy (x : Nat) : Nat := open Classical in if h : ∃ i, Lsy x i then h.choose else 0
noncomputable def dsy (x : Nat) : Nat := open Classical in if h : ∃ i, Dsy x i then h.choose else 0

theorem lsy_spec {x : Nat} (h : 3 ≤ x) : Lsy x (lsy x) := by
  have he := lsy_is h
  unfold lsy
  rw [dif_pos he]
  exact he.choose_spec

theorem dsy_spec {x : Nat} (h : 1 ≤ x) : Dsy x (dsy x) := by
  have he := dsy_is h
  unfold dsy
  rw [dif_pos he]
  exact he.choose_spec

/-- One more at a place. -/
def inc (l : List Int) (i : Nat) : List Int := l.set i (l.getD i 0 + 1)

theorem inc_len (l : List Int) (i : Nat) : (inc l i).length = l.length := by simp [inc]

/-- The symbol of a token among literals and lengths, and among distances. -/
noncomputable def litS (t : Tk) : Nat := if t.1 = 0 then t.2.2.toNat else 257 + lsy t.1.toNat

noncomputable def cl (l : List Int) (t : Tk) : List Int := inc l (litS t)
noncomputable def cd (d : List Int) (t : Tk) : List Int := if t.1 = 0 then d else inc d (dsy t.2.1.toNat)

/-- How often each symbol stands in a row of tokens, added to what is there. -/
noncomputable def cls (l : List Int) (R : List Tk) : List Int := R.foldl cl l
noncomputable def cdt (d : List Int) (R : List Tk) : List Int := R.foldl cd d

theorem cl_len (l : List Int) (t : Tk) : (cl l t).length = l.length := inc_len _ _
theorem cd_len (d : List Int) (t : Tk) : (cd d t).length = d.length := by unfold cd; split; rfl; exact inc_len _ _

theorem cls_len (R : List Tk) : ∀ l : List Int, (cls l R).length = l.length := by
  induction R with
  | nil => intro l; rfl
  | cons t R ih => intro l; show (cls (cl l t) R).length = _; rw [ih, cl_len]

theorem cdt_len (R : List Tk) : ∀ d : List Int, (cdt d R).length = d.length := by
  induction R with
  | nil => intro l; rfl
  | cons t R ih => intro l; show (cdt (cd l t) R).length = _; rw [ih, cd_len]

theorem cls_snoc (l : List Int) (R : List Tk) (t : Tk) : cls l (R ++ [t]) = cl (cls l R) t := by simp [cls]
theorem cdt_snoc (d : List Int) (R : List Tk) (t : Tk) : cdt d (R ++ [t]) = cd (cdt d R) t := by simp [cdt]

/-- A token's literal is a byte. -/
def Bt (t : Tk) : Prop := 0 ≤ t.2.2 ∧ t.2.2 < 256

theorem litS_in {t : Tk} (h : Snd t) (hb : Bt t) : litS t < 286 ∧ litS t ≠ 256 := by
  unfold litS
  obtain ⟨b0, b1⟩ := hb
  by_cases h0 : t.1 = 0
  · rw [if_pos h0]; omega
  · rw [if_neg h0]
    unfold Snd at h
    rw [if_neg h0] at h
    have := (lsy_spec (x := t.1.toNat) (by omega)).1
    omega

theorem dsy_in {t : Tk} (h : Snd t) (h0 : ¬ t.1 = 0) : dsy t.2.1.toNat < 30 := by
  unfold Snd at h
  rw [if_neg h0] at h
  exact (dsy_spec (x := t.2.1.toNat) (by omega)).1

theorem inc_set {l : List Int} {i j : Nat} {x : Int} (h : i ≠ j) : inc (l.set j x) i = (inc l i).set j x := by
  unfold inc
  rw [List.set_comm _ _ (fun e => h e)]
  congr 2
  simp [List.getD_eq_getElem?_getD, List.getElem?_set_ne (fun e => h e.symm)]

/-- The end's symbol may be counted first or last. -/
theorem cls_end (R : List Tk) : ∀ l : List Int, (∀ t ∈ R, Snd t ∧ Bt t) → cls (l.set 256 1) R = (cls l R).set 256 1 := by
  induction R with
  | nil => intro l _; rfl
  | cons t R ih =>
    intro l h
    have ht := h t (by simp)
    show cls (cl (l.set 256 1) t) R = (cls (cl l t) R).set 256 1
    have e : cl (l.set 256 1) t = (cl l t).set 256 1 := inc_set (litS_in ht.1 ht.2).2
    rw [e]
    exact ih _ fun u hu => h u (by simp [hu])

/-- All numbers of a list lie between 0 and m. -/
def Bd (l : List Int) (m : Nat) : Prop := ∀ i, 0 ≤ l.getD i 0 ∧ l.getD i 0 ≤ (m : Int)

theorem bd_inc {l : List Int} {m : Nat} (h : Bd l m) (j : Nat) : Bd (inc l j) (m + 1) := by
  intro i
  have hi := h i
  have hj := h j
  by_cases e : i = j
  · subst e
    by_cases hl : i < l.length
    · have e1 : (inc l i).getD i 0 = l.getD i 0 + 1 := by simp [inc, List.getD_eq_getElem?_getD, hl]
      rw [e1]
      omega
    · have e1 : (inc l i).getD i 0 = 0 := by
        rw [List.getD_eq_getElem?_getD, List.getElem?_eq_none (by rw [inc_len]; omega)]
        rfl
      rw [e1]
      omega
  · have e1 : (inc l j).getD i 0 = l.getD i 0 := by
      simp only [inc, List.getD_eq_getElem?_getD]
      rw [List.getElem?_set_ne (fun q => e q.symm)]
    rw [e1]
    omega

theorem bd_more {l : List Int} {m n : Nat} (h : Bd l m) (hn : m ≤ n) : Bd l n := fun i => by have := h i; omega

theorem bd_cls (R : List Tk) : ∀ (l : List Int) (m : Nat), Bd l m → Bd (cls l R) (m + R.length) := by
  induction R with
  | nil => intro l m h; exact h
  | cons t R ih =>
    intro l m h
    have := ih (cl l t) (m + 1) (bd_inc h _)
    exact bd_more this (by simp; omega)

theorem bd_cdt (R : List Tk) : ∀ (d : List Int) (m : Nat), Bd d m → Bd (cdt d R) (m + R.length) := by
  induction R with
  | nil => intro l m h; exact h
  | cons t R ih =>
    intro d m h
    have h1 : Bd (cd d t) (m + 1) := by
      unfold cd
      split
      · exact bd_more h (by omega)
      · exact bd_inc h _
    have := ih (cd d t) (m + 1) h1
    exact bd_more this (by simp; omega)
end Go.Proofs.YtdpfjfkknimlfaaDoor

