import Derived.Test.YtjdgeonlbjokaaaGTk
import Derived.Test.YtjdgeonlbjokaaaGBsx
namespace Go.Proofs.Ytjdgeonlbjokaaa
set_option linter.unusedVariables false

/-- Is a byte put off, or has it no copy? -/
def Lit (D : List Int) (W C : Nat) (z : Bool) (i : Nat) : Prop := (bst D i W C).1 = 0 ∨ (z = true ∧ i + 1 < D.length ∧ (bst D i W C).1 < (bst D (i + 1) W C).1)
instance (D : List Int) (W C : Nat) (z : Bool) (i : Nat) : Decidable (Lit D W C z i) := by unfold Lit; infer_instance

/-- The token at a place. -/
def tok (D : List Int) (W C : Nat) (z : Bool) (i : Nat) : Tk := if Lit D W C z i then (0, 0, D.getD i 0) else ((((bst D i W C).1 : Nat) : Int), (((bst D i W C).2 : Nat) : Int), 0)

def tks (D : List Int) (W C : Nat) (z : Bool) : Nat → Nat → List Tk
  | 0, _ => []
  | n + 1, i => if i < D.length then tok D W C z i :: tks D W C z n (i + says (tok D W C z i)) else []

/-- What Tokens tells. -/
def tkl (D : List Int) (W C : Nat) (z : Bool) : List Tk := tks D W C z D.length 0

theorem bst_zero {D : List Int} {i W C : Nat} (h : (bst D i W C).1 = 0) : bst D i W C = (0, 0) := by
  rcases bst_facts (D := D) (i := i) (W := W) (C := C) with e | ⟨j, _, _, _, h4, h5, _⟩
  · exact e
  · have := congrArg Prod.fst h5
    simp only at this
    omega

theorem tok_lit {D : List Int} {W C : Nat} {z : Bool} {i : Nat} (h : Lit D W C z i) : tok D W C z i = (0, 0, D.getD i 0) := by unfold tok; rw [if_pos h]
theorem tok_cpy {D : List Int} {W C : Nat} {z : Bool} {i : Nat} (h : ¬ Lit D W C z i) : tok D W C z i = ((((bst D i W C).1 : Nat) : Int), (((bst D i W C).2 : Nat) : Int), 0) := by unfold tok; rw [if_neg h]

theorem says_pos (t : Tk) : 1 ≤ says t := by unfold says; omega

theorem says_lit {D : List Int} {W C : Nat} {z : Bool} {i : Nat} (h : Lit D W C z i) : says (tok D W C z i) = 1 := by rw [tok_lit h]; rfl

/-- A copy that is told. -/
theorem cpy_is {D : List Int} {W C : Nat} {z : Bool} {i : Nat} (hi : i < D.length) (h : ¬ Lit D W C z i) : ∃ j l d : Nat, tok D W C z i = ((l : Int), (d : Int), 0) ∧ j < i ∧ d = i - j ∧ l = rno D j i ∧ 3 ≤ l ∧ l ≤ 258 ∧ 1 ≤ d ∧ d ≤ i ∧ d ≤ W ∧ i + l ≤ D.length ∧ says (tok D W C z i) = l ∧ (bst D i W C) = (l, d) := by
  have h0 : (bst D i W C).1 ≠ 0 := fun e => h (.inl e)
  rcases bst_facts (D := D) (i := i) (W := W) (C := C) with e | ⟨j, h1, h2, h3, h4, h5, _⟩
  · rw [e] at h0; exact absurd rfl h0
  · have e1 := congrArg Prod.fst h5
    have e2 := congrArg Prod.snd h5
    simp only at e1 e2
    have r1 := rno_le D j i
    have r2 := rno_len (j := j) hi
    have ht := tok_cpy h
    rw [e1, e2] at ht
    obtain ⟨l, hl⟩ : ∃ l, l = rno D j i := ⟨_, rfl⟩
    rw [← hl] at r1 r2 h4 ht h5
    refine ⟨j, l, i - j, ht, h1, rfl, hl, h4, r1, by omega, by omega, h2, r2, ?_, h5⟩
    rw [ht]
    unfold says
    simp only [Int.toNat_natCast]
    omega

theorem tok_snd {D : List Int} {W C : Nat} {z : Bool} {i : Nat} (hi : i < D.length) (hW : W ≤ 32768) : Snd (tok D W C z i) := by
  by_cases h : Lit D W C z i
  · rw [tok_lit h]; unfold Snd; simp
  · obtain ⟨j, l, d, e, _, _, _, h1, h2, h3, h4, h5, _⟩ := cpy_is hi h
    rw [e]
    unfold Snd
    rw [if_neg (by simp only; omega)]
    exact ⟨by simp only; omega, by simp only; omega, by simp only; omega, by simp only; omega, rfl⟩

theorem tok_end {D : List Int} {W C : Nat} {z : Bool} {i : Nat} (hi : i < D.length) : i + says (tok D W C z i) ≤ D.length := by
  by_cases h : Lit D W C z i
  · rw [says_lit h]; omega
  · obtain ⟨j, l, d, e, _, _, _, h1, h2, h3, h4, h5, h6, h7, _⟩ := cpy_is hi h
    rw [h7]; exact h6

theorem tk_take {D : List Int} {i : Nat} (h : i < D.length) : D.take (i + 1) = D.take i ++ [D.getD i 0] := by
  rw [List.take_succ_eq_append_getElem h]
  simp [h]

theorem cpy_takes {D : List Int} {i d : Nat} (hd : 1 ≤ d) (hdi : d ≤ i) : ∀ {l : Nat}, i + l ≤ D.length → (∀ k, k < l → D.getD (i + k - d) 0 = D.getD (i + k) 0) → cpy (D.take i) d l = D.take (i + l)
  | 0, _, _ => rfl
  | l + 1, hl, h => by
    have ih := cpy_takes hd hdi (l := l) (by omega) (fun k hk => h k (by omega))
    simp only [cpy]
    rw [ih, show i + (l + 1) = i + l + 1 by omega, tk_take (by omega)]
    congr 2
    have hlen : (D.take (i + l)).length = i + l := by simp; omega
    rw [hlen, ← h l (by omega)]
    have : i + l - d < i + l := by omega
    simp [this]

/-- The token at a place puts just the bytes there. -/
theorem ptk_tok {D : List Int} {W C : Nat} {z : Bool} {i : Nat} (hi : i < D.length) : ptk (D.take i) (tok D W C z i) = D.take (i + says (tok D W C z i)) := by
  by_cases h : Lit D W C z i
  · rw [says_lit h, tok_lit h]
    unfold ptk
    rw [if_pos rfl, tk_take hi]
  · obtain ⟨j, l, d, e, q1, q2, q3, h1, h2, h3, h4, h5, h6, h7, _⟩ := cpy_is hi h
    rw [h7, e]
    unfold ptk
    rw [if_neg (by simp only; omega)]
    simp only [Int.toNat_natCast]
    refine cpy_takes h3 h4 h6 fun k hk => ?_
    have := ((rno_iff (D := D) (j := j) (i := i) (m := l)).1 (by omega)).2 k hk
    rw [← this.2, show i + k - d = j + k by omega]

theorem tok_far {D : List Int} {W C : Nat} {z : Bool} {i : Nat} (hi : i < D.length) : (tok D W C z i).2.1 ≤ (i : Int) := by
  by_cases h : Lit D W C z i
  · rw [tok_lit h]; simp
  · obtain ⟨j, l, d, e, q1, q2, q3, h1, h2, h3, h4, _⟩ := cpy_is hi h
    rw [e]; simp only; omega

/-- From a place on, all is told. -/
theorem tks_all {D : List Int} {W C : Nat} {z : Bool} (hW : W ≤ 32768) : ∀ (n i : Nat), i ≤ D.length → D.length ≤ i + n → exE (D.length : Int) (D.take i) (tks D W C z n i) = 0 ∧ exT (D.take i) (tks D W C z n i) = D
  | 0, i, h1, h2 => by
    obtain rfl : i = D.length := by omega
    simp only [tks, exE, exT, List.take_of_length_le (Nat.le_refl _), and_self]
  | n + 1, i, h1, h2 => by
    by_cases hi : i < D.length
    · have hp := says_pos (tok D W C z i)
      have he := tok_end (W := W) (C := C) (z := z) hi
      have ih := tks_all (W := W) (C := C) (z := z) hW n (i + says (tok D W C z i)) he (by omega)
      have hl : (D.take i).length = i := by simp; omega
      have hs : stE (D.length : Int) (D.take i) (tok D W C z i) = 0 := stE_mk (tok_snd hi hW) (by rw [hl]; exact tok_far hi) (by rw [hl]; omega)
      simp only [tks, if_pos hi, exE, exT]
      rw [if_pos hs, ptk_tok hi]
      exact ih
    · obtain rfl : i = D.length := by omega
      simp only [tks, if_neg hi, exE, exT, List.take_of_length_le (Nat.le_refl _), and_self]

theorem tkl_all {D : List Int} {W C : Nat} {z : Bool} (hW : W ≤ 32768) : exE (D.length : Int) [] (tkl D W C z) = 0 ∧ exT [] (tkl D W C z) = D := by
  have := tks_all (D := D) (W := W) (C := C) (z := z) hW D.length 0 (Nat.zero_le _) (by omega)
  rw [List.take_zero] at this
  exact this

theorem tks_len {D : List Int} {W C : Nat} {z : Bool} : ∀ n i, i ≤ D.length → (tks D W C z n i).length ≤ D.length - i
  | 0, i, _ => by simp [tks]
  | n + 1, i, h => by
    by_cases hi : i < D.length
    · have hp := says_pos (tok D W C z i)
      have he := tok_end (W := W) (C := C) (z := z) hi
      have ih := tks_len (W := W) (C := C) (z := z) n (i + says (tok D W C z i)) he
      simp only [tks, if_pos hi, List.length_cons]
      omega
    · simp [tks, hi]

/-- Every token is one at some place. -/
theorem tks_mem {D : List Int} {W C : Nat} {z : Bool} {t : Tk} : ∀ n i, t ∈ tks D W C z n i → ∃ k, k < D.length ∧ t = tok D W C z k
  | 0, i, h => by simp [tks] at h
  | n + 1, i, h => by
    by_cases hi : i < D.length
    · simp only [tks, if_pos hi, List.mem_cons] at h
      rcases h with rfl | h
      · exact ⟨i, hi, rfl⟩
      · exact tks_mem n _ h
    · simp [tks, hi] at h

theorem tkl_far {D : List Int} {W C : Nat} {z : Bool} {t : Tk} (h : t ∈ tkl D W C z) : t.2.1 ≤ (W : Int) ∧ (C = 0 → t.1 = 0) := by
  obtain ⟨k, hk, rfl⟩ := tks_mem _ _ h
  by_cases q : Lit D W C z k
  · rw [tok_lit q]; exact ⟨by simp, fun _ => rfl⟩
  · obtain ⟨j, l, d, e, q1, q2, q3, h1, h2, h3, h4, h5, h6, h7, h8⟩ := cpy_is hk q
    refine ⟨by rw [e]; simp only; omega, fun hC => ?_⟩
    exfalso
    subst hC
    apply q
    left
    simp [bst, pick]

/-- One byte less is too little. -/
theorem ex_less {R : List Tk} {lim : Int} (h : exE lim [] R = 0) (h0 : 0 < (exT [] R).length) : exE (((exT [] R).length : Int) - 1) [] R = 92 := by
  have hR : 0 < R.length := by
    cases R with
    | nil => simp [exT] at h0
    | cons a r => simp
  obtain ⟨k, hk⟩ : ∃ k, R.length = k + 1 := ⟨R.length - 1, by omega⟩
  have hkl : k < R.length := by omega
  obtain ⟨m1, m2⟩ := means_at h hkl
  obtain ⟨s1, s2, s3⟩ := stE_zero m2
  have he : exT [] R = ptk (exT [] (R.take k)) (R.getD k tk0) := by
    have := ext_at hkl
    rwa [List.take_of_length_le (by omega)] at this
  have hl : (exT [] R).length = (exT [] (R.take k)).length + says (R.getD k tk0) := by rw [he, ptk_len s1]
  have hp := says_pos (R.getD k tk0)
  have hpre : ∀ q, q ≤ k → exE (((exT [] R).length : Int) - 1) [] (R.take q) = 0 := by
    intro q
    induction q with
    | zero => intro _; rfl
    | succ q ih =>
      intro hq
      have i1 := ih (by omega)
      obtain ⟨a1, a2⟩ := means_at h (k := q) (by omega)
      obtain ⟨b1, b2, b3⟩ := stE_zero a2
      refine (exE_at (by omega) i1).2 (stE_mk b1 b2 ?_)
      have p : Pre (exT [] (R.take (q + 1))) (exT [] (R.take k)) := by
        have := pre_take (R.take k) (q + 1)
        rwa [List.take_take, Nat.min_eq_left (by omega)] at this
      have pl := p.len
      rw [ext_at (by omega), ptk_len b1] at pl
      omega
  have hs := stE_92 (lim := ((exT [] R).length : Int) - 1) s1 s2 (by omega)
  rw [(exE_at hkl (hpre k (Nat.le_refl _))).1 (by rw [hs]; decide), hs]
end Go.Proofs.Ytjdgeonlbjokaaa

