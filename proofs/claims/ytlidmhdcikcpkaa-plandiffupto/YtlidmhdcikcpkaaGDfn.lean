import Derived.Test.YtlidmhdcikcpkaaGFwr
namespace Go.Proofs.Ytlidmhdcikcpkaa
set_option linter.unusedVariables false

/-! Diff in numbers: the spans of the changed places. -/
abbrev Sp := Nat × Nat
def sl (S : List Sp) : Sp := S.getLastD (0, 0)
def cs1 (S : List Sp) (p : Nat) : List Sp := if S ≠ [] ∧ p ≤ (sl S).2 + 8 then S.dropLast ++ [((sl S).1, p + 1)] else S ++ [(p, p + 1)]
def chS (O N : List Int) : Nat → List Sp
  | 0 => []
  | k + 1 => if N.getD k 0 = O.getD k 0 then chS O N k else cs1 (chS O N k) k

theorem sl_app (S : List Sp) (s : Sp) : sl (S ++ [s]) = s := by simp [sl]
theorem sl_mem {S : List Sp} (h : S ≠ []) : sl S ∈ S := by
  unfold sl
  rw [List.getLastD_eq_getLast?, List.getLast?_eq_some_getLast h]
  exact List.getLast_mem h
theorem sl_split {S : List Sp} (h : S ≠ []) : S.dropLast ++ [sl S] = S := by
  unfold sl
  rw [List.getLastD_eq_getLast?, List.getLast?_eq_some_getLast h]
  exact List.dropLast_concat_getLast h

/-- What spans look like: within k, rising, nine places and more between them. -/
def SpOk : Nat → List Sp → Prop
  | _, [] => True
  | m, s :: S => m ≤ s.1 ∧ s.1 < s.2 ∧ SpOk (s.2 + 9) S
def SpIn (k : Nat) (S : List Sp) : Prop := ∀ s ∈ S, s.2 ≤ k

theorem spOk_app : ∀ (S T : List Sp) (m : Nat), SpOk m (S ++ T) ↔ SpOk m S ∧ SpOk (if S = [] then m else (sl S).2 + 9) T
  | [], T, m => by simp [SpOk]
  | s :: S, T, m => by
    have ih := spOk_app S T (s.2 + 9)
    simp only [List.cons_append, SpOk]
    rw [ih]
    have e : (if s :: S = [] then m else (sl (s :: S)).2 + 9) = (if S = [] then s.2 + 9 else (sl S).2 + 9) := by
      by_cases hS : S = []
      · subst hS; simp [sl]
      · simp [hS, sl, List.getLastD_eq_getLast?, List.getLast?_cons, List.getLast?_eq_some_getLast hS]
    rw [e]
    constructor
    · rintro ⟨h1, h2, h3, h4⟩; exact ⟨⟨h1, h2, h3⟩, h4⟩
    · rintro ⟨⟨h1, h2, h3⟩, h4⟩; exact ⟨h1, h2, h3, h4⟩

theorem ch_ok (O N : List Int) : ∀ k, SpOk 0 (chS O N k) ∧ SpIn k (chS O N k)
  | 0 => ⟨trivial, fun s hs => by simp [chS] at hs⟩
  | k + 1 => by
    obtain ⟨h1, h2⟩ := ch_ok O N k
    unfold chS
    split
    · exact ⟨h1, fun s hs => Nat.le_succ_of_le (h2 s hs)⟩
    · unfold cs1
      generalize chS O N k = S at h1 h2
      split
      · rename_i hc
        obtain ⟨hne, hp⟩ := hc
        have hm := h2 _ (sl_mem hne)
        have e := sl_split hne
        rw [← e] at h1 h2
        rw [spOk_app] at h1 ⊢
        simp only [SpOk, and_true] at h1 ⊢
        refine ⟨⟨h1.1, h1.2.1, by have := h1.2.2; omega⟩, fun s hs => ?_⟩
        rcases List.mem_append.1 hs with hs | hs
        · exact Nat.le_succ_of_le (h2 s (List.mem_append_left _ hs))
        · rw [List.mem_singleton.1 hs]; exact Nat.le_refl _
      · rename_i hc
        rw [spOk_app]
        simp only [SpOk, and_true]
        refine ⟨⟨h1, ?_, Nat.lt_succ_self _⟩, fun s hs => ?_⟩
        · split
          · exact Nat.zero_le _
          · rename_i hne
            have : ¬ k ≤ (sl S).2 + 8 := fun q => hc ⟨hne, q⟩
            omega
        · rcases List.mem_append.1 hs with hs | hs
          · exact Nat.le_succ_of_le (h2 s hs)
          · rw [List.mem_singleton.1 hs]; exact Nat.le_refl _

theorem spOk_mem : ∀ (S : List Sp) (m : Nat), SpOk m S → ∀ s ∈ S, m ≤ s.1 ∧ s.1 < s.2
  | [], m, h, s, hs => by cases hs
  | q :: S, m, h, s, hs => by
    obtain ⟨h1, h2, h3⟩ := h
    rcases List.mem_cons.1 hs with rfl | hs
    · exact ⟨h1, h2⟩
    · have := spOk_mem S _ h3 s hs
      omega
theorem ch_in {O N : List Int} {k : Nat} : ∀ s ∈ chS O N k, s.1 < s.2 ∧ s.2 ≤ k := fun s hs => ⟨(spOk_mem _ 0 (ch_ok O N k).1 s hs).2, (ch_ok O N k).2 s hs⟩
theorem cs1_len (S : List Sp) (p : Nat) : (cs1 S p).length ≤ S.length + 1 := by
  unfold cs1
  split
  · rename_i h
    have : 0 < S.length := List.length_pos_iff.2 h.1
    simp
  · simp
theorem ch_len (O N : List Int) : ∀ k, (chS O N k).length ≤ k
  | 0 => by simp [chS]
  | k + 1 => by
    have ih := ch_len O N k
    unfold chS
    split
    · omega
    · have := cs1_len (chS O N k) k
      omega

/-- The writes of spans. -/
def prt (N : List Int) (s : Sp) : Int × List Int := ((s.1 : Int), (N.drop s.1).take (s.2 - s.1))
def wrs (N : List Int) (S : List Sp) : List (Int × List Int) := S.map (prt N)

/-- The list of a span that gets longer up to a place. -/
theorem prt_ext {N : List Int} {a q : Nat} (h1 : a ≤ q) (h2 : q < N.length) : (N.drop a).take (q + 1 - a) = (N.drop a).take (q - a) ++ [N.getD q 0] := by
  rw [show q + 1 - a = (q - a) + 1 by omega, List.take_add_one, List.getElem?_drop, show a + (q - a) = q by omega]
  simp [List.getElem?_eq_getElem h2, List.getD]
theorem prt_len {N : List Int} {s : Sp} (h1 : s.1 ≤ s.2) (h2 : s.2 ≤ N.length) : (prt N s).2.length = s.2 - s.1 := by
  unfold prt
  simp only [List.length_take, List.length_drop]
  omega
end Go.Proofs.Ytlidmhdcikcpkaa

