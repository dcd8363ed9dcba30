import Derived.Test.YtagikpkkbopcbaaDoorG02AppL
import Derived.Lib.Strings
namespace Go.Proofs.YtagikpkkbopcbaaDoor
open Go.RowKit Go.Maps
set_option linter.unusedVariables false

/-! Lines and words in numbers. -/
def bI (s : ByteArray) (k : Nat) : Int := ((s.get! k).toNat : Int)

theorem bI_in (s : ByteArray) (k : Nat) : 0 ≤ bI s k ∧ bI s k < 256 := by
  have h := (s.get! k).toNat_lt
  unfold bI
  omega

theorem get_at20 (s : ByteArray) (k : Nat) (h : k < s.size) : s.get! k = s[k]'h := by
  show s.data[k]! = s.data[k]
  exact getElem!_pos s.data k h

theorem bI_at (s : ByteArray) (k : Nat) (h : k < s.size) : bI s k = ((s[k]'h).toNat : Int) := by
  unfold bI
  rw [get_at20 s k h]

def sfx (s : ByteArray) (a : Nat) : ByteArray := s.extract a s.size

theorem sfx_size (s : ByteArray) (a : Nat) : (sfx s a).size = s.size - a := by
  unfold sfx
  simp [ByteArray.size_extract]

theorem sfx_at (s : ByteArray) (a k : Nat) (h : a + k < s.size) : bI (sfx s a) k = bI s (a + k) := by
  rw [bI_at _ k (by rw [sfx_size]; omega), bI_at _ _ h]
  unfold sfx
  simp [ByteArray.getElem_extract]

theorem sfx_ext (s : ByteArray) (a b c : Nat) (hc : a + c ≤ s.size) : (sfx s a).extract b c = s.extract (a + b) (a + c) := by
  unfold sfx
  rw [ByteArray.extract_extract]
  congr 1
  omega

def hx (c : Int) : Int := if 48 ≤ c ∧ c ≤ 57 then c - 48 else if 97 ≤ c ∧ c ≤ 102 then c - 87 else if 65 ≤ c ∧ c ≤ 70 then c - 55 else -1

def ltr (s : ByteArray) (k : Nat) : Int × Nat :=
  if bI s k < 32 then (0, 0) else if bI s k ≠ 92 then (bI s k, 1)
  else if k + 1 < s.size ∧ (bI s (k + 1) = 34 ∨ bI s (k + 1) = 92) then (bI s (k + 1), 2)
  else if k + 3 < s.size ∧ bI s (k + 1) = 120 ∧ 0 ≤ hx (bI s (k + 2)) ∧ 0 ≤ hx (bI s (k + 3)) then (16 * hx (bI s (k + 2)) + hx (bI s (k + 3)), 4)
  else (0, 0)

theorem hx_le (c : Int) : -1 ≤ hx c ∧ hx c ≤ 15 := by
  unfold hx
  split
  · omega
  · split
    · omega
    · split <;> omega

theorem ltr_in (s : ByteArray) (k : Nat) (hk : k < s.size) : 0 ≤ (ltr s k).1 ∧ (ltr s k).1 < 256 ∧ k + (ltr s k).2 ≤ s.size := by
  have h0 := bI_in s k
  have h1 := bI_in s (k + 1)
  have h2 := hx_le (bI s (k + 2))
  have h3 := hx_le (bI s (k + 3))
  unfold ltr
  split
  · exact ⟨by decide, by decide, by simp only []; omega⟩
  · split
    · exact ⟨by simp only []; omega, by simp only []; omega, by simp only []; omega⟩
    · split
      · rename_i q
        exact ⟨by simp only []; omega, by simp only []; omega, by simp only []; omega⟩
      · split
        · rename_i q
          exact ⟨by simp only []; omega, by simp only []; omega, by simp only []; omega⟩
        · exact ⟨by decide, by decide, by simp only []; omega⟩

theorem sfx_ltr (s : ByteArray) (a k : Nat) (hk : a + k < s.size) : ltr (sfx s a) k = ltr s (a + k) := by
  have e0 := sfx_at s a k hk
  have es := sfx_size s a
  unfold ltr
  rw [e0, es]
  by_cases c1 : a + k + 1 < s.size
  · have e1 := sfx_at s a (k + 1) (by omega)
    rw [e1, ← Nat.add_assoc]
    by_cases c3 : a + k + 3 < s.size
    · have e2 := sfx_at s a (k + 2) (by omega)
      have e3 := sfx_at s a (k + 3) (by omega)
      rw [e2, e3, ← Nat.add_assoc, ← Nat.add_assoc]
      have q1 : (k + 1 < s.size - a) = (a + k + 1 < s.size) := by apply propext; omega
      have q3 : (k + 3 < s.size - a) = (a + k + 3 < s.size) := by apply propext; omega
      simp only [q1, q3]
    · have q1 : (k + 1 < s.size - a) = (a + k + 1 < s.size) := by apply propext; omega
      have q3 : ¬ (k + 3 < s.size - a) := by omega
      simp only [q1, q3, c3, false_and, if_false]
  · have q1 : ¬ (k + 1 < s.size - a) := by omega
    have q3 : ¬ (k + 3 < s.size - a) := by omega
    have c3 : ¬ (a + k + 3 < s.size) := by omega
    simp only [q1, q3, c1, c3, false_and, if_false]

inductive Qt (s : ByteArray) : Nat → List Int → Option (List Int × Nat) → Prop
  | ends {k w} : s.size ≤ k → Qt s k w none
  | quote {k w} : k < s.size → bI s k = 34 → Qt s k w (some (w, k + 1))
  | bad {k w} : k < s.size → bI s k ≠ 34 → (ltr s k).2 = 0 → Qt s k w none
  | step {k w r} : k < s.size → bI s k ≠ 34 → (ltr s k).2 ≠ 0 → Qt s (k + (ltr s k).2) (w ++ [(ltr s k).1]) r → Qt s k w r

theorem Qt.det {s : ByteArray} {k : Nat} {w : List Int} {r r' : Option (List Int × Nat)} (h : Qt s k w r) (h' : Qt s k w r') : r = r' := by
  induction h with
  | ends q => cases h' with
    | ends => rfl
    | quote => omega
    | bad => rfl
    | step => omega
  | quote q e => cases h' with
    | ends => omega
    | quote => rfl
    | bad _ c => exact absurd e c
    | step _ c => exact absurd e c
  | bad q e z => cases h' with
    | ends => rfl
    | quote _ c => exact absurd c e
    | bad => rfl
    | step _ _ c => exact absurd z c
  | step q e z _ ih => cases h' with
    | ends => omega
    | quote _ c => exact absurd c e
    | bad _ _ c => exact absurd c z
    | step _ _ _ c => exact ih c

theorem Qt.ends_in {s : ByteArray} {k : Nat} {w : List Int} {r : Option (List Int × Nat)} (h : Qt s k w r) : ∀ v e, r = some (v, e) → k < e ∧ e ≤ s.size ∧ v.length ≤ w.length + (e - k) := by
  induction h with
  | ends => intro v e q; cases q
  | quote q _ => intro v e c; cases c; omega
  | bad => intro v e q; cases q
  | step q _ z _ ih =>
    intro v e c
    have := ih v e c
    rw [List.length_append, List.length_singleton] at this
    omega

theorem Qt.shift {s : ByteArray} {a k : Nat} {w : List Int} {r : Option (List Int × Nat)} (h : Qt (sfx s a) k w r) (ha : a ≤ s.size) : Qt s (a + k) w (r.map fun p => (p.1, a + p.2)) := by
  have es := sfx_size s a
  induction h with
  | ends q => exact .ends (by omega)
  | quote q e => exact .quote (by omega) (by rw [← sfx_at s a _ (by omega)]; exact e)
  | bad q e z => exact .bad (by omega) (by rw [← sfx_at s a _ (by omega)]; exact e) (by rw [← sfx_ltr s a _ (by omega)]; exact z)
  | step q e z _ ih =>
    refine .step (by omega) (by rw [← sfx_at s a _ (by omega)]; exact e) (by rw [← sfx_ltr s a _ (by omega)]; exact z) ?_
    rw [← sfx_ltr s a _ (by omega), Nat.add_assoc]
    exact ih

def okb (c : Int) : Prop := 32 < c ∧ c < 127 ∧ c ≠ 34

structure Bare (s : ByteArray) (i k : Nat) : Prop where
  ge : i ≤ k
  le : k ≤ s.size
  ok : ∀ j, i ≤ j → j < k → okb (bI s j)
  stop : k < s.size → ¬ okb (bI s k)

theorem Bare.det {s : ByteArray} {i k k' : Nat} (h : Bare s i k) (h' : Bare s i k') : k = k' := by
  by_cases c : k < k'
  · exact absurd (h'.ok k h.ge c) (h.stop (by have := h'.le; omega))
  · by_cases d : k' < k
    · exact absurd (h.ok k' h'.ge d) (h'.stop (by have := h.le; omega))
    · omega

theorem Bare.shift {s : ByteArray} {a i k : Nat} (h : Bare (sfx s a) i k) (ha : a ≤ s.size) : Bare s (a + i) (a + k) := by
  have es := sfx_size s a
  have hl := h.le
  refine ⟨by have := h.ge; omega, by omega, fun j h1 h2 => ?_, fun q => ?_⟩
  · obtain ⟨d, rfl⟩ : ∃ d, j = a + d := ⟨j - a, by omega⟩
    rw [← sfx_at s a d (by omega)]
    exact h.ok d (by omega) (by omega)
  · rw [← sfx_at s a k (by omega)]
    exact h.stop (by omega)

def alone (s : ByteArray) (e : Nat) : Prop := ¬ (e < s.size ∧ bI s e ≠ 32)

inductive Wd (s : ByteArray) (i : Nat) : Option (ByteArray × Nat) → Prop
  | noq : bI s i = 34 → Qt s (i + 1) [] none → Wd s i none
  | nol {w e} : bI s i = 34 → Qt s (i + 1) [] (some (w, e)) → ¬ alone s e → Wd s i none
  | qt {w e} : bI s i = 34 → Qt s (i + 1) [] (some (w, e)) → alone s e → Wd s i (some (strOfNums w, e))
  | nob {k} : bI s i ≠ 34 → Bare s i k → (k = i ∨ ¬ alone s k) → Wd s i none
  | br {k} : bI s i ≠ 34 → Bare s i k → k ≠ i → alone s k → Wd s i (some (s.extract i k, k))

theorem Wd.det {s : ByteArray} {i : Nat} {o o' : Option (ByteArray × Nat)} (h : Wd s i o) (h' : Wd s i o') : o = o' := by
  cases h with
  | noq a b => cases h' with
    | noq => rfl
    | nol => rfl
    | qt _ c => cases b.det c
    | nob c => exact absurd a c
    | br c => exact absurd a c
  | nol a b d => cases h' with
    | noq => rfl
    | nol => rfl
    | qt _ c e => cases b.det c; exact absurd e d
    | nob c => exact absurd a c
    | br c => exact absurd a c
  | qt a b d => cases h' with
    | noq _ c => cases b.det c
    | nol _ c e => cases b.det c; exact absurd d e
    | qt _ c e => cases b.det c; rfl
    | nob c => exact absurd a c
    | br c => exact absurd a c
  | nob a b d => cases h' with
    | noq c => exact absurd c a
    | nol c => exact absurd c a
    | qt c => exact absurd c a
    | nob => rfl
    | br _ c e f => cases b.det c; rcases d with d | d
                    · exact absurd d e
                    · exact absurd f d
  | br a b d e => cases h' with
    | noq c => exact absurd c a
    | nol c => exact absurd c a
    | qt c => exact absurd c a
    | nob _ c f => cases b.det c; rcases f with f | f
                   · exact absurd f d
                   · exact absurd e f
    | br _ c => cases b.det c; rfl

theorem Wd.gt {s : ByteArray} {i : Nat} {w : ByteArray} {k : Nat} (h : Wd s i (some (w, k))) : i < k ∧ k ≤ s.size := by
  generalize ho : (some (w, k) : Option (ByteArray × Nat)) = o at h
  cases h with
  | noq => cases ho
  | nol => cases ho
  | qt _ b _ => cases ho; have := b.ends_in _ _ rfl; omega
  | nob => cases ho
  | br _ b c _ => cases ho; have := b.ge; have := b.le; omega

inductive Prs (s : ByteArray) : Nat → List ByteArray → Option (List ByteArray) → Prop
  | ends {i ws} : s.size ≤ i → Prs s i ws (some ws)
  | blank {i ws r} : i < s.size → bI s i = 32 → Prs s (i + 1) ws r → Prs s i ws r
  | bad {i ws} : i < s.size → bI s i ≠ 32 → Wd s i none → Prs s i ws none
  | word {i ws r w k} : i < s.size → bI s i ≠ 32 → Wd s i (some (w, k)) → Prs s k (ws ++ [w]) r → Prs s i ws r

theorem Prs.det {s : ByteArray} {i : Nat} {ws : List ByteArray} {r r' : Option (List ByteArray)} (h : Prs s i ws r) (h' : Prs s i ws r') : r = r' := by
  induction h with
  | ends q => cases h' with
    | ends => rfl
    | blank => omega
    | bad => omega
    | word => omega
  | blank q e _ ih => cases h' with
    | ends => omega
    | blank _ _ c => exact ih c
    | bad _ c => exact absurd e c
    | word _ c => exact absurd e c
  | bad q e z => cases h' with
    | ends => omega
    | blank _ c => exact absurd c e
    | bad => rfl
    | word _ _ c => cases z.det c
  | word q e z _ ih => cases h' with
    | ends => omega
    | blank _ c => exact absurd c e
    | bad _ _ c => cases z.det c
    | word _ _ c d => cases z.det c; exact ih d
end Go.Proofs.YtagikpkkbopcbaaDoor

