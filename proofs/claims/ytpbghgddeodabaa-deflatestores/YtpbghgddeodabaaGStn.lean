import Derived.Test.YtpbghgddeodabaaGWr5
namespace Go.Proofs.Ytpbghgddeodabaa
set_option maxRecDepth 20000
set_option linter.unusedVariables false

/-- A stored block that begins at the border of a byte. -/
def sblk (f : Int) (x : List Int) : List Int := f :: ((x.length % 256 : Nat) : Int) :: ((x.length / 256 : Nat) : Int) :: (255 - ((x.length % 256 : Nat) : Int)) :: (255 - ((x.length / 256 : Nat) : Int)) :: x

/-- A text as stored blocks. -/
def stB (x : List Int) : List Int := if 65535 < x.length then sblk 0 (x.take 65535) ++ stB (x.drop 65535) else sblk 1 x
termination_by x.length
decreasing_by simp only [List.length_drop]; omega

theorem stB_long {x : List Int} (h : 65535 < x.length) : stB x = sblk 0 (x.take 65535) ++ stB (x.drop 65535) := by
  conv => lhs; rw [stB]
  rw [if_pos h]

theorem stB_short {x : List Int} (h : ¬ 65535 < x.length) : stB x = sblk 1 x := by
  conv => lhs; rw [stB]
  rw [if_neg h]

theorem sblk_len (f : Int) (x : List Int) : (sblk f x).length = x.length + 5 := by simp [sblk]

theorem byt_con {a : Int} {l : List Int} (h : 0 ≤ a ∧ a < 256) (hl : Byt l) : Byt (a :: l) := by
  intro i
  cases i with
  | zero => simpa using h
  | succ i => simpa using hl i

theorem byt_app11 {a b : List Int} (ha : Byt a) (hb : Byt b) : Byt (a ++ b) := by
  intro i
  by_cases h : i < a.length
  · have := ha i
    rwa [List.getD_eq_getElem?_getD, List.getElem?_append_left h, ← List.getD_eq_getElem?_getD]
  · have := hb (i - a.length)
    rwa [List.getD_eq_getElem?_getD, List.getElem?_append_right (by omega), ← List.getD_eq_getElem?_getD]

theorem sblk_byt {f : Int} {x : List Int} (hf : 0 ≤ f ∧ f < 256) (hx : Byt x) (hl : x.length ≤ 65535) : Byt (sblk f x) := by
  unfold sblk
  exact byt_con hf (byt_con (by omega) (byt_con (by omega) (byt_con (by omega) (byt_con (by omega) hx))))

/-- How many bytes that takes. -/
theorem stB_len (n : Nat) : ∀ x : List Int, x.length ≤ n → (stB x).length = x.length + 5 * max 1 ((x.length + 65534) / 65535) := by
  induction n with
  | zero =>
    intro x hx
    rw [stB_short (by omega), sblk_len]
    omega
  | succ n ih =>
    intro x hx
    by_cases h : 65535 < x.length
    · rw [stB_long h, List.length_append, sblk_len, ih (x.drop 65535) (by simp only [List.length_drop]; omega)]
      simp only [List.length_drop, List.length_take]
      omega
    · rw [stB_short h, sblk_len]
      omega

theorem bts16 (n : Nat) (h : n < 65536) : bts (n : Int) 16 = bts ((n % 256 : Nat) : Int) 8 ++ bts ((n / 256 : Nat) : Int) 8 := by
  have e1 := bts_split (n : Int) 8 8
  have e2 := bts_mod (n : Int) 8
  have e3 : (2 : Int) ^ 8 = 256 := by decide
  rw [e3] at e1 e2
  show bts (n : Int) (8 + 8) = _
  rw [e1, ← e2]
  congr 2 <;> omega

theorem lead_bits {f : Int} (h : f = 0 ∨ f = 1) : bts f 1 ++ bts 0 2 ++ List.replicate 5 0 = bts f 8 := by
  rcases h with rfl | rfl <;> decide

theorem sblk_bits {f : Int} (hf : f = 0 ∨ f = 1) {x : List Int} (hl : x.length ≤ 65535) (row : List Int) :
    row ++ bts f 1 ++ bts 0 2 ++ List.replicate 5 0 ++ bts (x.length : Int) 16 ++ bts (((65535 - x.length : Nat) : Nat) : Int) 16 ++ unpack x = row ++ unpack (sblk f x) := by
  unfold sblk
  simp only [unpack_cons]
  rw [bts16 _ (by omega), bts16 _ (by omega), ← lead_bits hf]
  have e1 : ((((65535 - x.length : Nat) % 256 : Nat)) : Int) = 255 - ((x.length % 256 : Nat) : Int) := by omega
  have e2 : ((((65535 - x.length : Nat) / 256 : Nat)) : Int) = 255 - ((x.length / 256 : Nat) : Int) := by omega
  rw [e1, e2]
  simp only [List.append_assoc]

theorem stB_byt (n : Nat) : ∀ x : List Int, x.length ≤ n → Byt x → Byt (stB x) := by
  induction n with
  | zero =>
    intro x hx hb
    rw [stB_short (by omega)]
    exact sblk_byt (by omega) hb (by omega)
  | succ n ih =>
    intro x hx hb
    by_cases h : 65535 < x.length
    · rw [stB_long h]
      have h1 : Byt (x.take 65535) := fun i => by
        by_cases hi : i < 65535
        · have := hb i
          simpa [List.getD_eq_getElem?_getD, List.getElem?_take, hi] using this
        · simp [List.getD_eq_getElem?_getD, List.getElem?_take, hi]
      have h2 : Byt (x.drop 65535) := fun i => by
        have := hb (65535 + i)
        simpa [List.getD_eq_getElem?_getD, List.getElem?_drop] using this
      exact byt_app11 (sblk_byt (by omega) h1 (by simp; omega)) (ih _ (by simp only [List.length_drop]; omega) h2)
    · rw [stB_short h]
      exact sblk_byt (by omega) hb (by omega)
end Go.Proofs.Ytpbghgddeodabaa

