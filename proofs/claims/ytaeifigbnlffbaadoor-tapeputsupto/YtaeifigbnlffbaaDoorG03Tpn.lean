import Derived.Test.YtaeifigbnlffbaaDoorG00Mth
import Derived.Test.YtaeifigbnlffbaaDoorG01Base
import Derived.Lib.Bytealg
import Derived.Lib.Strings
namespace Go.Proofs.YtaeifigbnlffbaaDoor
set_option maxRecDepth 20000
set_option linter.unusedVariables false
set_option linter.unusedSimpArgs false

/-! Tapes in numbers. -/

def sbs (s : ByteArray) : List Int := s.data.toList.map fun b => (b.toNat : Int)

theorem sbs_len (s : ByteArray) : (sbs s).length = s.size := by
  unfold sbs
  rw [List.length_map, Array.length_toList]; rfl

structure Fl where
  nm : ByteArray
  lk : ByteArray
  us : ByteArray
  tm : ByteArray
  kd : Int
  md : Int
  ow : Int
  gr : Int
  ti : Int
  dt : List Int

def oct : Nat → Nat → List Int
  | _, 0 => []
  | n, d + 1 => oct (n / 8) d ++ [48 + ((n % 8 : Nat) : Int)]

theorem oct_len (n d : Nat) : (oct n d).length = d := by
  induction d generalizing n with
  | zero => rfl
  | succ d ih => simp [oct, ih]

theorem oct_byt (n d : Nat) : ∀ x ∈ oct n d, 0 ≤ x ∧ x < 256 := by
  induction d generalizing n with
  | zero => simp [oct]
  | succ d ih =>
    intro x hx
    rw [oct, List.mem_append] at hx
    rcases hx with h | h
    · exact ih _ x h
    · simp at h; omega

def wrt (L : List Int) (at' : Nat) (t : List Int) : List Int := L.take at' ++ t ++ L.drop (at' + t.length)

theorem wrt_len {L t : List Int} {at' : Nat} (h : at' + t.length ≤ L.length) : (wrt L at' t).length = L.length := by
  unfold wrt
  simp; omega

theorem wrt_mid (A t Z B : List Int) (z : Int) (n : Nat) (at' : Nat) (ha : at' = A.length) (hn : t.length ≤ n) : wrt (A ++ (List.replicate n z ++ B)) at' t = A ++ ((t ++ List.replicate (n - t.length) z) ++ B) := by
  subst ha
  unfold wrt
  rw [List.take_left, List.drop_append, List.drop_of_length_le (by omega), List.nil_append, Nat.add_sub_cancel_left, List.drop_append, List.drop_replicate, List.length_replicate, show t.length - n = 0 by omega, List.drop_zero]
  simp

def fil (t : List Int) (n : Nat) : List Int := (t ++ List.replicate n 0).take n

theorem fil_len (t : List Int) (n : Nat) : (fil t n).length = n := by simp [fil]

theorem fil_of {t : List Int} {n : Nat} (h : t.length ≤ n) : fil t n = t ++ List.replicate (n - t.length) 0 := by
  unfold fil
  rw [List.take_append, List.take_of_length_le h, List.take_replicate, Nat.min_eq_left (by omega)]

def slash (l : List UInt8) (i : Nat) : Nat := i + (l.drop i).findIdx (· == 47)

def cutN (l : List UInt8) : List UInt8 × List UInt8 × Bool :=
  if l.length ≤ 100 then ([], l, decide (0 < l.length)) else
    if slash l (max 1 (l.length - 101)) ≤ 155 ∧ slash l (max 1 (l.length - 101)) + 1 < l.length then (l.take (slash l (max 1 (l.length - 101))), l.drop (slash l (max 1 (l.length - 101)) + 1), true) else ([], [], false)

theorem slash_hit {l : List UInt8} {i : Nat} (hi : i ≤ l.length) (h : slash l i < l.length) : i ≤ slash l i ∧ l[slash l i]? = some 47 ∧ ∀ j, i ≤ j → j < slash l i → l[j]? ≠ some 47 := by
  unfold slash at h ⊢
  have hlt : (l.drop i).findIdx (· == 47) < (l.drop i).length := by rw [List.length_drop]; omega
  refine ⟨by omega, ?_, fun j h1 h2 => ?_⟩
  · have := List.findIdx_getElem (xs := l.drop i) (p := (· == 47)) (w := hlt)
    rw [List.getElem_drop] at this
    rw [List.getElem?_eq_getElem (by rw [List.length_drop] at hlt; omega)]
    simpa using this
  · have := List.not_of_lt_findIdx (xs := l.drop i) (p := (· == 47)) (i := j - i) (by omega)
    rw [List.getElem_drop] at this
    intro e
    have hj : j < l.length := (List.getElem?_eq_some_iff.1 e).1
    have e2 : l[i + (j - i)]'(by omega) = 47 := by
      have := (List.getElem?_eq_some_iff.1 e).2
      rw [← this]; congr 1; omega
    simp [e2] at this

theorem slash_miss {l : List UInt8} {i : Nat} (hi : i ≤ l.length) (h : ¬ slash l i < l.length) : slash l i = l.length ∧ ∀ j, i ≤ j → l[j]? ≠ some 47 := by
  unfold slash at h ⊢
  have hle := List.findIdx_le_length (xs := l.drop i) (p := (· == 47))
  rw [List.length_drop] at hle
  refine ⟨by omega, fun j h1 e => ?_⟩
  have hj : j < l.length := (List.getElem?_eq_some_iff.1 e).1
  have := List.not_of_lt_findIdx (xs := l.drop i) (p := (· == 47)) (i := j - i) (by omega)
  rw [List.getElem_drop] at this
  have e2 : l[i + (j - i)]'(by omega) = 47 := by
    have := (List.getElem?_eq_some_iff.1 e).2
    rw [← this]; congr 1; omega
  simp [e2] at this

def okAt (l : List UInt8) (i : Nat) : Bool := l[i]? == some 47 && decide (i ≤ 155) && decide (1 ≤ (l.length : Int) - i - 1) && decide ((l.length : Int) - i - 1 ≤ 100)

theorem cutN_find {l : List UInt8} (hl : 100 < l.length) {i : Nat} (hi : 1 ≤ i) (hok : okAt l i = true) (hbef : ∀ j, 1 ≤ j → j < i → okAt l j = false) : cutN l = (l.take i, l.drop (i + 1), true) := by
  unfold okAt at hok
  simp at hok
  obtain ⟨⟨⟨h1, h2⟩, h3⟩, h4⟩ := hok
  have hil : i < l.length := (List.getElem?_eq_some_iff.1 h1).1
  have hf : max 1 (l.length - 101) ≤ i := by omega
  have hs : slash l (max 1 (l.length - 101)) = i := by
    by_cases hm : slash l (max 1 (l.length - 101)) < l.length
    · obtain ⟨q1, q2, q3⟩ := slash_hit (by omega) hm
      by_cases hlt : slash l (max 1 (l.length - 101)) < i
      · have := hbef _ (by omega) hlt
        unfold okAt at this
        rw [q2] at this
        simp at this
        omega
      · by_cases hgt : i < slash l (max 1 (l.length - 101))
        · exact absurd h1 (q3 i hf hgt)
        · omega
    · obtain ⟨_, q2⟩ := slash_miss (by omega) hm
      exact absurd h1 (q2 i hf)
  unfold cutN
  rw [if_neg (by omega), hs, if_pos ⟨h2, by omega⟩]

theorem cutN_none {l : List UInt8} (hl : 100 < l.length) (hbef : ∀ j, 1 ≤ j → j < l.length → okAt l j = false) : cutN l = ([], [], false) := by
  unfold cutN
  rw [if_neg (by omega)]
  by_cases hm : slash l (max 1 (l.length - 101)) < l.length
  · obtain ⟨q1, q2, q3⟩ := slash_hit (by omega) hm
    rw [if_neg]
    rintro ⟨r1, r2⟩
    have := hbef _ (by omega) hm
    unfold okAt at this
    rw [q2] at this
    simp at this
    omega
  · rw [if_neg]
    rintro ⟨r1, r2⟩
    omega
end Go.Proofs.YtaeifigbnlffbaaDoor

