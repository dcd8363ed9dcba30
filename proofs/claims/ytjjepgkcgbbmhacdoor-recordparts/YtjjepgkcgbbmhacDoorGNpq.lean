import Derived.Test.YtjjepgkcgbbmhacDoorGNpp
namespace Go.Proofs.YtjjepgkcgbbmhacDoor
set_option linter.unusedVariables false
set_option linter.unusedSimpArgs false

def lb (l : List UInt8) (i : Nat) : Nat := (l[i]?.getD 0).toNat
theorem bt_lb (s : ByteArray) {i : Nat} (h : i < s.size) : bt s i = lb s.data.toList i := by
  obtain ⟨x, hx, hb⟩ := bt_list s i h
  unfold lb
  rw [hx, ← hb]
  rfl
theorem lb_end {l : List UInt8} {i : Nat} (h : l.length ≤ i) : lb l i = 0 := by unfold lb; rw [List.getElem?_eq_none h]; rfl
theorem lb_left {A B : List UInt8} {i : Nat} (h : i < A.length) : lb (A ++ B) i = lb A i := by unfold lb; rw [List.getElem?_append_left h]
theorem lb_right {A B : List UInt8} {i : Nat} (h : A.length ≤ i) : lb (A ++ B) i = lb B (i - A.length) := by unfold lb; rw [List.getElem?_append_right h]
theorem lb_take {A : List UInt8} {k i : Nat} (h : i < k) : lb (A.take k) i = lb A i := by unfold lb; rw [List.getElem?_take_of_lt h]
theorem lb_drop (A : List UInt8) (k i : Nat) : lb (A.drop k) i = lb A (k + i) := by unfold lb; rw [List.getElem?_drop]

def segL (t : List UInt8) (f j : Nat) : Prop := f ≤ j ∧ j ≤ t.length ∧ (f = 0 ∨ lb t (f - 1) = 47) ∧ (j = t.length ∨ lb t j = 47) ∧ ∀ i, f ≤ i → i < j → lb t i ≠ 47
theorem seg_l (t : ByteArray) {f j : Nat} : seg t f j ↔ segL t.data.toList f j := by
  unfold seg segL
  rw [← Lib.size_eq]
  constructor
  · rintro ⟨h1, h2, h3, h4, h5⟩
    refine ⟨h1, h2, ?_, ?_, fun i a b => by rw [← bt_lb t (by omega)]; exact h5 i a b⟩
    · rcases h3 with h3 | h3
      · exact .inl h3
      · by_cases e : f = 0
        · exact .inl e
        · exact .inr (by rw [← bt_lb t (by omega)]; exact h3)
    · rcases h4 with h4 | h4
      · exact .inl h4
      · by_cases e : j = t.size
        · exact .inl e
        · exact .inr (by rw [← bt_lb t (by omega)]; exact h4)
  · rintro ⟨h1, h2, h3, h4, h5⟩
    refine ⟨h1, h2, ?_, ?_, fun i a b => by rw [bt_lb t (by omega)]; exact h5 i a b⟩
    · rcases h3 with h3 | h3
      · exact .inl h3
      · by_cases e : f = 0
        · exact .inl e
        · exact .inr (by rw [bt_lb t (by omega)]; exact h3)
    · rcases h4 with h4 | h4
      · exact .inl h4
      · by_cases e : j = t.size
        · exact .inl e
        · exact .inr (by rw [bt_lb t (by omega)]; exact h4)
def rl (l : List UInt8) : List UInt8 := if lb l (l.length - 1) = 47 then l.take (l.length - 1) else l
theorem rst_l (s : ByteArray) (h : 1 ≤ s.size) : (rst s).data.toList = rl s.data.toList := by
  unfold rst rl
  rw [← Lib.size_eq, ← bt_lb s (by omega)]
  split
  · exact Lib.extract_from_zero s _
  · rfl

/-- A name of plain parts. -/
structure Nm (l : List UInt8) : Prop where
  pos : 1 ≤ l.length
  all : ∀ i, i < l.length → (97 ≤ lb l i ∧ lb l i ≤ 122) ∨ lb l i = 47
  st : ∀ i, i ≤ l.length → (i = 0 ∨ lb l (i - 1) = 47) → i < l.length ∧ lb l i ≠ 47

theorem Nm.last {l : List UInt8} (h : Nm l) : lb l (l.length - 1) ≠ 47 := fun e => by
  have := h.st l.length (Nat.le_refl _) (.inr e)
  omega
theorem Nm.low {l : List UInt8} (h : Nm l) (i : Nat) : lb l i ≤ 122 := by
  by_cases hi : i < l.length
  · have := h.all i hi; omega
  · rw [lb_end (by omega)]; omega
theorem Nm.nodot {l : List UInt8} (h : Nm l) (i : Nat) : lb l i ≠ 46 := by
  by_cases hi : i < l.length
  · have := h.all i hi; omega
  · rw [lb_end (by omega)]; omega
theorem nm_a : Nm [97] := ⟨by simp, fun i hi => by
    obtain rfl : i = 0 := by simpa using hi
    exact .inl (by decide), fun i hi h => by
    have : i = 0 ∨ i = 1 := by simp at hi; omega
    rcases this with rfl | rfl
    · exact ⟨by simp, by decide⟩
    · rcases h with h | h
      · cases h
      · exact absurd h (by decide)⟩
theorem Nm.more {l p : List UInt8} (h : Nm l) (hp : 1 ≤ p.length) (ha : ∀ i, i < p.length → 97 ≤ lb p i ∧ lb p i ≤ 122) : Nm (l ++ ([47] ++ p)) := by
  have hlen : (l ++ ([47] ++ p)).length = l.length + 1 + p.length := by simp; omega
  have e1 : ∀ i, i < l.length → lb (l ++ ([47] ++ p)) i = lb l i := fun i hi => lb_left hi
  have e2 : lb (l ++ ([47] ++ p)) l.length = 47 := by rw [lb_right (Nat.le_refl _), Nat.sub_self]; rfl
  have e3 : ∀ i, l.length + 1 ≤ i → lb (l ++ ([47] ++ p)) i = lb p (i - (l.length + 1)) := fun i hi => by
    rw [lb_right (by omega), lb_right (by simp; omega)]
    congr 1
  refine ⟨by rw [hlen]; omega, fun i hi => ?_, fun i hi hs => ?_⟩
  · rw [hlen] at hi
    by_cases q : i < l.length
    · rw [e1 i q]; exact h.all i q
    · by_cases q2 : i = l.length
      · rw [q2, e2]; exact .inr rfl
      · rw [e3 i (by omega)]; exact .inl (ha _ (by omega))
  · rw [hlen] at hi ⊢
    by_cases q : i ≤ l.length
    · have hh : i = 0 ∨ lb l (i - 1) = 47 := by
        rcases hs with hs | hs
        · exact .inl hs
        · by_cases z : i = 0
          · exact .inl z
          · rw [e1 (i - 1) (by omega)] at hs; exact .inr hs
      have := h.st i q hh
      rw [e1 i this.1]
      exact ⟨by omega, this.2⟩
    · by_cases q2 : i = l.length + 1
      · rw [q2, e3 _ (by omega), Nat.sub_self]
        have := ha 0 (by omega)
        exact ⟨by omega, by omega⟩
      · rcases hs with hs | hs
        · omega
        · rw [e3 _ (by omega)] at hs
          have := ha (i - 1 - (l.length + 1)) (by omega)
          omega

theorem seg_more {t : List UInt8} {f j : Nat} (h : segL t f j) (h1 : f < t.length) (h2 : lb t f ≠ 47) : f < j := by
  obtain ⟨a, b, c, d, e⟩ := h
  rcases d with d | d
  · omega
  · by_cases q : f = j
    · subst q; exact absurd d h2
    · omega

/-- The bytes of a text, in which b stands at k of the name l. -/
structure Ins (s : ByteArray) (l b : List UInt8) (k : Nat) : Prop where
  nm : Nm l
  kl : k ≤ l.length
  eq : s.data.toList = l.take k ++ b ++ l.drop k
theorem Ins.size {s : ByteArray} {l b : List UInt8} {k : Nat} (h : Ins s l b k) : s.size = l.length + b.length := by
  rw [Lib.size_eq, h.eq]
  simp only [List.length_append, List.length_take, List.length_drop]
  have := h.kl
  omega
theorem Ins.len {s : ByteArray} {l b : List UInt8} {k : Nat} (h : Ins s l b k) : s.data.toList.length = l.length + b.length := by rw [← Lib.size_eq]; exact h.size
theorem Ins.tk {s : ByteArray} {l b : List UInt8} {k : Nat} (h : Ins s l b k) : (l.take k).length = k := by rw [List.length_take]; have := h.kl; omega
theorem Ins.a {s : ByteArray} {l b : List UInt8} {k : Nat} (h : Ins s l b k) {i : Nat} (hi : i < k) : lb s.data.toList i = lb l i := by
  rw [h.eq, List.append_assoc, lb_left (by rw [h.tk]; exact hi), lb_take hi]
theorem Ins.b {s : ByteArray} {l b : List UInt8} {k : Nat} (h : Ins s l b k) {i : Nat} (h2 : i < b.length) : lb s.data.toList (k + i) = lb b i := by
  rw [h.eq, List.append_assoc, lb_right (by rw [h.tk]; omega), h.tk, Nat.add_sub_cancel_left, lb_left h2]
theorem Ins.c {s : ByteArray} {l b : List UInt8} {k : Nat} (h : Ins s l b k) {i : Nat} (h1 : k + b.length ≤ i) : lb s.data.toList i = lb l (i - b.length) := by
  rw [h.eq, lb_right (by rw [List.length_append, h.tk]; exact h1), List.length_append, h.tk, lb_drop]
  congr 1
  omega
theorem Ins.last {s : ByteArray} {l b : List UInt8} {k : Nat} (h : Ins s l b k) (hb : 1 ≤ b.length) (hz : lb b (b.length - 1) ≠ 47 ∨ k < l.length) : rl s.data.toList = s.data.toList := by
  unfold rl
  rw [if_neg]
  rw [h.len]
  by_cases q : k < l.length
  · rw [h.c (by omega), show l.length + b.length - 1 - b.length = l.length - 1 by omega]
    exact h.nm.last
  · have hk : k = l.length := by have := h.kl; omega
    rw [show l.length + b.length - 1 = k + (b.length - 1) by omega, h.b (by omega)]
    exact hz.resolve_right q
end Go.Proofs.YtjjepgkcgbbmhacDoor

