import Derived.Test.YtjjepgkcgbbmhacDoorGNle
import Derived.Test.YtjjepgkcgbbmhacDoorGNck
namespace Go.Proofs.YtjjepgkcgbbmhacDoor
set_option linter.unusedVariables false

/-- The document's look at the parts of t: n rounds are left, the part under way begins at f, i is looked at. -/
def dps (t : ByteArray) : Nat → Nat → Nat → Bool
  | 0, _, _ => true
  | n + 1, f, i => if i = t.size ∨ bt t i = 47 then prt (t.extract f i) && dps t n (i + 1) (i + 1) else dps t n f (i + 1)
def rst (s : ByteArray) : ByteArray := if bt s (s.size - 1) = 47 then s.extract 0 (s.size - 1) else s
instance (s : ByteArray) (i : Nat) : Decidable (gdb s i) := by unfold gdb; infer_instance
def dnE (s : ByteArray) : Int := if 1 ≤ s.size ∧ s.size ≤ 65535 ∧ fmd s s.size 0 = true ∧ (∀ i, i < s.size → gdb s i) ∧ dps (rst s) ((rst s).size + 1) 0 0 = true then 0 else 120

theorem idx_no (c : UInt8) : ∀ (l : List UInt8), Lib.index l [c] = -1 → ∀ k : Nat, l[k]? ≠ some c
  | [], _, k => by simp
  | b :: l, h, k => by
    have hg := Lib.index_ge l [c]
    unfold Lib.index at h
    by_cases hp : ([c] : List UInt8).isPrefixOf (b :: l) = true
    · rw [if_pos hp] at h; exact absurd h (by decide)
    · rw [if_neg hp] at h
      have hb : b ≠ c := fun e => hp (by rw [e]; simp [List.isPrefixOf])
      have hl : Lib.index l [c] = -1 := by
        by_cases e : (Lib.index l [c] == -1) = true
        · exact beq_iff_eq.1 e
        · rw [if_neg e] at h; omega
      cases k with
      | zero => simp; exact hb
      | succ k => simpa using idx_no c l hl k
theorem idx_at (c : UInt8) : ∀ (l : List UInt8) (i : Nat), Lib.index l [c] = (i : Int) → l[i]? = some c ∧ ∀ k : Nat, k < i → l[k]? ≠ some c
  | [], i, h => by
    have h' : (-1 : Int) = (i : Int) := h
    omega
  | b :: l, i, h => by
    have hg := Lib.index_ge l [c]
    unfold Lib.index at h
    by_cases hp : ([c] : List UInt8).isPrefixOf (b :: l) = true
    · rw [if_pos hp] at h
      obtain rfl : i = 0 := by omega
      have : b = c := by
        have q : (c == b && true) = true := hp
        rw [Bool.and_true, beq_iff_eq] at q
        exact q.symm
      rw [this]
      exact ⟨rfl, fun k hk => absurd hk (by omega)⟩
    · rw [if_neg hp] at h
      have hb : b ≠ c := fun e => hp (by rw [e]; simp [List.isPrefixOf])
      by_cases e : (Lib.index l [c] == -1) = true
      · rw [if_pos e] at h; omega
      · rw [if_neg e] at h
        obtain ⟨j, rfl⟩ : ∃ j, i = j + 1 := ⟨i - 1, by have : Lib.index l [c] ≠ -1 := fun q => e (beq_iff_eq.2 q); omega⟩
        have ih := idx_at c l j (by omega)
        refine ⟨by simpa using ih.1, fun k hk => ?_⟩
        cases k with
        | zero => simp; exact hb
        | succ k => simpa using ih.2 k (by omega)

theorem bt_cut (t : ByteArray) (f k : Nat) (h : f + k < t.size) : (t.extract f t.size).data.toList[k]? = some (t.get! (f + k)) := by
  obtain ⟨x, h1, h2⟩ := bt_list t (f + k) h
  rw [Lib.extract_to_end, List.getElem?_drop, h1]
  congr 1
  exact UInt8.toNat_inj.1 h2
theorem dps_scan (t : ByteArray) (f j : Nat) (hj : j ≤ t.size) (he : j = t.size ∨ bt t j = 47) : ∀ n i, i + n = j → (∀ k, i ≤ k → k < j → bt t k ≠ 47) →
    dps t (t.size + 1 - i) f i = (prt (t.extract f j) && dps t (t.size - j) (j + 1) (j + 1))
  | 0, i, hn, hk => by
    obtain rfl : i = j := by omega
    rw [show t.size + 1 - i = (t.size - i) + 1 by omega]
    simp only [dps, if_pos he]
  | n + 1, i, hn, hk => by
    have ih := dps_scan t f j hj he n (i + 1) (by omega) (fun k h1 h2 => hk k (by omega) h2)
    rw [← ih, show t.size + 1 - i = (t.size + 1 - (i + 1)) + 1 by omega]
    have : ¬ (i = t.size ∨ bt t i = 47) := by
      rintro (h | h)
      · omega
      · exact hk i (Nat.le_refl _) (by omega) h
    simp only [dps, if_neg this]
theorem cut_cut (t : ByteArray) (f a b : Nat) (hf : f ≤ t.size) (hb : f + b ≤ t.size) : (t.extract f t.size).extract a b = t.extract (f + a) (f + b) := by
  apply ByteArray.ext
  simp only [ByteArray.data_extract, Array.extract_extract]
  congr 1
  omega
theorem splits_eq (t : ByteArray) : ∀ n f, t.size ≤ f + n → f ≤ t.size →
    (Lib.splitB ⟨#[47]⟩ 0 (Lib.countB (t.extract f t.size) ⟨#[47]⟩) (t.extract f t.size)).all prt = dps t (t.size + 1 - f) f f
  | n, f, hn, hf => by
    have hsz : (t.extract f t.size).size = t.size - f := by simp [ByteArray.size_extract]
    have h47 : ∀ k, f + k < t.size → ((t.extract f t.size).data.toList[k]? ≠ some 47) → bt t (f + k) ≠ 47 := fun k hk h e => h (by rw [bt_cut t f k hk]; congr 1; exact UInt8.toNat_inj.1 e)
    rcases Lib.indexB_cases (t.extract f t.size) ⟨#[47]⟩ with h | ⟨i, h, hi⟩
    · have hno := idx_no 47 _ h
      rw [Lib.splitB_miss _ _ _ _ h, dps_scan t f t.size (Nat.le_refl _) (.inl rfl) (t.size - f) f (by omega) (fun k h1 h2 => by
        have := h47 (k - f) (by omega) (hno _)
        rwa [show f + (k - f) = k by omega] at this)]
      rw [Nat.sub_self]
      simp [dps]
    · have hat := idx_at 47 _ i h
      have hi' : i + 1 ≤ t.size - f := by rw [← hsz]; exact hi
      have hb : bt t (f + i) = 47 := by
        have q := hat.1
        rw [bt_cut t f i (by omega)] at q
        exact congrArg UInt8.toNat (Option.some.inj q)
      rw [Lib.countB_hit _ _ i (by decide) h, Nat.add_comm 1, Lib.splitB_hit _ _ _ _ i h]
      have e1 : (t.extract f t.size).extract (i + (⟨#[47]⟩ : ByteArray).size) (t.extract f t.size).size = t.extract (f + i + 1) t.size := by
        rw [hsz, cut_cut t f _ _ hf (by omega)]
        show t.extract (f + (i + 1)) (f + (t.size - f)) = _
        rw [show f + (i + 1) = f + i + 1 by omega, show f + (t.size - f) = t.size by omega]
      rw [e1, cut_cut t f _ _ hf (by omega), List.all_cons]
      cases n with
      | zero => omega
      | succ n =>
        rw [splits_eq t n (f + i + 1) (by omega) (by omega), dps_scan t f (f + i) (by omega) (.inr hb) i f rfl (fun k h1 h2 => by
          have := h47 (k - f) (by omega) (hat.2 _ (by omega))
          rwa [show f + (k - f) = k by omega] at this)]
        rw [show t.size + 1 - (f + i + 1) = t.size - (f + i) by omega]
        rfl
theorem trim_rst (s : ByteArray) (hs : 1 ≤ s.size) : (⟨(Lib.trimSuffix s.data.toList [47]).toArray⟩ : ByteArray) = rst s := by
  have hl : s.data.toList.length = s.size := (Lib.size_eq s).symm
  obtain ⟨x, h1, h2⟩ := bt_list s (s.size - 1) (by omega)
  have hx : s.data.toList = s.data.toList.take (s.size - 1) ++ [x] := by
    have := List.take_append_drop (s.size - 1) s.data.toList
    rw [← this]
    congr 1
    · simp
    · rw [List.drop_eq_getElem_cons (by omega)]
      rw [List.getElem?_eq_getElem (by omega)] at h1
      rw [Option.some.inj h1, List.drop_eq_nil_of_le (by omega)]
  have hsuf : Lib.hasSuffix s.data.toList [47] = decide (x = 47) := by
    unfold Lib.hasSuffix
    rw [hx]
    simp [List.isSuffixOf, List.isPrefixOf, BEq.comm]
    rfl
  unfold Lib.trimSuffix rst
  rw [hsuf, ← h2]
  by_cases e : x = 47
  · rw [if_pos (by simp [e]), if_pos (by rw [e]; rfl)]
    apply ByteArray.ext
    rw [hl]
    apply Array.ext'
    have := Lib.extract_from_zero s (s.size - 1)
    rw [this]
    rfl
  · rw [if_neg (by simp [e]), if_neg (show ¬ x.toNat = 47 from fun q => e (UInt8.toNat_inj.1 q))]
theorem names_eq (s : ByteArray) : nmE s = dnE s := by
  unfold nmE dnE nmB pts
  by_cases h0 : s.size = 0
  · have hR : ¬ (1 ≤ s.size ∧ s.size ≤ 65535 ∧ fmd s s.size 0 = true ∧ (∀ i, i < s.size → gdb s i) ∧ dps (rst s) ((rst s).size + 1) 0 0 = true) := fun h => by omega
    rw [if_neg hR, if_neg]
    intro h
    simp only [Bool.and_eq_true] at h
    have hl : s.data.toList = [] := List.length_eq_zero_iff.1 (by rw [← Lib.size_eq]; exact h0)
    have h2 := h.2
    rw [hl, show (Lib.trimSuffix [] [47] : List UInt8) = [] from rfl, Lib.splitB_miss _ _ _ _ (show Lib.indexB ⟨([] : List UInt8).toArray⟩ ⟨#[47]⟩ = -1 from rfl)] at h2
    simp [prt, ByteArray.toList, ByteArray.toList.loop, ByteArray.size] at h2
  · rw [trim_rst s (by omega)]
    have hS := splits_eq (rst s) (rst s).size 0 (by omega) (by omega)
    have hw : (rst s).extract 0 (rst s).size = rst s := by
      apply ByteArray.ext
      simp
    rw [hw] at hS
    rw [hS, Nat.sub_zero]
    have hL := lets_iff s s.size 0 (by omega)
    congr 1
    apply propext
    simp only [Bool.and_eq_true, decide_eq_true_eq, hL]
    constructor
    · rintro ⟨⟨h1, h2, h3⟩, h4⟩
      exact ⟨by omega, h1, h2, fun i hi => h3 i (Nat.zero_le _) hi, h4⟩
    · rintro ⟨h1, h2, h3, h4, h5⟩
      exact ⟨⟨h2, h3, fun i _ hi => h4 i hi⟩, h5⟩
end Go.Proofs.YtjjepgkcgbbmhacDoor

