import Derived.Test.YtjjepgkcgbbmhacDoorGNpd
namespace Go.Proofs.YtjjepgkcgbbmhacDoor
set_option linter.unusedVariables false
set_option linter.unusedSimpArgs false

/-! Names that are made of plain parts, in numbers. -/
def seg (t : ByteArray) (f j : Nat) : Prop := f ≤ j ∧ j ≤ t.size ∧ (f = 0 ∨ bt t (f - 1) = 47) ∧ (j = t.size ∨ bt t j = 47) ∧ ∀ i, f ≤ i → i < j → bt t i ≠ 47

theorem ex_next (t : ByteArray) : ∀ n f, f + n = t.size → ∃ j, f ≤ j ∧ j ≤ t.size ∧ (j = t.size ∨ bt t j = 47) ∧ ∀ i, f ≤ i → i < j → bt t i ≠ 47
  | 0, f, h => ⟨f, Nat.le_refl _, by omega, .inl (by omega), fun i h1 h2 => by omega⟩
  | n + 1, f, h => by
    by_cases hb : bt t f = 47
    · exact ⟨f, Nat.le_refl _, by omega, .inr hb, fun i h1 h2 => by omega⟩
    · obtain ⟨j, h1, h2, h3, h4⟩ := ex_next t n (f + 1) (by omega)
      refine ⟨j, by omega, h2, h3, fun i h5 h6 => ?_⟩
      by_cases e : i = f
      · rw [e]; exact hb
      · exact h4 i (by omega) h6

theorem dps_all (t : ByteArray) (h : ∀ f j, seg t f j → prt (t.extract f j) = true) : ∀ n f, t.size ≤ f + n → f ≤ t.size → (f = 0 ∨ bt t (f - 1) = 47) → dps t (t.size + 1 - f) f f = true
  | n, f, hn, hf, hs => by
    obtain ⟨j, h1, h2, h3, h4⟩ := ex_next t (t.size - f) f (by omega)
    rw [dps_scan t f j h2 h3 (j - f) f (by omega) h4, h f j ⟨h1, h2, hs, h3, h4⟩, Bool.true_and]
    by_cases hj : j = t.size
    · rw [hj, Nat.sub_self]
      rfl
    · cases n with
      | zero => omega
      | succ n =>
        have := dps_all t h n (j + 1) (by omega) (by omega) (.inr (by rw [Nat.add_sub_cancel]; exact h3.resolve_left hj))
        rwa [show t.size + 1 - (j + 1) = t.size - j by omega] at this
theorem dps_one (t : ByteArray) {f j : Nat} (hs : seg t f j) (hp : prt (t.extract f j) = false) : ∀ n g, f ≤ g + n → g ≤ f → (g = 0 ∨ bt t (g - 1) = 47) → dps t (t.size + 1 - g) g g = false
  | n, g, hn, hg, hst => by
    obtain ⟨s1, s2, s3, s4, s5⟩ := hs
    obtain ⟨k, h1, h2, h3, h4⟩ := ex_next t (t.size - g) g (by omega)
    rw [dps_scan t g k h2 h3 (k - g) g (by omega) h4]
    by_cases e : g = f
    · subst e
      have : k = j := by
        by_cases q : k < j
        · rcases h3 with h3 | h3
          · omega
          · exact absurd h3 (s5 k h1 q)
        · by_cases q2 : j < k
          · rcases s4 with s4 | s4
            · omega
            · exact absurd s4 (h4 j s1 q2)
          · omega
      rw [this, hp, Bool.false_and]
    · have hk : k < f := by
        rcases s3 with s3 | s3
        · omega
        · by_cases q : k < f
          · exact q
          · exact absurd s3 (h4 (f - 1) (by omega) (by omega))
      cases n with
      | zero => omega
      | succ n =>
        have := dps_one t ⟨s1, s2, s3, s4, s5⟩ hp n (k + 1) (by omega) (by omega) (.inr (by rw [Nat.add_sub_cancel]; exact h3.resolve_left (by omega)))
        rw [show t.size + 1 - (k + 1) = t.size - k by omega] at this
        rw [this, Bool.and_false]

theorem cut_list (t : ByteArray) (f j : Nat) : (t.extract f j).toList = (t.data.toList.drop f).take (j - f) := Lib.extract_toList t f j
theorem cut_at (t : ByteArray) {f j i : Nat} (h1 : f + i < j) (h2 : j ≤ t.size) : ∃ x : UInt8, (t.extract f j).toList[i]? = some x ∧ x.toNat = bt t (f + i) := by
  obtain ⟨x, hx, hb⟩ := bt_list t (f + i) (by omega)
  refine ⟨x, ?_, hb⟩
  rw [cut_list, List.getElem?_take_of_lt (by omega), List.getElem?_drop, hx]
theorem cut_size (t : ByteArray) {f j : Nat} (h1 : f ≤ j) (h2 : j ≤ t.size) : (t.extract f j).toList.length = j - f := by
  rw [cut_list, List.length_take, List.length_drop, ← Lib.size_eq]
  omega
theorem prt_yes (t : ByteArray) {f j i : Nat} (h1 : f ≤ i) (h2 : i < j) (h3 : j ≤ t.size) (hb : bt t i ≠ 46) : prt (t.extract f j) = true := by
  obtain ⟨x, hx, hxb⟩ := cut_at t (f := f) (i := i - f) (by omega) h3
  rw [show f + (i - f) = i by omega] at hxb
  have hx46 : x ≠ 46 := fun e => hb (by rw [← hxb, e]; rfl)
  unfold prt
  rw [Bool.not_eq_true']
  generalize (t.extract f j).toList = l at hx
  have hm : x ∈ l := List.mem_of_getElem? hx
  simp only [Bool.or_eq_false_iff, beq_eq_false_iff_ne]
  refine ⟨⟨fun e => ?_, fun e => ?_⟩, fun e => ?_⟩ <;> rw [e] at hm <;> simp at hm <;> exact hx46 hm
theorem prt_empty (t : ByteArray) (f : Nat) : prt (t.extract f f) = false := by
  unfold prt
  rw [cut_list]
  simp
theorem u46 {x : UInt8} (h : x.toNat = 46) : x = 46 := UInt8.toNat_inj.1 h
theorem prt_dot (t : ByteArray) {f : Nat} (h2 : f + 1 ≤ t.size) (hb : bt t f = 46) : prt (t.extract f (f + 1)) = false := by
  obtain ⟨x, hx, hxb⟩ := cut_at t (f := f) (j := f + 1) (i := 0) (by omega) h2
  have hl := cut_size t (f := f) (j := f + 1) (by omega) h2
  unfold prt
  generalize (t.extract f (f + 1)).toList = l at hx hl
  match l, hl with
  | [y], _ =>
    simp at hx
    have : y = 46 := u46 (by rw [hx, hxb]; exact hb)
    rw [this]
    rfl
  | [], hl => simp at hl
  | _ :: _ :: _, hl => simp at hl
theorem prt_dots (t : ByteArray) {f : Nat} (h2 : f + 2 ≤ t.size) (hb : bt t f = 46) (hb2 : bt t (f + 1) = 46) : prt (t.extract f (f + 2)) = false := by
  obtain ⟨x, hx, hxb⟩ := cut_at t (f := f) (j := f + 2) (i := 0) (by omega) h2
  obtain ⟨z, hz, hzb⟩ := cut_at t (f := f) (j := f + 2) (i := 1) (by omega) h2
  have hl := cut_size t (f := f) (j := f + 2) (by omega) h2
  unfold prt
  generalize (t.extract f (f + 2)).toList = l at hx hz hl
  match l, hl with
  | [y, y2], _ =>
    simp at hx hz
    have e1 : y = 46 := u46 (by rw [hx, hxb]; exact hb)
    have e2 : y2 = 46 := u46 (by rw [hz, hzb]; exact hb2)
    rw [e1, e2]
    rfl
  | [], hl => simp at hl
  | [_], hl => simp at hl
  | _ :: _ :: _ :: _, hl => simp at hl

theorem fmd_skip (s : ByteArray) {q : Nat} (hq : q ≤ s.size) : ∀ n p, p ≤ q → s.size ≤ p + n → (∀ i, p ≤ i → i < q → bt s i ≤ 127) → fmd s n p = fmd s (n - (q - p)) q
  | 0, p, h1, h2, h3 => by
    obtain rfl : p = q := by omega
    simp
  | n + 1, p, h1, h2, h3 => by
    by_cases e : p = q
    · subst e; simp
    · have hl : ltn s p = 1 := by unfold ltn; rw [if_pos (h3 p (Nat.le_refl _) (by omega))]
      have ih := fmd_skip s hq n (p + 1) (by omega) (by omega) (fun i a b => h3 i (by omega) b)
      rw [fmd, if_pos (by omega), if_neg (by omega), hl, ih, show n - (q - (p + 1)) = n + 1 - (q - p) by omega]
theorem fmd_end (s : ByteArray) (n : Nat) : fmd s n s.size = true := by
  cases n with
  | zero => rfl
  | succ n => rw [fmd, if_neg (by omega)]
theorem fmd_ascii (s : ByteArray) (h : ∀ i, i < s.size → bt s i ≤ 127) : fmd s s.size 0 = true := by
  rw [fmd_skip s (Nat.le_refl s.size) s.size 0 (by omega) (by omega) (fun i _ b => h i b)]
  exact fmd_end s _
/-- One letter of more bytes among plain ones. -/
theorem fmd_one (s : ByteArray) {k m : Nat} (hm : 0 < m) (hk : k + m ≤ s.size) (hl : ltn s k = m) (h1 : ∀ i, i < k → bt s i ≤ 127) (h2 : ∀ i, k + m ≤ i → i < s.size → bt s i ≤ 127) : fmd s s.size 0 = true := by
  rw [fmd_skip s (q := k) (by omega) s.size 0 (by omega) (by omega) (fun i _ b => h1 i b)]
  rw [show s.size - (k - 0) = (s.size - k - 1) + 1 by omega, fmd, if_pos (by omega), if_neg (by omega), hl]
  rw [fmd_skip s (Nat.le_refl s.size) _ (k + m) hk (by omega) (fun i a b => h2 i a b)]
  exact fmd_end s _
theorem fmd_none (s : ByteArray) {k : Nat} (hk : k < s.size) (hl : ltn s k = 0) (h1 : ∀ i, i < k → bt s i ≤ 127) : fmd s s.size 0 = false := by
  rw [fmd_skip s (q := k) (by omega) s.size 0 (by omega) (by omega) (fun i _ b => h1 i b)]
  rw [show s.size - (k - 0) = (s.size - k - 1) + 1 by omega, fmd, if_pos hk, if_pos hl]

theorem nm_yes (s : ByteArray) (h1 : 1 ≤ s.size) (h2 : s.size ≤ 65535) (hf : fmd s s.size 0 = true) (hg : ∀ i, i < s.size → gdb s i) (hp : ∀ f j, seg (rst s) f j → ∃ i, f ≤ i ∧ i < j ∧ bt (rst s) i ≠ 46) : nmE s = 0 := by
  rw [names_eq]
  refine if_pos ⟨h1, h2, hf, hg, ?_⟩
  have := dps_all (rst s) (fun f j hs => by obtain ⟨i, a, b, c⟩ := hp f j hs; exact prt_yes _ a b hs.2.1 c) (rst s).size 0 (by omega) (by omega) (.inl rfl)
  exact this
theorem nm_byte (s : ByteArray) {i : Nat} (hi : i < s.size) (h : ¬ gdb s i) : nmE s = 120 := by
  rw [names_eq]
  exact if_neg (fun q => h (q.2.2.2.1 i hi))
theorem nm_form (s : ByteArray) (h : fmd s s.size 0 = false) : nmE s = 120 := by
  rw [names_eq]
  exact if_neg (fun q => by rw [h] at q; exact absurd q.2.2.1 (by decide))
theorem nm_seg (s : ByteArray) {f j : Nat} (hs : seg (rst s) f j) (hp : prt ((rst s).extract f j) = false) : nmE s = 120 := by
  rw [names_eq]
  refine if_neg (fun q => ?_)
  have := dps_one (rst s) hs hp f 0 (by omega) (by omega) (.inl rfl)
  rw [Nat.sub_zero] at this
  rw [this] at q
  exact absurd q.2.2.2.2 (by decide)
end Go.Proofs.YtjjepgkcgbbmhacDoor

