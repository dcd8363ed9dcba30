import Derived.Test.YtjjepgkcgbbmhacDoorGNpr
namespace Go.Proofs.YtjjepgkcgbbmhacDoor
set_option linter.unusedVariables false
set_option linter.unusedSimpArgs false

def badL : Nat → List UInt8
  | 0 => [0] | 1 => [31] | 2 => [10] | 3 => [127] | 4 => [92] | 5 => [47, 47] | 6 => [128] | 7 => [194] | 8 => [255] | 9 => [192, 128] | 10 => [237, 160, 128] | 11 => [244, 144, 128, 128] | 12 => [226, 130] | _ => [47, 46, 47]
def goodL : Nat → List UInt8
  | 0 => [195, 169] | 1 => [239, 191, 189] | 2 => [32] | 3 => [226, 130, 172] | 4 => [240, 159, 152, 128] | 5 => [46, 46] | _ => [126]

section
variable {s : ByteArray} {l b : List UInt8} {k : Nat}

theorem Ins.scd1 (h : Ins s l b k) (hb : b.length = 1) : scd s k ≤ 122 := by
  unfold scd
  split
  · exact h.aft (by omega) (by assumption)
  · omega
theorem Ins.scd2 (h : Ins s l b k) (hb : 2 ≤ b.length) : scd s k = lb b 1 := by
  unfold scd
  have := h.size
  have := h.kl
  rw [if_pos (by omega), h.btb (by omega)]
theorem Ins.b0 (h : Ins s l b k) (hb : 1 ≤ b.length) : bt s k = lb b 0 := by
  have := h.btb (i := 0) (by omega)
  rwa [Nat.add_zero] at this
theorem Ins.amgT (h : Ins s l b k) {i : Nat} (hi : i < b.length) (h1 : 128 ≤ lb b i) (h2 : lb b i ≤ 191) : amg s (k + i) 128 191 = true := by
  unfold amg
  have := h.size
  have := h.kl
  rw [h.btb hi]
  exact decide_eq_true ⟨by omega, h1, h2⟩
theorem Ins.amgF (h : Ins s l b k) {i : Nat} (hi : k + b.length ≤ i) : amg s i 128 191 = false := by
  unfold amg
  refine decide_eq_false (fun q => ?_)
  have := h.aft hi q.1
  omega

theorem bad_all {t : Nat} (ht : t < 14) (h : Ins s l (badL t) k) : nmE s = 120 := by
  have hk := h.kl
  have hz := h.size
  have hp := h.nm.pos
  match t, ht with
  | 0, _ => exact ins_byte h (by decide) (by decide)
  | 1, _ => exact ins_byte h (by decide) (by decide)
  | 2, _ => exact ins_byte h (by decide) (by decide)
  | 3, _ => exact ins_byte h (by decide) (by decide)
  | 4, _ => exact ins_byte h (by decide) (by decide)
  | 5, _ =>
    have e0 := h.b (i := 0) (by decide)
    have e1 := h.b (i := 1) (by decide)
    rw [Nat.add_zero] at e0
    have hb : (badL 5).length = 2 := rfl
    exact bad_at s (by omega) (f := k + 1) (j := k + 1) (Nat.le_refl _) (.inr (by rw [Nat.add_sub_cancel]; exact e0)) (.inl ⟨by omega, e1⟩) (.inl rfl)
  | 6, _ =>
    have e0 := h.b0 (by decide)
    exact ins_form h (by decide) (by unfold ltn; rw [e0, show lb (badL 6) 0 = 128 from rfl]; simp)
  | 7, _ =>
    have e0 := h.b0 (by decide)
    have e1 := h.scd1 rfl
    refine ins_form h (by decide) ?_
    unfold ltn
    rw [e0, show lb (badL 7) 0 = 194 from rfl]
    rw [if_neg (by omega), if_neg (by omega)]
    simp
  | 8, _ =>
    have e0 := h.b0 (by decide)
    exact ins_form h (by decide) (by unfold ltn; rw [e0, show lb (badL 8) 0 = 255 from rfl]; simp)
  | 9, _ =>
    have e0 := h.b0 (by decide)
    exact ins_form h (by decide) (by unfold ltn; rw [e0, show lb (badL 9) 0 = 192 from rfl]; simp)
  | 10, _ =>
    have e0 := h.b0 (by decide)
    have e1 := h.scd2 (by decide)
    exact ins_form h (by decide) (by unfold ltn; rw [e0, e1, show lb (badL 10) 0 = 237 from rfl, show lb (badL 10) 1 = 160 from rfl]; simp)
  | 11, _ =>
    have e0 := h.b0 (by decide)
    have e1 := h.scd2 (by decide)
    exact ins_form h (by decide) (by unfold ltn; rw [e0, e1, show lb (badL 11) 0 = 244 from rfl, show lb (badL 11) 1 = 144 from rfl]; simp)
  | 12, _ =>
    have e0 := h.b0 (by decide)
    have e2 := h.amgF (i := k + 1 + 1) (by show k + 2 ≤ _; omega)
    exact ins_form h (by decide) (by unfold ltn; rw [e0, show lb (badL 12) 0 = 226 from rfl]; simp [tls, e2])
  | 13, _ =>
    have e0 := h.b (i := 0) (by decide)
    have e1 := h.b (i := 1) (by decide)
    have e2 := h.b (i := 2) (by decide)
    rw [Nat.add_zero] at e0
    have hb : (badL 13).length = 3 := rfl
    exact bad_at s (by omega) (f := k + 1) (j := k + 2) (by omega) (.inr (by rw [Nat.add_sub_cancel]; exact e0)) (.inl ⟨by omega, e2⟩) (.inr (.inl ⟨rfl, e1⟩))
theorem good_all {t : Nat} (ht : t < 7) (hn : t ≠ 5) (h : Ins s l (goodL t) k) (hl : l.length ≤ 60700) : nmE s = 0 := by
  match t, ht, hn with
  | 0, _, _ =>
    have e0 := h.b0 (by decide)
    have e1 := h.scd2 (by decide)
    refine ins_yes h (by show _ + 2 ≤ _; omega) (ins_fmd h (by decide) ?_) (by decide) (by decide) (.inl (by decide))
    unfold ltn
    rw [e0, e1, show lb (goodL 0) 0 = 195 from rfl, show lb (goodL 0) 1 = 169 from rfl]
    rfl
  | 1, _, _ =>
    have e0 := h.b0 (by decide)
    have e1 := h.amgT (i := 1) (by decide) (by decide) (by decide)
    have e2 := h.amgT (i := 2) (by decide) (by decide) (by decide)
    refine ins_yes h (by show _ + 3 ≤ _; omega) (ins_fmd h (by decide) ?_) (by decide) (by decide) (.inl (by decide))
    unfold ltn
    rw [e0, show lb (goodL 1) 0 = 239 from rfl]
    simp [tls, e1, e2]
    rfl
  | 2, _, _ => exact ins_yes h (by show _ + 1 ≤ _; omega) (ins_ascii h (by decide)) (by decide) (by decide) (.inl (by decide))
  | 3, _, _ =>
    have e0 := h.b0 (by decide)
    have e1 := h.amgT (i := 1) (by decide) (by decide) (by decide)
    have e2 := h.amgT (i := 2) (by decide) (by decide) (by decide)
    refine ins_yes h (by show _ + 3 ≤ _; omega) (ins_fmd h (by decide) ?_) (by decide) (by decide) (.inl (by decide))
    unfold ltn
    rw [e0, show lb (goodL 3) 0 = 226 from rfl]
    simp [tls, e1, e2]
    rfl
  | 4, _, _ =>
    have e0 := h.b0 (by decide)
    have e1 := h.scd2 (by decide)
    have e2 := h.amgT (i := 2) (by decide) (by decide) (by decide)
    have e3 := h.amgT (i := 3) (by decide) (by decide) (by decide)
    refine ins_yes h (by show _ + 4 ≤ _; omega) (ins_fmd h (by decide) ?_) (by decide) (by decide) (.inl (by decide))
    unfold ltn
    rw [e0, e1, show lb (goodL 4) 0 = 240 from rfl, show lb (goodL 4) 1 = 159 from rfl]
    simp [tls, e2, e3]
    rfl
  | 6, _, _ => exact ins_yes h (by show _ + 1 ≤ _; omega) (ins_ascii h (by decide)) (by decide) (by decide) (.inl (by decide))

/-- The name itself, and with something behind it or ahead. -/
theorem own_yes (h : Ins s l [] k) (hl : l.length ≤ 60700) : nmE s = 0 := ins_yes h (by show _ + 0 ≤ _; omega) (ins_ascii h (by simp)) (by simp) (by simp) (.inl (by decide))
theorem dots_yes (h : Ins s l [46, 46, 46] l.length) (hl : l.length ≤ 60700) : nmE s = 0 := ins_yes h (by show _ + 3 ≤ _; omega) (ins_ascii h (by decide)) (by decide) (by decide) (.inr rfl)
theorem slash_yes (h : Ins s l [47] l.length) (hl : l.length ≤ 60700) : nmE s = 0 := by
  have hz := h.size
  have hb : ([47] : List UInt8).length = 1 := rfl
  have e0 := h.b (i := 0) (by decide)
  rw [Nat.add_zero] at e0
  have hR : rl s.data.toList = l := by
    unfold rl
    rw [h.len, hb, Nat.add_sub_cancel, if_pos (show lb s.data.toList l.length = 47 from e0), h.eq]
    simp
  refine nm_yesL s (by omega) (by omega) (ins_ascii h (by decide)) (h.gd (by decide)) ?_
  rw [hR]
  intro f j hs
  have hk := h.nm.st f (by have := hs.1; have := hs.2.1; omega) hs.2.2.1
  exact ⟨f, Nat.le_refl _, seg_more hs hk.1 hk.2, h.nm.nodot f⟩
theorem dota_yes (h : Ins s l [47, 46, 46, 97] l.length) (hl : l.length ≤ 60700) : nmE s = 0 := by
  have hz := h.size
  have hb : ([47, 46, 46, 97] : List UInt8).length = 4 := rfl
  have hR := h.last (by decide) (.inl (by decide))
  refine nm_yesL s (by omega) (by omega) (ins_ascii h (by decide)) (h.gd (by decide)) ?_
  rw [hR]
  intro f j hs
  have hlen := h.len
  rw [hb] at hlen
  have hs0 := hs
  obtain ⟨a1, a2, a3, a4, a5⟩ := hs
  have e0 := h.b (i := 0) (by decide)
  have e1 := h.b (i := 1) (by decide)
  have e2 := h.b (i := 2) (by decide)
  have e3 := h.b (i := 3) (by decide)
  by_cases q : f ≤ l.length
  · have hst : f = 0 ∨ lb l (f - 1) = 47 := by
      rcases a3 with a3 | a3
      · exact .inl a3
      · by_cases z : f = 0
        · exact .inl z
        · rw [h.a (by omega)] at a3; exact .inr a3
    have hk := h.nm.st f q hst
    have ef := h.a hk.1
    exact ⟨f, Nat.le_refl _, seg_more hs0 (by omega) (by rw [ef]; exact hk.2), by rw [ef]; exact h.nm.nodot f⟩
  · have a3' := a3.resolve_left (by omega)
    have hf : f = l.length + 1 := by
      by_cases z2 : f = l.length + 2
      · subst z2; rw [show l.length + 2 - 1 = l.length + 1 by omega, e1] at a3'; exact absurd a3' (by decide)
      · by_cases z3 : f = l.length + 3
        · subst z3; rw [show l.length + 3 - 1 = l.length + 2 by omega, e2] at a3'; exact absurd a3' (by decide)
        · by_cases z4 : f = l.length + 4
          · subst z4; rw [show l.length + 4 - 1 = l.length + 3 by omega, e3] at a3'; exact absurd a3' (by decide)
          · omega
    subst hf
    have hj : j = l.length + 4 := by
      rcases a4 with a4 | a4
      · omega
      · by_cases z1 : j = l.length + 1
        · subst z1; rw [e1] at a4; exact absurd a4 (by decide)
        · by_cases z2 : j = l.length + 2
          · subst z2; rw [e2] at a4; exact absurd a4 (by decide)
          · by_cases z3 : j = l.length + 3
            · subst z3; rw [e3] at a4; exact absurd a4 (by decide)
            · omega
    exact ⟨l.length + 3, by omega, by omega, by rw [e3]; decide⟩
theorem slash_no (h : Ins s l [47] 0) : nmE s = 120 := by
  have hz := h.size
  have hb : ([47] : List UInt8).length = 1 := rfl
  have e0 := h.b (i := 0) (by decide)
  exact bad_at s (by omega) (f := 0) (j := 0) (Nat.le_refl _) (.inl rfl) (.inl ⟨by have := h.nm.pos; omega, e0⟩) (.inl rfl)
theorem slashes_no (h : Ins s l [47, 47] l.length) : nmE s = 120 := bad_all (t := 5) (by decide) h
theorem dot_no (h : Ins s l [47, 46] l.length) : nmE s = 120 := by
  have hz := h.size
  have hb : ([47, 46] : List UInt8).length = 2 := rfl
  have e0 := h.b (i := 0) (by decide)
  have e1 := h.b (i := 1) (by decide)
  rw [Nat.add_zero] at e0
  exact bad_at s (by omega) (f := l.length + 1) (j := l.length + 2) (by omega) (.inr (by rw [Nat.add_sub_cancel]; exact e0)) (.inr ⟨by omega, by rw [hz, hb, show l.length + 2 - 1 = l.length + 1 by omega, e1]; decide⟩) (.inr (.inl ⟨rfl, e1⟩))
theorem dots_no (h : Ins s l [46, 46, 47] 0) : nmE s = 120 := by
  have hz := h.size
  have hb : ([46, 46, 47] : List UInt8).length = 3 := rfl
  have e0 := h.b (i := 0) (by decide)
  have e1 := h.b (i := 1) (by decide)
  have e2 := h.b (i := 2) (by decide)
  rw [Nat.zero_add] at e0 e1 e2
  exact bad_at s (by omega) (f := 0) (j := 2) (by omega) (.inl rfl) (.inl ⟨by omega, e2⟩) (.inr (.inr ⟨rfl, e0, e1⟩))
theorem up_no (h : Ins s l [47, 46, 46, 47, 98, 47] l.length) : nmE s = 120 := by
  have hz := h.size
  have hb : ([47, 46, 46, 47, 98, 47] : List UInt8).length = 6 := rfl
  have e0 := h.b (i := 0) (by decide)
  have e1 := h.b (i := 1) (by decide)
  have e2 := h.b (i := 2) (by decide)
  have e3 := h.b (i := 3) (by decide)
  rw [Nat.add_zero] at e0
  exact bad_at s (by omega) (f := l.length + 1) (j := l.length + 3) (by omega) (.inr (by rw [Nat.add_sub_cancel]; exact e0)) (.inl ⟨by omega, e3⟩) (.inr (.inr ⟨rfl, e1, e2⟩))
end
end Go.Proofs.YtjjepgkcgbbmhacDoor

