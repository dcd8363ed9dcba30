import Derived.Test.YtjjepgkcgbbmhacDoorGNpq
namespace Go.Proofs.YtjjepgkcgbbmhacDoor
set_option linter.unusedVariables false
set_option linter.unusedSimpArgs false

theorem nm_yesL (s : ByteArray) (h1 : 1 ≤ s.size) (h2 : s.size ≤ 65535) (hf : fmd s s.size 0 = true) (hg : ∀ i, i < s.size → 32 ≤ lb s.data.toList i ∧ lb s.data.toList i ≠ 127 ∧ lb s.data.toList i ≠ 92)
    (hp : ∀ f j, segL (rl s.data.toList) f j → ∃ i, f ≤ i ∧ i < j ∧ lb (rl s.data.toList) i ≠ 46) : nmE s = 0 := by
  refine nm_yes s h1 h2 hf (fun i hi => by unfold gdb; rw [bt_lb s hi]; exact hg i hi) (fun f j hs => ?_)
  have hs' := (seg_l _).1 hs
  rw [rst_l s h1] at hs'
  obtain ⟨i, a, b, c⟩ := hp f j hs'
  refine ⟨i, a, b, ?_⟩
  rw [bt_lb _ (by have := hs.2.1; omega), rst_l s h1]
  exact c
theorem rl_le (l : List UInt8) : l.length - 1 ≤ (rl l).length ∧ (rl l).length ≤ l.length ∧ ∀ i, i < (rl l).length → lb (rl l) i = lb l i := by
  unfold rl
  split
  · rw [List.length_take]
    refine ⟨by omega, by omega, fun i hi => lb_take (by omega)⟩
  · exact ⟨by omega, Nat.le_refl _, fun i _ => rfl⟩
theorem bad_at (s : ByteArray) (hs : 1 ≤ s.size) {f j : Nat} (hfj : f ≤ j) (h0 : f = 0 ∨ lb s.data.toList (f - 1) = 47)
    (hj : (j < s.size ∧ lb s.data.toList j = 47) ∨ (j = s.size ∧ lb s.data.toList (s.size - 1) ≠ 47))
    (hd : j = f ∨ (j = f + 1 ∧ lb s.data.toList f = 46) ∨ (j = f + 2 ∧ lb s.data.toList f = 46 ∧ lb s.data.toList (f + 1) = 46)) : nmE s = 120 := by
  have hz : s.data.toList.length = s.size := (Lib.size_eq s).symm
  obtain ⟨r1, r2, r3⟩ := rl_le s.data.toList
  have hR := rst_l s hs
  have hsz : (rst s).size = (rl s.data.toList).length := by rw [Lib.size_eq, hR]
  have hjr : j ≤ (rl s.data.toList).length := by
    rcases hj with ⟨a, b⟩ | ⟨a, b⟩
    · omega
    · unfold rl; rw [hz, if_neg b]; omega
  have hv : ∀ i, i < j → lb (rl s.data.toList) i = lb s.data.toList i := fun i hi => r3 i (by omega)
  have hbv : ∀ i, i < j → bt (rst s) i = lb s.data.toList i := fun i hi => by rw [bt_lb _ (by omega), hR]; exact hv i hi
  have hseg : seg (rst s) f j := by
    rw [seg_l, hR]
    refine ⟨hfj, hjr, ?_, ?_, fun i a b => ?_⟩
    · rcases h0 with h0 | h0
      · exact .inl h0
      · by_cases e : f = 0
        · exact .inl e
        · right
          by_cases e2 : f - 1 < (rl s.data.toList).length
          · rw [r3 _ e2]; exact h0
          · omega
    · rcases hj with ⟨a, b⟩ | ⟨a, b⟩
      · by_cases e : j < (rl s.data.toList).length
        · exact .inr (by rw [r3 j e]; exact b)
        · exact .inl (by omega)
      · exact .inl (by omega)
    · rw [hv i b]
      rcases hd with hd | ⟨hd, q⟩ | ⟨hd, q, q2⟩
      · omega
      · obtain rfl : i = f := by omega
        omega
      · have : i = f ∨ i = f + 1 := by omega
        rcases this with rfl | rfl <;> omega
  refine nm_seg s hseg ?_
  rcases hd with hd | ⟨hd, q⟩ | ⟨hd, q, q2⟩
  · rw [hd]; exact prt_empty _ _
  · subst hd; exact prt_dot _ (by omega) (by rw [hbv f (by omega)]; exact q)
  · subst hd; exact prt_dots _ (by omega) (by rw [hbv f (by omega)]; exact q) (by rw [hbv (f + 1) (by omega)]; exact q2)

section
variable {s : ByteArray} {l b : List UInt8} {k : Nat}

theorem Ins.btb (h : Ins s l b k) {i : Nat} (hi : i < b.length) : bt s (k + i) = lb b i := by
  rw [bt_lb s (by rw [h.size]; have := h.kl; omega), h.b hi]
theorem Ins.aft (h : Ins s l b k) {i : Nat} (hi : k + b.length ≤ i) (hs : i < s.size) : bt s i ≤ 122 := by
  rw [bt_lb s hs, h.c hi]
  exact h.nm.low _
theorem Ins.bef (h : Ins s l b k) {i : Nat} (hi : i < k) : bt s i ≤ 127 := by
  rw [bt_lb s (by rw [h.size]; have := h.kl; omega), h.a hi]
  have := h.nm.low i
  omega
theorem Ins.gd (h : Ins s l b k) (hg : ∀ i, i < b.length → 32 ≤ lb b i ∧ lb b i ≠ 127 ∧ lb b i ≠ 92) : ∀ i, i < s.size → 32 ≤ lb s.data.toList i ∧ lb s.data.toList i ≠ 127 ∧ lb s.data.toList i ≠ 92 := fun i hi => by
  rw [h.size] at hi
  by_cases q : i < k
  · rw [h.a q]; have := h.nm.all i (by have := h.kl; omega); omega
  · by_cases q2 : i < k + b.length
    · rw [show i = k + (i - k) by omega, h.b (by omega)]; exact hg _ (by omega)
    · rw [h.c (by omega)]; have := h.nm.all (i - b.length) (by omega); omega

/-- What is put in is good. -/
theorem ins_yes (h : Ins s l b k) (hl : l.length + b.length ≤ 65535) (hf : fmd s s.size 0 = true) (hg : ∀ i, i < b.length → 32 ≤ lb b i ∧ lb b i ≠ 127 ∧ lb b i ≠ 92) (hns : ∀ i, i < b.length → lb b i ≠ 47) (hd : lb b 0 ≠ 46 ∨ k = l.length) : nmE s = 0 := by
  have hR : rl s.data.toList = s.data.toList := by
    by_cases hb : 1 ≤ b.length
    · exact h.last hb (.inl (hns _ (by omega)))
    · unfold rl
      rw [if_neg]
      rw [h.len]
      by_cases q : l.length - 1 < k
      · rw [show l.length + b.length - 1 = l.length - 1 by omega, h.a q]; exact h.nm.last
      · rw [h.c (by omega), show l.length + b.length - 1 - b.length = l.length - 1 by omega]; exact h.nm.last
  refine nm_yesL s (by rw [h.size]; have := h.nm.pos; omega) (by rw [h.size]; exact hl) hf (h.gd hg) ?_
  rw [hR]
  intro f j hs
  have hkl := h.kl
  have hlen := h.len
  have key : f < s.data.toList.length ∧ lb s.data.toList f ≠ 47 ∧ lb s.data.toList f ≠ 46 := by
    obtain ⟨a1, a2, a3, a4, a5⟩ := hs
    by_cases q : f < k
    · have := h.nm.st f (by omega) (by
        rcases a3 with a3 | a3
        · exact .inl a3
        · by_cases z : f = 0
          · exact .inl z
          · rw [h.a (by omega)] at a3; exact .inr a3)
      rw [h.a q]
      exact ⟨by omega, this.2, h.nm.nodot f⟩
    · by_cases q2 : f = k
      · subst q2
        have hst : f = 0 ∨ lb l (f - 1) = 47 := by
          rcases a3 with a3 | a3
          · exact .inl a3
          · by_cases z : f = 0
            · exact .inl z
            · rw [h.a (by omega)] at a3; exact .inr a3
        have hk := h.nm.st f hkl hst
        by_cases hb : 1 ≤ b.length
        · have e := h.b (i := 0) (by omega)
          rw [Nat.add_zero] at e
          rw [e]
          refine ⟨by omega, hns 0 (by omega), hd.resolve_right (by omega)⟩
        · rw [h.c (by omega), show f - b.length = f by omega]
          exact ⟨by omega, hk.2, h.nm.nodot f⟩
      · have a3' := a3.resolve_left (by omega)
        by_cases q3 : f - 1 < k + b.length
        · rw [show f - 1 = k + (f - 1 - k) by omega, h.b (by omega)] at a3'
          exact absurd a3' (hns _ (by omega))
        · rw [h.c (by omega)] at a3'
          have hk := h.nm.st (f - b.length) (by omega) (.inr (by rw [show f - b.length - 1 = f - 1 - b.length by omega]; exact a3'))
          rw [h.c (by omega)]
          exact ⟨by omega, hk.2, h.nm.nodot _⟩
  exact ⟨f, Nat.le_refl _, seg_more hs key.1 key.2.1, key.2.2⟩

theorem ins_byte (h : Ins s l b k) (hb : 1 ≤ b.length) (hg : lb b 0 < 32 ∨ lb b 0 = 127 ∨ lb b 0 = 92) : nmE s = 120 := by
  have hk := h.kl
  have hz := h.size
  refine nm_byte s (i := k) (by omega) ?_
  have := h.btb (i := 0) (by omega)
  rw [Nat.add_zero] at this
  unfold gdb
  rw [this]
  omega
theorem ins_form (h : Ins s l b k) (hb : 1 ≤ b.length) (hl : ltn s k = 0) : nmE s = 120 := by
  have hk := h.kl
  have hz := h.size
  exact nm_form s (fmd_none s (by omega) hl (fun i hi => h.bef hi))
theorem ins_fmd (h : Ins s l b k) (hb : 1 ≤ b.length) (hl : ltn s k = b.length) : fmd s s.size 0 = true := by
  have hk := h.kl
  have hz := h.size
  exact fmd_one s (k := k) (m := b.length) hb (by omega) hl (fun i hi => h.bef hi) (fun i a c => by have := h.aft a c; omega)
theorem ins_ascii (h : Ins s l b k) (hb : ∀ i, i < b.length → lb b i ≤ 127) : fmd s s.size 0 = true := by
  refine fmd_ascii s (fun i hi => ?_)
  by_cases q : i < k
  · exact h.bef q
  · by_cases q2 : i < k + b.length
    · rw [show i = k + (i - k) by omega, h.btb (by omega)]; exact hb _ (by omega)
    · have := h.aft (by omega) hi; omega
end
end Go.Proofs.YtjjepgkcgbbmhacDoor

