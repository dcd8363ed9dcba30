import Derived.Test.YtknjblgnjoocbaaDoorGTk
namespace Go.Proofs.YtknjblgnjoocbaaDoor
open Go.RowKit Go.Maps
set_option maxRecDepth 20000
set_option linter.unusedVariables false

theorem sound_any (a b c : Int) (w : World) : Calls Tryd.prog 16 #[.agg #[.int .i64 a, .int .i64 b, .int .u8 c]] w fun e w' => e = .returned (.bool (sndb (a, b, c))) ∧ Below w.heap.size w w' := by
  have HB : Hid (∀ q, Below w.heap.size w ((w.alloc (.cells #[.int .i64 a, .int .i64 b, .int .u8 c] 34)).drewN q)) := fun q => below_drewN ((Below.refl _ _).alloc (Nat.le_refl _) _) q
  obtain ⟨wb, hwb⟩ : ∃ wb, w.alloc (.cells #[.int .i64 a, .int .i64 b, .int .u8 c] 34) = wb := ⟨_, rfl⟩
  have d1 : wb.cell? ⟨w.heap.size, 0, none⟩ = some (.int .i64 a) := by rw [← hwb]; unfold World.cell?; simp only [heap_alloc_new]; rfl
  have d2 : wb.cell? ⟨w.heap.size, 1, none⟩ = some (.int .i64 b) := by rw [← hwb]; unfold World.cell?; simp only [heap_alloc_new]; rfl
  have d3 : wb.cell? ⟨w.heap.size, 2, none⟩ = some (.int .u8 c) := by rw [← hwb]; unfold World.cell?; simp only [heap_alloc_new]; rfl
  rw [hwb] at HB
  by_cases h0 : a = 0
  · have HE : Hid (sndb (a, b, c) = decide (b = 0)) := by show _ = _; unfold sndb Snd; simp [h0]
    have g0 : (a == 0) = true := by simpa using h0
    by_cases hb : b = 0
    · have g1 : (b == 0) = true := by simpa using hb
      have HE2 : Hid (sndb (a, b, c) = true) := by show _ = _; rw [HE.out]; simpa using hb
      clear HE h0 hb
      go_enter Tryd.func16, Tryd.ntmps16
      go_wp2
      go_ret
      rw [HE2.out]
      exact ⟨rfl, HB.out 0⟩
    · have g1 : (b == 0) = false := by simpa using hb
      have HE2 : Hid (sndb (a, b, c) = false) := by show _ = _; rw [HE.out]; simpa using hb
      clear HE h0 hb
      go_enter Tryd.func16, Tryd.ntmps16
      go_wp2
      go_ret
      rw [HE2.out]
      exact ⟨rfl, HB.out 0⟩
  · have g0 : (a == 0) = false := by simpa using h0
    have HE : Hid (sndb (a, b, c) = decide (3 ≤ a ∧ a ≤ 258 ∧ 1 ≤ b ∧ b ≤ 32768 ∧ c = 0)) := by show _ = _; unfold sndb Snd; simp [h0]
    by_cases h1 : 3 ≤ a
    · by_cases h2 : a ≤ 258
      · by_cases h3 : 1 ≤ b
        · by_cases h4 : b ≤ 32768
          · by_cases h5 : c = 0
            · have g1 : decide (3 ≤ a) = true := decide_eq_true h1
              have g2 : decide (a ≤ 258) = true := decide_eq_true h2
              have g3 : decide (1 ≤ b) = true := decide_eq_true h3
              have g4 : decide (b ≤ 32768) = true := decide_eq_true h4
              have g5 : (c == 0) = true := by simpa using h5
              have HE2 : Hid (sndb (a, b, c) = true) := by show _ = _; rw [HE.out]; exact decide_eq_true ⟨h1, h2, h3, h4, h5⟩
              clear HE h0 h1 h2 h3 h4 h5
              go_enter Tryd.func16, Tryd.ntmps16
              go_wp2
              go_ret
              rw [HE2.out]
              exact ⟨rfl, HB.out 0⟩
            · have g1 : decide (3 ≤ a) = true := decide_eq_true h1
              have g2 : decide (a ≤ 258) = true := decide_eq_true h2
              have g3 : decide (1 ≤ b) = true := decide_eq_true h3
              have g4 : decide (b ≤ 32768) = true := decide_eq_true h4
              have g5 : (c == 0) = false := by simpa using h5
              have HE2 : Hid (sndb (a, b, c) = false) := by show _ = _; rw [HE.out]; exact decide_eq_false (fun q => h5 q.2.2.2.2)
              clear HE h0 h1 h2 h3 h4 h5
              go_enter Tryd.func16, Tryd.ntmps16
              go_wp2
              go_ret
              rw [HE2.out]
              exact ⟨rfl, HB.out 0⟩
          · have g1 : decide (3 ≤ a) = true := decide_eq_true h1
            have g2 : decide (a ≤ 258) = true := decide_eq_true h2
            have g3 : decide (1 ≤ b) = true := decide_eq_true h3
            have g4 : decide (b ≤ 32768) = false := decide_eq_false h4
            have HE2 : Hid (sndb (a, b, c) = false) := by show _ = _; rw [HE.out]; exact decide_eq_false (fun q => h4 q.2.2.2.1)
            clear HE h0 h1 h2 h3 h4
            go_enter Tryd.func16, Tryd.ntmps16
            go_wp2
            go_ret
            rw [HE2.out]
            exact ⟨rfl, HB.out 0⟩
        · have g1 : decide (3 ≤ a) = true := decide_eq_true h1
          have g2 : decide (a ≤ 258) = true := decide_eq_true h2
          have g3 : decide (1 ≤ b) = false := decide_eq_false h3
          have HE2 : Hid (sndb (a, b, c) = false) := by show _ = _; rw [HE.out]; exact decide_eq_false (fun q => h3 q.2.2.1)
          clear HE h0 h1 h2 h3
          go_enter Tryd.func16, Tryd.ntmps16
          go_wp2
          go_ret
          rw [HE2.out]
          exact ⟨rfl, HB.out 0⟩
      · have g1 : decide (3 ≤ a) = true := decide_eq_true h1
        have g2 : decide (a ≤ 258) = false := decide_eq_false h2
        have HE2 : Hid (sndb (a, b, c) = false) := by show _ = _; rw [HE.out]; exact decide_eq_false (fun q => h2 q.2.1)
        clear HE h0 h1 h2
        go_enter Tryd.func16, Tryd.ntmps16
        go_wp2
        go_ret
        rw [HE2.out]
        exact ⟨rfl, HB.out 0⟩
    · have g1 : decide (3 ≤ a) = false := decide_eq_false h1
      have HE2 : Hid (sndb (a, b, c) = false) := by show _ = _; rw [HE.out]; exact decide_eq_false (fun q => h1 q.1)
      clear HE h0 h1
      go_enter Tryd.func16, Tryd.ntmps16
      go_wp2
      go_ret
      rw [HE2.out]
      exact ⟨rfl, HB.out 0⟩

/-- All tokens may be. -/
def asnd (R : List Tk) : Bool := R.all sndb

theorem asnd_snoc {R : List Tk} {k : Nat} (hk : k < R.length) : asnd (R.take (k + 1)) = (asnd (R.take k) && sndb (R.getD k tk0)) := by
  rw [tk_snoc hk]
  simp [asnd]

theorem asnd_bad {R : List Tk} {k : Nat} (hk : k < R.length) (h : sndb (R.getD k tk0) = false) : asnd R = false := by
  unfold asnd
  rw [List.all_eq_false]
  refine ⟨R.getD k tk0, ?_, by rw [h]; exact Bool.false_ne_true⟩
  rw [List.getD_eq_getElem?_getD, List.getElem?_eq_getElem hk]
  exact List.getElem_mem hk

theorem allSound_any (v : Value) (R : List Tk) (w : World) (h : SK w v R) : Calls Tryd.prog 12 #[v] w fun e w' => e = .returned (.bool (asnd R)) ∧ Below w.heap.size w w' := by
  have HS := hide h
  obtain ⟨ao, cap, rfl, hlc, hcm⟩ := h.open
  clear h
  have hmx : R.length ≤ 9223372036854775807 := by omega
  go_enter Tryd.func12, Tryd.ntmps12
  go_wp2
  go_loopw [7] (fun t wr => ∃ k : Nat, k ≤ R.length ∧ t = .int .i64 (k : Int) ∧ Hid (asnd (R.take k) = true) ∧ Hid (Below w.heap.size w wr)) (fun t _ => R.length - (intOf t).toNat)
  case atStart => exact ⟨0, Nat.zero_le _, rfl, rfl, Below.refl _ _⟩
  case round =>
    obtain ⟨k, hk, rfl, HA, HB⟩ := hrel
    by_cases hlt : k < R.length
    · have hlt' : (k : Int) < (R.length : Int) := by omega
      obtain ⟨b, o, rfl, c0, c1, c2⟩ := HS.out.get HB.out hlt
      have HSN := hide (asnd_snoc hlt)
      have HBD := hide (asnd_bad hlt)
      obtain ⟨⟨t1, t2, t3⟩, ht⟩ : ∃ t, R.getD k tk0 = t := ⟨_, rfl⟩
      rw [ht] at c0 c1 c2 HSN HBD
      simp only at c0 c1 c2
      have HB6 : Hid (Below wr.heap.size wr (wr.alloc (.cells #[.int .i64 t1, .int .i64 t2, .int .u8 t3] 34))) := (Below.refl _ _).alloc (Nat.le_refl _) _
      have HSO := hide (fun wx => sound_any t1 t2 t3 wx)
      clear ht
      go_wp2_with fail
      refine (HSO.out _).mono ?_
      rintro e w2 ⟨rfl, b2⟩
      have HB2 : Hid (Below w.heap.size w w2) := (HB.out.trans (HB6.out.mono HB.out.size)).trans (b2.mono (Nat.le_trans HB.out.size HB6.out.size))
      clear b2 HB6
      by_cases hs : sndb (t1, t2, t3) = true
      · have HX := hide hs
        rw [HX.out]
        have HN : Hid (asnd (R.take (k + 1)) = true) := by show _ = _; rw [HSN.out, HA.out, HX.out]; rfl
        clear hs
        go_wp2
        go_roundw
        case rel => exact ⟨k + 1, by omega, by go_num, HN, HB2⟩
        case measure => simp [intOf]; omega
      · have HX : Hid (sndb (t1, t2, t3) = false) := by show _ = _; simpa using hs
        rw [HX.out]
        have HN := hide (HBD.out HX.out)
        clear hs
        go_wp2
        go_ret
        rw [HN.out]
        exact ⟨rfl, HB2.out⟩
    · obtain rfl : k = R.length := by omega
      have hlt' : ¬ (R.length : Int) < (R.length : Int) := by omega
      have HN : Hid (asnd R = true) := by have := HA.out; rw [List.take_of_length_le (Nat.le_refl _)] at this; exact this
      go_wp2
      go_ret
      rw [HN.out]
      exact ⟨rfl, HB.out⟩

/-- The document's copies: a copy that may be. -/
def Cpy (t : Tk) : Prop := 3 ≤ t.1 ∧ t.1 ≤ 258 ∧ 1 ≤ t.2.1 ∧ t.2.1 ≤ 32768 ∧ t.2.2 = 0

instance (t : Tk) : Decidable (Cpy t) := by unfold Cpy; infer_instance

theorem snd_cpy (a b c : Int) : sndb (a, b, c) = (decide (Cpy (a, b, c)) || (decide (a = 0) && decide (b = 0))) := by
  unfold sndb
  by_cases ha : a = 0
  · subst ha
    have h1 : ¬ Cpy (0, b, c) := fun h => by have := h.1; simp at this
    by_cases hb : b = 0
    · subst hb
      rw [decide_eq_false h1, decide_eq_true (show Snd (0, 0, c) by simp [Snd])]
      simp
    · rw [decide_eq_false h1, decide_eq_false (show ¬ Snd (0, b, c) by simp [Snd, hb])]
      simp [hb]
  · have h1 : Snd (a, b, c) ↔ Cpy (a, b, c) := by unfold Snd Cpy; simp only [if_neg ha]
    simp only [h1, ha, decide_false, Bool.false_and, Bool.or_false]

end Go.Proofs.YtknjblgnjoocbaaDoor

