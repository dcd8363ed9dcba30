import Derived.Test.YtkmefeihkmbngaaDoorG00Tkw
import Derived.Lib.LaidTab
import Derived.OpenShut
import Derived.ChangeSame
import Derived.BigQuiet
namespace Go.Proofs.YtkmefeihkmbngaaDoor
open Go.RowKit Go.Maps
set_option maxRecDepth 20000
set_option linter.unusedVariables false

theorem sound_any (a b c : Int) (w : World) : Calls Tryd.prog 38 #[.agg #[.int .i64 a, .int .i64 b, .int .u8 c]] w fun e w' => e = .returned (.bool (sndb (a, b, c))) ∧ Below w.heap.size w w' := by
  have HB : Hid (∀ q, Below w.heap.size w ((w.alloc (.cells #[.int .i64 a, .int .i64 b, .int .u8 c] 48)).drewN q)) := fun q => below_drewN ((Below.refl _ _).alloc (Nat.le_refl _) _) q
  obtain ⟨wb, hwb⟩ : ∃ wb, w.alloc (.cells #[.int .i64 a, .int .i64 b, .int .u8 c] 48) = wb := ⟨_, rfl⟩
  have d1 : wb.cell? ⟨w.heap.size, 0, none⟩ = some (.int .i64 a) := by rw [← hwb]; unfold World.cell?; simp only [heap_alloc_new]; rfl
  have d2 : wb.cell? ⟨w.heap.size, 1, none⟩ = some (.int .i64 b) := by rw [← hwb]; unfold World.cell?; simp only [heap_alloc_new]; rfl
  have d3 : wb.cell? ⟨w.heap.size, 2, none⟩ = some (.int .u8 c) := by rw [← hwb]; unfold World.cell?; simp only [heap_alloc_new]; rfl
  rw [hwb] at HB
  by_cases h0 : a = 0
  · have HE : Hid (sndb (a, b, c) = decide (b = 0)) := by show _ = _; unfold sndb Snd; simp [h0]
    have g0 : (a == 0) = true := by simpa using h0
    by_cases hb : b = 0
    · have g1 : (b == 0) = true := by simpa using hb
      have HE2 : Hid (sndb (a, b, c) = true) := by show _ = _; rw [HE.out]; simpa using hb
      clear HE h0 hb
      go_enter Tryd.func38, Tryd.ntmps38
      go_wp2
      go_ret
      rw [HE2.out]
      exact ⟨rfl, HB.out 0⟩
    · have g1 : (b == 0) = false := by simpa using hb
      have HE2 : Hid (sndb (a, b, c) = false) := by show _ = _; rw [HE.out]; simpa using hb
      clear HE h0 hb
      go_enter Tryd.func38, Tryd.ntmps38
      go_wp2
      go_ret
      rw [HE2.out]
      exact ⟨rfl, HB.out 0⟩
  · have g0 : (a == 0) = false := by simpa using h0
    have HE : Hid (sndb (a, b, c) = decide (3 ≤ a ∧ a ≤ 258 ∧ 1 ≤ b ∧ b ≤ 32768 ∧ c = 0)) := by show _ = _; unfold sndb Snd; simp [h0]
    by_cases h1 : 3 ≤ a
    · by_cases h2 : a ≤ 258
      · by_cases h3 : 1 ≤ b
        · by_cases h4 : b ≤ 32768
          · by_cases h5 : c = 0
            · have g1 : decide (3 ≤ a) = true := decide_eq_true h1
              have g2 : decide (a ≤ 258) = true := decide_eq_true h2
              have g3 : decide (1 ≤ b) = true := decide_eq_true h3
              have g4 : decide (b ≤ 32768) = true := decide_eq_true h4
              have g5 : (c == 0) = true := by simpa using h5
              have HE2 : Hid (sndb (a, b, c) = true) := by show _ = _; rw [HE.out]; exact decide_eq_true ⟨h1, h2, h3, h4, h5⟩
              clear HE h0 h1 h2 h3 h4 h5
              go_enter Tryd.func38, Tryd.ntmps38
              go_wp2
              go_ret
              rw [HE2.out]
              exact ⟨rfl, HB.out 0⟩
            · have g1 : decide (3 ≤ a) = true := decide_eq_true h1
              have g2 : decide (a ≤ 258) = true := decide_eq_true h2
              have g3 : decide (1 ≤ b) = true := decide_eq_true h3
              have g4 : decide (b ≤ 32768) = true := decide_eq_true h4
              have g5 : (c == 0) = false := by simpa using h5
              have HE2 : Hid (sndb (a, b, c) = false) := by show _ = _; rw [HE.out]; exact decide_eq_false (fun q => h5 q.2.2.2.2)
              clear HE h0 h1 h2 h3 h4 h5
              go_enter Tryd.func38, Tryd.ntmps38
              go_wp2
              go_ret
              rw [HE2.out]
              exact ⟨rfl, HB.out 0⟩
          · have g1 : decide (3 ≤ a) = true := decide_eq_true h1
            have g2 : decide (a ≤ 258) = true := decide_eq_true h2
            have g3 : decide (1 ≤ b) = true := decide_eq_true h3
            have g4 : decide (b ≤ 32768) = false := decide_eq_false h4
            have HE2 : Hid (sndb (a, b, c) = false) := by show _ = _; rw [HE.out]; exact decide_eq_false (fun q => h4 q.2.2.2.1)
            clear HE h0 h1 h2 h3 h4
            go_enter Tryd.func38, Tryd.ntmps38
            go_wp2
            go_ret
            rw [HE2.out]
            exact ⟨rfl, HB.out 0⟩
        · have g1 : decide (3 ≤ a) = true := decide_eq_true h1
          have g2 : decide (a ≤ 258) = true := decide_eq_true h2
          have g3 : decide (1 ≤ b) = false := decide_eq_false h3
          have HE2 : Hid (sndb (a, b, c) = false) := by show _ = _; rw [HE.out]; exact decide_eq_false (fun q => h3 q.2.2.1)
          clear HE h0 h1 h2 h3
          go_enter Tryd.func38, Tryd.ntmps38
          go_wp2
          go_ret
          rw [HE2.out]
          exact ⟨rfl, HB.out 0⟩
      · have g1 : decide (3 ≤ a) = true := decide_eq_true h1
        have g2 : decide (a ≤ 258) = false := decide_eq_false h2
        have HE2 : Hid (sndb (a, b, c) = false) := by show _ = _; rw [HE.out]; exact decide_eq_false (fun q => h2 q.2.1)
        clear HE h0 h1 h2
        go_enter Tryd.func38, Tryd.ntmps38
        go_wp2
        go_ret
        rw [HE2.out]
        exact ⟨rfl, HB.out 0⟩
    · have g1 : decide (3 ≤ a) = false := decide_eq_false h1
      have HE2 : Hid (sndb (a, b, c) = false) := by show _ = _; rw [HE.out]; exact decide_eq_false (fun q => h1 q.1)
      clear HE h0 h1
      go_enter Tryd.func38, Tryd.ntmps38
      go_wp2
      go_ret
      rw [HE2.out]
      exact ⟨rfl, HB.out 0⟩

def asnd (R : List Tk) : Bool := R.all sndb

theorem asnd_snoc {R : List Tk} {k : Nat} (hk : k < R.length) : asnd (R.take (k + 1)) = (asnd (R.take k) && sndb (R.getD k tk0)) := by
  rw [tk_snoc hk]
  simp [asnd]

theorem asnd_bad {R : List Tk} {k : Nat} (hk : k < R.length) (h : sndb (R.getD k tk0) = false) : asnd R = false := by
  unfold asnd
  rw [List.all_eq_false]
  refine ⟨R.getD k tk0, ?_, by rw [h]; exact Bool.false_ne_true⟩
  rw [List.getD_eq_getElem?_getD, List.getElem?_eq_getElem hk]
  exact List.getElem_mem hk

theorem allSound_any (v : Value) (R : List Tk) (w : World) (h : SK w v R) : Calls Tryd.prog 26 #[v] w fun e w' => e = .returned (.bool (asnd R)) ∧ Below w.heap.size w w' := by
  have HS := hide h
  obtain ⟨ao, cap, rfl, hlc, hcm⟩ := h.open
  clear h
  have hmx : R.length ≤ 9223372036854775807 := by omega
  go_enter Tryd.func26, Tryd.ntmps26
  go_wp2
  go_loopw [7] (fun t wr => ∃ k : Nat, k ≤ R.length ∧ t = .int .i64 (k : Int) ∧ Hid (asnd (R.take k) = true) ∧ Hid (Below w.heap.size w wr)) (fun t _ => R.length - (intOf t).toNat)
  case atStart => exact ⟨0, Nat.zero_le _, rfl, rfl, Below.refl _ _⟩
  case round =>
    obtain ⟨k, hk, rfl, HA, HB⟩ := hrel
    by_cases hlt : k < R.length
    · have hlt' : (k : Int) < (R.length : Int) := by omega
      obtain ⟨b, o, rfl, c0, c1, c2⟩ := HS.out.get HB.out hlt
      have HSN := hide (asnd_snoc hlt)
      have HBD := hide (asnd_bad hlt)
      obtain ⟨⟨t1, t2, t3⟩, ht⟩ : ∃ t, R.getD k tk0 = t := ⟨_, rfl⟩
      rw [ht] at c0 c1 c2 HSN HBD
      simp only at c0 c1 c2
      have HB6 : Hid (Below wr.heap.size wr (wr.alloc (.cells #[.int .i64 t1, .int .i64 t2, .int .u8 t3] 48))) := (Below.refl _ _).alloc (Nat.le_refl _) _
      have HSO := hide (fun wx => sound_any t1 t2 t3 wx)
      clear ht
      go_wp2_with fail
      refine (HSO.out _).mono ?_
      rintro e w2 ⟨rfl, b2⟩
      have HB2 : Hid (Below w.heap.size w w2) := (HB.out.trans (HB6.out.mono HB.out.size)).trans (b2.mono (Nat.le_trans HB.out.size HB6.out.size))
      clear b2 HB6
      by_cases hs : sndb (t1, t2, t3) = true
      · have HX := hide hs
        rw [HX.out]
        have HN : Hid (asnd (R.take (k + 1)) = true) := by show _ = _; rw [HSN.out, HA.out, HX.out]; rfl
        clear hs
        go_wp2
        go_roundw
        case rel => exact ⟨k + 1, by omega, by go_num, HN, HB2⟩
        case measure => simp [intOf]; omega
      · have HX : Hid (sndb (t1, t2, t3) = false) := by show _ = _; simpa using hs
        rw [HX.out]
        have HN := hide (HBD.out HX.out)
        clear hs
        go_wp2
        go_ret
        rw [HN.out]
        exact ⟨rfl, HB2.out⟩
    · obtain rfl : k = R.length := by omega
      have hlt' : ¬ (R.length : Int) < (R.length : Int) := by omega
      have HN : Hid (asnd R = true) := by have := HA.out; rw [List.take_of_length_le (Nat.le_refl _)] at this; exact this
      go_wp2
      go_ret
      rw [HN.out]
      exact ⟨rfl, HB.out⟩

def Cpy (t : Tk) : Prop := 3 ≤ t.1 ∧ t.1 ≤ 258 ∧ 1 ≤ t.2.1 ∧ t.2.1 ≤ 32768 ∧ t.2.2 = 0

instance (t : Tk) : Decidable (Cpy t) := by unfold Cpy; infer_instance

theorem snd_cpy (a b c : Int) : sndb (a, b, c) = (decide (Cpy (a, b, c)) || (decide (a = 0) && decide (b = 0))) := by
  unfold sndb
  by_cases ha : a = 0
  · subst ha
    have h1 : ¬ Cpy (0, b, c) := fun h => by have := h.1; simp at this
    by_cases hb : b = 0
    · subst hb
      rw [decide_eq_false h1, decide_eq_true (show Snd (0, 0, c) by simp [Snd])]
      simp
    · rw [decide_eq_false h1, decide_eq_false (show ¬ Snd (0, b, c) by simp [Snd, hb])]
      simp [hb]
  · have h1 : Snd (a, b, c) ↔ Cpy (a, b, c) := by unfold Snd Cpy; simp only [if_neg ha]
    simp only [h1, ha, decide_false, Bool.false_and, Bool.or_false]

theorem copies_any (a b c : Int) (w : World) : Calls Tryd.prog 62 #[.agg #[.int .i64 a, .int .i64 b, .int .u8 c]] w fun e w' => e = .returned (.bool (decide (Cpy (a, b, c)))) ∧ Below w.heap.size w w' := by
  have HB : Hid (Below w.heap.size w (w.alloc (.cells #[.int .i64 a, .int .i64 b, .int .u8 c] 48))) := (Below.refl _ _).alloc (Nat.le_refl _) _
  by_cases h1 : (3 : Int) ≤ a
  · by_cases h2 : a ≤ (258 : Int)
    · by_cases h3 : (1 : Int) ≤ b
      · by_cases h4 : b ≤ (32768 : Int)
        · by_cases h5 : c = 0
          · have HD : Hid (decide (Cpy (a, b, c)) = true) := decide_eq_true ⟨h1, h2, h3, h4, h5⟩
            rw [HD.out]
            have g5 : (c == 0) = true := by simp [h5]
            clear h5
            go_enter Tryd.func62, Tryd.ntmps62
            go_wp2
            go_ret
            exact ⟨rfl, HB.out⟩
          · have HD : Hid (decide (Cpy (a, b, c)) = false) := decide_eq_false (fun q => h5 q.2.2.2.2)
            rw [HD.out]
            have g5 : (c == 0) = false := by simp [h5]
            clear h5
            go_enter Tryd.func62, Tryd.ntmps62
            go_wp2
            go_ret
            exact ⟨rfl, HB.out⟩
        · have HD : Hid (decide (Cpy (a, b, c)) = false) := decide_eq_false (fun q => h4 q.2.2.2.1)
          rw [HD.out]
          go_enter Tryd.func62, Tryd.ntmps62
          go_wp2
          go_ret
          exact ⟨rfl, HB.out⟩
      · have HD : Hid (decide (Cpy (a, b, c)) = false) := decide_eq_false (fun q => h3 q.2.2.1)
        rw [HD.out]
        go_enter Tryd.func62, Tryd.ntmps62
        go_wp2
        go_ret
        exact ⟨rfl, HB.out⟩
    · have HD : Hid (decide (Cpy (a, b, c)) = false) := decide_eq_false (fun q => h2 q.2.1)
      rw [HD.out]
      go_enter Tryd.func62, Tryd.ntmps62
      go_wp2
      go_ret
      exact ⟨rfl, HB.out⟩
  · have HD : Hid (decide (Cpy (a, b, c)) = false) := decide_eq_false (fun q => h1 q.1)
    rw [HD.out]
    go_enter Tryd.func62, Tryd.ntmps62
    go_wp2
    go_ret
    exact ⟨rfl, HB.out⟩

set_option maxHeartbeats 1000000 in
theorem ksound_any (v : Value) (R : List Tk) (w : World) (h : SK w v R) : Calls Tryd.prog 46 #[v] w fun e w' => e = .returned (.bool (asnd R)) ∧ Below w.heap.size w w' := by
  have HS := hide h
  obtain ⟨ao, cap, rfl, hlc, hcm⟩ := h.open
  clear h
  have hmx : R.length ≤ 9223372036854775807 := by omega
  go_enter Tryd.func46, Tryd.ntmps46
  go_wp2
  go_loopw [3] (fun t wr => ∃ k : Nat, k ≤ R.length ∧ t = .int .i64 (k : Int) ∧ Hid (asnd (R.take k) = true) ∧ Hid (Below w.heap.size w wr)) (fun t _ => R.length - (intOf t).toNat)
  case atStart => exact ⟨0, Nat.zero_le _, rfl, rfl, Below.refl _ _⟩
  case round =>
    obtain ⟨k, hk, rfl, HA, HB⟩ := hrel
    by_cases hlt : k < R.length
    · have hlt' : (k : Int) < (R.length : Int) := by omega
      obtain ⟨b, o, rfl, c0, c1, c2⟩ := HS.out.get HB.out hlt
      have HSN := hide (asnd_snoc hlt)
      have HBD := hide (asnd_bad hlt)
      obtain ⟨⟨t1, t2, t3⟩, ht⟩ : ∃ t, R.getD k tk0 = t := ⟨_, rfl⟩
      rw [ht] at c0 c1 c2 HSN HBD
      simp only at c0 c1 c2
      have HB6 : Hid (Below wr.heap.size wr (wr.alloc (.cells #[.int .i64 t1, .int .i64 t2, .int .u8 t3] 48))) := (Below.refl _ _).alloc (Nat.le_refl _) _
      have HN6 : Hid ((wr.alloc (.cells #[.int .i64 t1, .int .i64 t2, .int .u8 t3] 48)).heap[wr.heap.size]? = some (.cells #[.int .i64 t1, .int .i64 t2, .int .u8 t3] 48 (0, 0))) := heap_alloc_new wr _
      have hx6 : wr.heap.size < (wr.alloc (.cells #[.int .i64 t1, .int .i64 t2, .int .u8 t3] 48)).heap.size := by simp
      have HSO := hide (fun wx => copies_any t1 t2 t3 wx)
      have HSC := hide (snd_cpy t1 t2 t3)
      clear ht
      go_wp2_with fail
      refine (HSO.out _).mono ?_
      rintro e w2 ⟨rfl, b2⟩
      have HB2 : Hid (Below w.heap.size w w2) := (HB.out.trans (HB6.out.mono HB.out.size)).trans (b2.mono (Nat.le_trans HB.out.size HB6.out.size))
      have n2 := (b2.block _ hx6).trans HN6.out
      have y0 : w2.cell? ⟨wr.heap.size, 0, none⟩ = some (.int .i64 t1) := by unfold World.cell?; rw [n2]; rfl
      have y1 : w2.cell? ⟨wr.heap.size, 1, none⟩ = some (.int .i64 t2) := by unfold World.cell?; rw [n2]; rfl
      clear b2 HB6 HN6 hx6 n2
      by_cases hc : Cpy (t1, t2, t3)
      · have HX : Hid (decide (Cpy (t1, t2, t3)) = true) := decide_eq_true hc
        rw [HX.out]
        have HN : Hid (asnd (R.take (k + 1)) = true) := by show _ = _; rw [HSN.out, HA.out, HSC.out, HX.out]; rfl
        clear hc
        go_wp2
        go_roundw
        case rel => exact ⟨k + 1, by omega, by go_num, HN, HB2⟩
        case measure => simp [intOf]; omega
      · have HX : Hid (decide (Cpy (t1, t2, t3)) = false) := decide_eq_false hc
        rw [HX.out]
        clear hc
        by_cases ha : t1 = 0
        · by_cases hb : t2 = 0
          · have HN : Hid (asnd (R.take (k + 1)) = true) := by show _ = _; rw [HSN.out, HA.out, HSC.out, HX.out, decide_eq_true ha, decide_eq_true hb]; rfl
            rw [ha] at y0
            rw [hb] at y1
            clear ha hb
            go_wp2
            go_roundw
            case rel => exact ⟨k + 1, by omega, by go_num, HN, HB2⟩
            case measure => simp [intOf]; omega
          · have HN := hide (HBD.out (by rw [HSC.out, HX.out, decide_eq_false hb]; simp))
            rw [ha] at y0
            clear ha
            go_wp2
            go_ret
            rw [HN.out]
            exact ⟨rfl, HB2.out⟩
        · have HN := hide (HBD.out (by rw [HSC.out, HX.out, decide_eq_false ha]; simp))
          go_wp2
          go_ret
          rw [HN.out]
          exact ⟨rfl, HB2.out⟩
    · obtain rfl : k = R.length := by omega
      have hlt' : ¬ (R.length : Int) < (R.length : Int) := by omega
      have HN : Hid (asnd R = true) := by have := HA.out; rw [List.take_of_length_le (Nat.le_refl _)] at this; exact this
      go_wp2
      go_ret
      rw [HN.out]
      exact ⟨rfl, HB.out⟩
end Go.Proofs.YtkmefeihkmbngaaDoor

namespace Go.Proofs.YtkmefeihkmbngaaDoor
open Go.RowKit Go.ChangeShapes Go.WideShapes Go.ChangeAt
set_option maxRecDepth 20000
set_option linter.unusedVariables false

def spanData {H : Type} (zs : List (Int × Int)) : DataW H := .agg (zs.map fun z => .agg [.lit (.int .i64 z.1), .lit (.int .i64 z.2)])

theorem cells_of_spans {H : Type} {enc : TypeId × Value → H} {P : Program} {w : World} {base : Nat} {sp : Nat → Bool} {held : Bool} {fuel : Nat} {t e u : TypeId} {n : Nat} {f0 f1 : Field} {cs : List Value} {zs : List (Int × Int)} {p : List MemPlace}
    (ht : P.underlying t = some (.array n e)) (he : P.underlying e = some (.struct #[f0, f1])) (h0 : f0.type = u ∧ f0.offset = 0) (h1 : f1.type = u ∧ f1.offset = 1) (hu : P.underlying u = some (.int .i64)) (hcu : P.cellsOf u = 1) (hce : P.cellsOf e = 2)
    (h : DataW.trod enc P w base sp held fuel t cs = some (spanData zs, p)) (i : Nat) (hi : i < zs.length) : cs[i * 2]? = some (.int .i64 (zs.getD i (0, 0)).1) ∧ cs[i * 2 + 1]? = some (.int .i64 (zs.getD i (0, 0)).2) := by
  obtain ⟨xs, m, _, hx, hl, hn, hf⟩ := DataW.trod_array ht h
  have hxs : xs.map (·.1) = zs.map fun z => (DataW.agg [.lit (.int .i64 z.1), .lit (.int .i64 z.2)] : DataW H) := by
    have := congrArg Prod.fst hx
    simpa [spanData] using this.symm
  have hzl : zs.length = n := by
    have := congrArg List.length hxs
    simp at this
    omega
  have h2 := hf i (by omega)
  obtain ⟨y, hy⟩ : ∃ y, xs[i]? = some y := ⟨xs[i]'(by omega), by simp [show i < xs.length by omega]⟩
  rw [hy, hce] at h2
  obtain ⟨y0, y1, q, rfl, _, t0, t1⟩ := trod_struct2 he h2
  rw [h0.1, h0.2, hcu] at t0
  rw [h1.1, h1.2, hcu] at t1
  obtain ⟨z0, hc0, hz0, _⟩ := DataW.trod_int hu t0
  obtain ⟨z1, hc1, hz1, _⟩ := DataW.trod_int hu t1
  have h3 : (xs.map (·.1))[i]? = some (DataW.agg [y0.1, y1.1] : DataW H) := by simp [hy]
  rw [hxs] at h3
  have hg : zs[i]? = some (zs.getD i (0, 0)) := by simp [hi]
  rw [List.getElem?_map, hg] at h3
  simp only [Option.map_some, Option.some.injEq, DataW.agg.injEq, List.cons.injEq, and_true] at h3
  rw [hz0, hz1] at h3
  simp only [DataW.lit.injEq, Lit.int.injEq, true_and] at h3
  have k0 := congrArg (·[0]?) hc0
  have k1 := congrArg (·[0]?) hc1
  simp [List.getElem?_drop] at k0 k1
  rw [h3.1, h3.2]
  exact ⟨k0, k1⟩

def lnz : List (Int × Int) := [(3, 0), (4, 0), (5, 0), (6, 0), (7, 0), (8, 0), (9, 0), (10, 0), (11, 1), (13, 1), (15, 1), (17, 1), (19, 2), (23, 2), (27, 2), (31, 2), (35, 3), (43, 3), (51, 3), (59, 3), (67, 4), (83, 4), (99, 4), (115, 4), (131, 5), (163, 5), (195, 5), (227, 5), (258, 0)]

def dsz : List (Int × Int) := [(1, 0), (2, 0), (3, 0), (4, 0), (5, 1), (7, 1), (9, 2), (13, 2), (17, 3), (25, 3), (33, 4), (49, 4), (65, 5), (97, 5), (129, 6), (193, 6), (257, 7), (385, 7), (513, 8), (769, 8), (1025, 9), (1537, 9), (2049, 10), (3073, 10), (4097, 11), (6145, 11), (8193, 12), (12289, 12), (16385, 13), (24577, 13)]

def LB (i : Nat) : Nat := (lnz.getD i (0, 0)).1.toNat
def LF (i : Nat) : Nat := (lnz.getD i (0, 0)).2.toNat
def DB (i : Nat) : Nat := if i = 30 then 32769 else (dsz.getD i (0, 0)).1.toNat
def DF (i : Nat) : Nat := (dsz.getD i (0, 0)).2.toNat

theorem lnz_at : ∀ i : Nat, i < 29 → (lnz.getD i (0, 0)).1 = (LB i : Int) ∧ (lnz.getD i (0, 0)).2 = (LF i : Int) := by decide
theorem dsz_at : ∀ i : Nat, i < 30 → (dsz.getD i (0, 0)).1 = (DB i : Int) ∧ (dsz.getD i (0, 0)).2 = (DF i : Int) := by decide

theorem lfIs : ∀ i : Nat, i < 29 → LF i = (if i < 8 ∨ i = 28 then 0 else (i - 4) / 4) := by decide
theorem dfIs : ∀ i : Nat, i < 30 → DF i = (if i < 4 then 0 else (i - 2) / 2) := by decide
theorem lbNext : ∀ i : Nat, i < 27 → LB (i + 1) = LB i + 2 ^ LF i := by decide
theorem dbNext : ∀ i : Nat, i < 30 → DB (i + 1) = DB i + 2 ^ DF i := by decide
theorem lfLe : ∀ i : Nat, i < 29 → LF i ≤ 5 ∧ LB i ≤ 258 ∧ 2 ^ LF i ≤ 32 := by decide
theorem dfLe : ∀ i : Nat, i < 30 → DF i ≤ 13 ∧ DB i ≤ 32768 ∧ 2 ^ DF i ≤ 8192 := by decide

structure Ltab (w : World) : Prop where
  base : ∀ i : Nat, i < 29 → w.cell? ⟨0, i * 2, none⟩ = some (.int .i64 (LB i : Int))
  more : ∀ i : Nat, i < 29 → w.cell? ⟨0, i * 2 + 1, none⟩ = some (.int .i64 (LF i : Int))

structure Dtab (w : World) : Prop where
  base : ∀ i : Nat, i < 30 → w.cell? ⟨1, i * 2, none⟩ = some (.int .i64 (DB i : Int))
  more : ∀ i : Nat, i < 30 → w.cell? ⟨1, i * 2 + 1, none⟩ = some (.int .i64 (DF i : Int))

theorem Ltab.low {w w' : World} (h : Ltab w) (hb : Below w.heap.size w w') : Ltab w' :=
  ⟨fun i hi => (hb.cell (World.block_lt_of_cell? w _ (h.base i hi))).trans (h.base i hi), fun i hi => (hb.cell (World.block_lt_of_cell? w _ (h.more i hi))).trans (h.more i hi)⟩

theorem Dtab.low {w w' : World} (h : Dtab w) (hb : Below w.heap.size w w') : Dtab w' :=
  ⟨fun i hi => (hb.cell (World.block_lt_of_cell? w _ (h.base i hi))).trans (h.base i hi), fun i hi => (hb.cell (World.block_lt_of_cell? w _ (h.more i hi))).trans (h.more i hi)⟩

theorem cSpan : Tryd.prog.cellsOf 82 = 2 := by kernel_rfl
theorem cIn1 : Tryd.prog.cellsOf 3 = 1 := by kernel_rfl

theorem ltab_of {W : World} {rest : List (String × DataW Unit)} (h : laidMet Tryd.prog (("valise/block.lengths", spanData lnz) :: rest) W) : Ltab W := by
  obtain ⟨ps, ⟨g', t', cs, fuel, p, q, hg', ht', hvar, hd, _, _⟩, _⟩ := h
  obtain rfl := Option.some.inj ((show Tryd.prog.globalNamed "valise/block.lengths" = some 0 by kernel_rfl).symm.trans hg')
  obtain rfl := Option.some.inj ((show (Tryd.prog.globals[0]?).map (·.type) = some 83 by kernel_rfl).symm.trans ht')
  have hc := fun i hi => cells_of_spans (i := i) Tryd.underlying83 Tryd.underlying82 ⟨rfl, rfl⟩ ⟨rfl, rfl⟩ Tryd.underlying3 cIn1 cSpan hd hi
  have hg : Tryd.prog.globalNamed "valise/block.lengths" = some 0 := by kernel_rfl
  refine ⟨fun i hi => ?_, fun i hi => ?_⟩
  · rw [World.var?_cell hg hvar, ← (lnz_at i hi).1]
    simpa using (hc i hi).1
  · rw [World.var?_cell hg hvar, ← (lnz_at i hi).2]
    simpa using (hc i hi).2

theorem dtab_of {W : World} {rest : List (String × DataW Unit)} (h : laidMet Tryd.prog (("valise/block.distances", spanData dsz) :: rest) W) : Dtab W := by
  obtain ⟨ps, ⟨g', t', cs, fuel, p, q, hg', ht', hvar, hd, _, _⟩, _⟩ := h
  obtain rfl := Option.some.inj ((show Tryd.prog.globalNamed "valise/block.distances" = some 1 by kernel_rfl).symm.trans hg')
  obtain rfl := Option.some.inj ((show (Tryd.prog.globals[1]?).map (·.type) = some 85 by kernel_rfl).symm.trans ht')
  have hc := fun i hi => cells_of_spans (i := i) Tryd.underlying85 Tryd.underlying82 ⟨rfl, rfl⟩ ⟨rfl, rfl⟩ Tryd.underlying3 cIn1 cSpan hd hi
  have hg : Tryd.prog.globalNamed "valise/block.distances" = some 1 := by kernel_rfl
  refine ⟨fun i hi => ?_, fun i hi => ?_⟩
  · rw [World.var?_cell hg hvar, ← (dsz_at i hi).1]
    simpa using (hc i hi).1
  · rw [World.var?_cell hg hvar, ← (dsz_at i hi).2]
    simpa using (hc i hi).2
end Go.Proofs.YtkmefeihkmbngaaDoor

namespace Go.Proofs.YtkmefeihkmbngaaDoor
open Go.RowKit
set_option maxRecDepth 20000
set_option linter.unusedVariables false

theorem wrap_pow {F : Nat} (hF : F ≤ 13) : wrap64 ((2 : Int) ^ F) = ((2 ^ F : Nat) : Int) ∧ 1 ≤ 2 ^ F ∧ 2 ^ F ≤ 8192 := by
  have h1 : (2 : Nat) ^ F ≤ 2 ^ 13 := Nat.pow_le_pow_right (by omega) hF
  have h2 : 1 ≤ 2 ^ F := Nat.one_le_two_pow
  have h3 : (2 : Int) ^ F = ((2 ^ F : Nat) : Int) := by simp
  rw [h3]
  obtain ⟨q, hq⟩ : ∃ q, 2 ^ F = q := ⟨_, rfl⟩
  rw [hq] at h1 h2 ⊢
  refine ⟨?_, h2, by omega⟩
  unfold wrap64
  omega

def ofV (B F : Nat) (x : Int) : Int := if 0 ≤ x ∧ x < ((2 ^ F : Nat) : Int) then (B : Int) + x else 0
def ofE (F : Nat) (x : Int) : Int := if 0 ≤ x ∧ x < ((2 ^ F : Nat) : Int) then 0 else 1

theorem of_in {B F : Nat} {x : Int} (h : 0 ≤ x ∧ x < ((2 ^ F : Nat) : Int)) : ofV B F x = (B : Int) + x ∧ ofE F x = 0 := by unfold ofV ofE; rw [if_pos h, if_pos h]; exact ⟨rfl, rfl⟩
theorem of_out {B F : Nat} {x : Int} (h : ¬ (0 ≤ x ∧ x < ((2 ^ F : Nat) : Int))) : ofV B F x = 0 ∧ ofE F x = 1 := by unfold ofV ofE; rw [if_neg h, if_neg h]; exact ⟨rfl, rfl⟩

def lV (s x : Int) : Int := if 257 ≤ s ∧ s ≤ 285 then ofV (LB (s.toNat - 257)) (LF (s.toNat - 257)) x else 0
def lE (s x : Int) : Int := if 257 ≤ s ∧ s ≤ 285 then ofE (LF (s.toNat - 257)) x else 1
def dV (s x : Int) : Int := if 0 ≤ s ∧ s ≤ 29 then ofV (DB s.toNat) (DF s.toNat) x else 0
def dE (s x : Int) : Int := if 0 ≤ s ∧ s ≤ 29 then ofE (DF s.toNat) x else 1

end Go.Proofs.YtkmefeihkmbngaaDoor

namespace Go.Proofs.YtkmefeihkmbngaaDoor
open Go.RowKit
set_option maxRecDepth 20000
set_option linter.unusedVariables false

theorem xlbits_any (i : Nat) (s : Int) (hi : i < 29) (hs : s = ((257 + i : Nat) : Int)) (w : World) : Calls Tryd.prog 42 #[.int .i64 s] w fun e w' => e = .returned (.int .i64 (LF i : Int)) ∧ w' = w := by
  have HL := hide (lfIs i hi)
  obtain ⟨F, HF⟩ : ∃ F, Hid (F = LF i) := ⟨_, hide rfl⟩
  rw [← HF.out] at HL ⊢
  by_cases h1 : i < 8
  · have hF : F = 0 := by rw [HL.out, if_pos (.inl h1)]
    subst hF
    have g1 : s < 265 := by omega
    clear hs
    go_enter Tryd.func42, Tryd.ntmps42
    go_wp2
    go_ret
    exact ⟨rfl, rfl⟩
  · have g1 : ¬ s < 265 := by omega
    by_cases h2 : i = 28
    · have hF : F = 0 := by rw [HL.out, if_pos (.inr h2)]
      subst hF
      have g2 : s = 285 := by omega
      subst g2
      clear hs h2 g1
      go_enter Tryd.func42, Tryd.ntmps42
      go_wp2
      go_ret
      exact ⟨rfl, rfl⟩
    · have hF : F = (i - 4) / 4 := by rw [HL.out, if_neg (by omega)]
      have g2 : ¬ s = 285 := by omega
      have g3 : wrap64 (s - 261) = ((i - 4 : Nat) : Int) := by unfold wrap64; omega
      have g4 : ((i - 4 : Nat) : Int).tdiv 4 = (F : Int) := by rw [Int.tdiv_eq_ediv_of_nonneg (by omega)]; omega
      obtain ⟨p, hp⟩ : ∃ p : Int, s - 261 = p := ⟨_, rfl⟩
      have hp2 : p = ((i - 4 : Nat) : Int) := by omega
      rw [← hp2] at g4
      have g5 : wrap64 (F : Int) = (F : Int) := by unfold wrap64; omega
      have g6 : wrap64 p = p := by unfold wrap64; omega
      clear hp2 hF hs g3
      go_enter Tryd.func42, Tryd.ntmps42
      go_wp2
      go_ret
      exact ⟨rfl, rfl⟩

theorem xlbase_any (i : Nat) (s : Int) (hi : i < 29) (hs : s = ((257 + i : Nat) : Int)) (w : World) : Calls Tryd.prog 41 #[.int .i64 s] w fun e w' => e = .returned (.int .i64 (LB i : Int)) ∧ w' = w := by
  by_cases h2 : i = 28
  · have HL : Hid (LB i = 258) := by show _ = _; rw [h2]; rfl
    rw [HL.out]
    have g2 : s = 285 := by omega
    subst g2
    clear hs h2
    go_enter Tryd.func41, Tryd.ntmps41
    go_wp2
    go_ret
    exact ⟨rfl, rfl⟩
  · have g2 : (s == 285) = false := by simp; omega
    have HLN : Hid (∀ j, j < 27 → LB (j + 1) = LB j + 2 ^ LF j) := lbNext
    have HLE := hide lfLe
    have HL0 : Hid (LB 0 = 3) := rfl
    have HS := hide hs
    clear hs
    go_enter Tryd.func41, Tryd.ntmps41
    go_wp2
    go_loopw [3, 4] (fun b t wr => ∃ j : Nat, j ≤ i ∧ b = .int .i64 (LB j : Int) ∧ t = .int .i64 ((257 + j : Nat) : Int) ∧ wr = w) (fun _ t _ => 257 + i - (intOf t).toNat)
    case atStart => exact ⟨0, Nat.zero_le _, by rw [HL0.out]; rfl, rfl, rfl⟩
    case round =>
      obtain ⟨j, hj, rfl, rfl, rfl⟩ := hrel
      by_cases hlt : j < i
      · obtain ⟨t, ht⟩ : ∃ t : Int, ((257 + j : Nat) : Int) = t := ⟨_, rfl⟩
        rw [ht]
        have hlt' : t < s := by have := HS.out; omega
        have HBI := hide (xlbits_any j t (by omega) ht.symm wr)
        obtain ⟨e1, e2, e3⟩ := HLE.out j (by omega)
        have hnx := HLN.out j (by omega)
        have hle := HLE.out (j + 1) (by omega)
        obtain ⟨F, hF⟩ : ∃ F, LF j = F := ⟨_, rfl⟩
        rw [hF] at HBI e1 e3 hnx
        obtain ⟨w1, w2, w3⟩ := wrap_pow (F := F) (by omega)
        obtain ⟨q, hq⟩ : ∃ q, 2 ^ F = q := ⟨_, rfl⟩
        rw [hq] at w1 hnx e3
        obtain ⟨B, hB⟩ : ∃ B, LB j = B := ⟨_, rfl⟩
        obtain ⟨B', hB'⟩ : ∃ B, LB (j + 1) = B := ⟨_, rfl⟩
        rw [hB, hB'] at hnx
        rw [hB'] at hle
        have hmin : min F 64 = F := by omega
        have hcv : IntKind.u64.wrap (F : Int) = (F : Int) := by rw [IntKind.wrap_u64]; omega
        have had : wrap64 ((B : Int) + (q : Int)) = (B' : Int) := by unfold wrap64; omega
        have ht1 : wrap64 (t + 1) = ((257 + (j + 1) : Nat) : Int) := by unfold wrap64; omega
        rw [hB]
        have HT := hide ht
        have HT1 := hide ht1
        have HBB := hide hB'
        clear hq hF w2 w3 ht ht1 hB hB' hnx hle e1 e2 e3
        go_wp2_with fail
        refine HBI.out.mono ?_
        rintro e w8 ⟨rfl, hw8⟩
        subst hw8
        go_wp2
        go_roundw
        case rel => exact ⟨j + 1, by omega, by rw [HBB.out, had], by rw [HT1.out], by first | rfl | trivial⟩
        case measure => have h1 := HT1.out; have h2 := HT.out; rw [h1]; simp [intOf]; omega
      · obtain rfl : j = i := by omega
        obtain ⟨t, ht⟩ : ∃ t : Int, ((257 + j : Nat) : Int) = t := ⟨_, rfl⟩
        rw [ht]
        have hlt' : ¬ t < s := by have := HS.out; omega
        obtain ⟨B, hB⟩ : ∃ B, LB j = B := ⟨_, rfl⟩
        rw [hB]
        have HBH := hide hB
        clear hB ht
        go_wp2
        go_ret
        exact ⟨by rw [HBH.out]; rfl, rfl⟩
end Go.Proofs.YtkmefeihkmbngaaDoor

namespace Go.Proofs.YtkmefeihkmbngaaDoor
open Go.RowKit
set_option maxRecDepth 20000
set_option linter.unusedVariables false

theorem xdbits_any (i : Nat) (hi : i < 30) (w : World) : Calls Tryd.prog 44 #[.int .i64 (i : Int)] w fun e w' => e = .returned (.int .i64 (DF i : Int)) ∧ w' = w := by
  have HL := hide (dfIs i hi)
  obtain ⟨F, HF⟩ : ∃ F, Hid (F = DF i) := ⟨_, hide rfl⟩
  rw [← HF.out] at HL ⊢
  by_cases h1 : i < 4
  · have hF : F = 0 := by rw [HL.out, if_pos h1]
    subst hF
    have g1 : (i : Int) < 4 := by omega
    go_enter Tryd.func44, Tryd.ntmps44
    go_wp2
    go_ret
    exact ⟨rfl, rfl⟩
  · have g1 : ¬ (i : Int) < 4 := by omega
    have hF : F = (i - 2) / 2 := by rw [HL.out, if_neg h1]
    obtain ⟨p, hp⟩ : ∃ p : Int, (i : Int) - 2 = p := ⟨_, rfl⟩
    have g4 : p.tdiv 2 = (F : Int) := by rw [Int.tdiv_eq_ediv_of_nonneg (by omega)]; omega
    have g5 : wrap64 (F : Int) = (F : Int) := by unfold wrap64; omega
    have g6 : wrap64 p = p := by unfold wrap64; omega
    clear hF
    go_enter Tryd.func44, Tryd.ntmps44
    go_wp2
    go_ret
    exact ⟨rfl, rfl⟩

theorem xdbase_any (i : Nat) (hi : i ≤ 30) (w : World) : Calls Tryd.prog 43 #[.int .i64 (i : Int)] w fun e w' => e = .returned (.int .i64 (DB i : Int)) ∧ w' = w := by
  have HLN : Hid (∀ j, j < 30 → DB (j + 1) = DB j + 2 ^ DF j) := dbNext
  have HLE := hide dfLe
  have HL0 : Hid (DB 0 = 1) := rfl
  have HL3 : Hid (DB 30 = 32769) := rfl
  go_enter Tryd.func43, Tryd.ntmps43
  go_wp2
  go_loopw [3, 4] (fun b t wr => ∃ j : Nat, j ≤ i ∧ b = .int .i64 (DB j : Int) ∧ t = .int .i64 (j : Int) ∧ wr = w) (fun _ t _ => i - (intOf t).toNat)
  case atStart => exact ⟨0, Nat.zero_le _, by rw [HL0.out]; rfl, rfl, rfl⟩
  case round =>
    obtain ⟨j, hj, rfl, rfl, rfl⟩ := hrel
    by_cases hlt : j < i
    · have hlt' : (j : Int) < (i : Int) := by omega
      have HBI := hide (xdbits_any j (by omega) wr)
      obtain ⟨e1, e2, e3⟩ := HLE.out j (by omega)
      have hnx := HLN.out j (by omega)
      obtain ⟨F, hF⟩ : ∃ F, DF j = F := ⟨_, rfl⟩
      rw [hF] at HBI e1 e3 hnx
      obtain ⟨w1, w2, w3⟩ := wrap_pow (F := F) (by omega)
      obtain ⟨q, hq⟩ : ∃ q, 2 ^ F = q := ⟨_, rfl⟩
      rw [hq] at w1 hnx e3
      obtain ⟨B, hB⟩ : ∃ B, DB j = B := ⟨_, rfl⟩
      obtain ⟨B', hB'⟩ : ∃ B, DB (j + 1) = B := ⟨_, rfl⟩
      rw [hB, hB'] at hnx
      rw [hB] at e2
      have hmin : min F 64 = F := by omega
      have hcv : IntKind.u64.wrap (F : Int) = (F : Int) := by rw [IntKind.wrap_u64]; omega
      have had : wrap64 ((B : Int) + (q : Int)) = (B' : Int) := by unfold wrap64; omega
      rw [hB]
      have HBB := hide hB'
      clear hq hF w2 w3 hB hB' hnx e1 e2 e3
      go_wp2_with fail
      refine HBI.out.mono ?_
      rintro e w8 ⟨rfl, hw8⟩
      subst hw8
      go_wp2
      go_roundw
      case rel => exact ⟨j + 1, by omega, by rw [HBB.out, had], by go_num, by first | rfl | trivial⟩
      case measure => simp [intOf]; omega
    · obtain rfl : j = i := by omega
      have hlt' : ¬ (j : Int) < (j : Int) := by omega
      obtain ⟨B, hB⟩ : ∃ B, DB j = B := ⟨_, rfl⟩
      rw [hB]
      have HBH := hide hB
      clear hB
      go_wp2
      go_ret
      exact ⟨by rw [HBH.out]; rfl, rfl⟩

theorem xLengthOf_any (s x : Int) (w : World) : Calls Tryd.prog 36 #[.int .i64 s, .int .i64 x] w fun e w' => e = .returned (.tuple #[.int .i64 (lV s x), .int .i64 (lE s x)]) ∧ w' = w := by
  by_cases h : 257 ≤ s ∧ s ≤ 285
  · obtain ⟨i, hs⟩ : ∃ i : Nat, s = ((257 + i : Nat) : Int) := ⟨s.toNat - 257, by omega⟩
    have hi : i < 29 := by omega
    have HV : Hid (lV s x = ofV (LB i) (LF i) x ∧ lE s x = ofE (LF i) x) := by
      unfold lV lE
      rw [if_pos h, if_pos h, hs, Int.toNat_natCast, show 257 + i - 257 = i by omega]
      exact ⟨rfl, rfl⟩
    have HBI := hide (xlbits_any i s hi hs w)
    have HBA := hide (xlbase_any i s hi hs w)
    obtain ⟨e1, e2, e3⟩ := lfLe i hi
    rw [HV.out.1, HV.out.2]
    obtain ⟨F, hF⟩ : ∃ F, LF i = F := ⟨_, rfl⟩
    obtain ⟨B, hB⟩ : ∃ B, LB i = B := ⟨_, rfl⟩
    rw [hF] at HBI e1 e3 ⊢
    rw [hB] at HBA e2 ⊢
    obtain ⟨w1, w2, w3⟩ := wrap_pow (F := F) (by omega)
    have HI := hide (of_in (B := B) (F := F) (x := x))
    have HO := hide (of_out (B := B) (F := F) (x := x))
    obtain ⟨q, hq⟩ : ∃ q, 2 ^ F = q := ⟨_, rfl⟩
    rw [hq] at w1 w2 w3 HI HO e3
    have hmin : min F 64 = F := by omega
    have hcv : IntKind.u64.wrap (F : Int) = (F : Int) := by rw [IntKind.wrap_u64]; omega
    have g1 : ¬ s < 257 := by omega
    have g2 : ¬ (285 : Int) < s := by omega
    clear hF hB hq hs h e1
    by_cases h0 : x < 0
    · have HV2 := hide (HO.out (by omega))
      rw [HV2.out.1, HV2.out.2]
      go_enter Tryd.func36, Tryd.ntmps36
      go_wp2
      refine bodyPost_ret (results_tmp2 rfl _ _ _) rfl ?_
      exact ⟨rfl, rfl⟩
    · by_cases h1 : (q : Int) ≤ x
      · have HV2 := hide (HO.out (by omega))
        rw [HV2.out.1, HV2.out.2]
        go_enter Tryd.func36, Tryd.ntmps36
        go_wp2_with fail
        refine HBI.out.mono ?_
        rintro e w8 ⟨rfl, hw8⟩
        subst hw8
        go_wp2
        refine bodyPost_ret (results_tmp2 rfl _ _ _) rfl ?_
        exact ⟨rfl, rfl⟩
      · have HV2 := hide (HI.out (by omega))
        rw [HV2.out.1, HV2.out.2]
        have hwx : wrap64 ((B : Int) + x) = (B : Int) + x := by unfold wrap64; omega
        go_enter Tryd.func36, Tryd.ntmps36
        go_wp2_with fail
        refine HBI.out.mono ?_
        rintro e w8 ⟨rfl, hw8⟩
        subst hw8
        go_wp2_with fail
        refine HBA.out.mono ?_
        rintro e w8 ⟨rfl, hw8⟩
        subst hw8
        go_wp2
        refine bodyPost_ret (results_tmp2 rfl _ _ _) rfl ?_
        exact ⟨rfl, rfl⟩
  · have HV : Hid (lV s x = 0 ∧ lE s x = 1) := by unfold lV lE; rw [if_neg h, if_neg h]; exact ⟨rfl, rfl⟩
    rw [HV.out.1, HV.out.2]
    by_cases h1 : s < 257
    · go_enter Tryd.func36, Tryd.ntmps36
      go_wp2
      refine bodyPost_ret (results_tmp2 rfl _ _ _) rfl ?_
      exact ⟨rfl, rfl⟩
    · have h2 : (285 : Int) < s := by omega
      go_enter Tryd.func36, Tryd.ntmps36
      go_wp2
      refine bodyPost_ret (results_tmp2 rfl _ _ _) rfl ?_
      exact ⟨rfl, rfl⟩

theorem xDistOf_any (s x : Int) (w : World) : Calls Tryd.prog 37 #[.int .i64 s, .int .i64 x] w fun e w' => e = .returned (.tuple #[.int .i64 (dV s x), .int .i64 (dE s x)]) ∧ w' = w := by
  by_cases h : 0 ≤ s ∧ s ≤ 29
  · obtain ⟨i, rfl⟩ := Int.eq_ofNat_of_zero_le (show 0 ≤ s by omega)
    have hi : i < 30 := by omega
    have HV : Hid (dV (i : Int) x = ofV (DB i) (DF i) x ∧ dE (i : Int) x = ofE (DF i) x) := by
      unfold dV dE
      rw [if_pos h, if_pos h, Int.toNat_natCast]
      exact ⟨rfl, rfl⟩
    have HBI := hide (xdbits_any i hi w)
    have HBA := hide (xdbase_any i (by omega) w)
    obtain ⟨e1, e2, e3⟩ := dfLe i hi
    rw [HV.out.1, HV.out.2]
    obtain ⟨F, hF⟩ : ∃ F, DF i = F := ⟨_, rfl⟩
    obtain ⟨B, hB⟩ : ∃ B, DB i = B := ⟨_, rfl⟩
    rw [hF] at HBI e1 e3 ⊢
    rw [hB] at HBA e2 ⊢
    obtain ⟨w1, w2, w3⟩ := wrap_pow (F := F) (by omega)
    have HI := hide (of_in (B := B) (F := F) (x := x))
    have HO := hide (of_out (B := B) (F := F) (x := x))
    obtain ⟨q, hq⟩ : ∃ q, 2 ^ F = q := ⟨_, rfl⟩
    rw [hq] at w1 w2 w3 HI HO e3
    have hmin : min F 64 = F := by omega
    have hcv : IntKind.u64.wrap (F : Int) = (F : Int) := by rw [IntKind.wrap_u64]; omega
    have g1 : ¬ (i : Int) < 0 := by omega
    have g2 : ¬ (29 : Int) < (i : Int) := by omega
    clear hF hB hq h e1
    by_cases h0 : x < 0
    · have HV2 := hide (HO.out (by omega))
      rw [HV2.out.1, HV2.out.2]
      go_enter Tryd.func37, Tryd.ntmps37
      go_wp2
      refine bodyPost_ret (results_tmp2 rfl _ _ _) rfl ?_
      exact ⟨rfl, rfl⟩
    · by_cases h1 : (q : Int) ≤ x
      · have HV2 := hide (HO.out (by omega))
        rw [HV2.out.1, HV2.out.2]
        go_enter Tryd.func37, Tryd.ntmps37
        go_wp2_with fail
        refine HBI.out.mono ?_
        rintro e w8 ⟨rfl, hw8⟩
        subst hw8
        go_wp2
        refine bodyPost_ret (results_tmp2 rfl _ _ _) rfl ?_
        exact ⟨rfl, rfl⟩
      · have HV2 := hide (HI.out (by omega))
        rw [HV2.out.1, HV2.out.2]
        have hwx : wrap64 ((B : Int) + x) = (B : Int) + x := by unfold wrap64; omega
        go_enter Tryd.func37, Tryd.ntmps37
        go_wp2_with fail
        refine HBI.out.mono ?_
        rintro e w8 ⟨rfl, hw8⟩
        subst hw8
        go_wp2_with fail
        refine HBA.out.mono ?_
        rintro e w8 ⟨rfl, hw8⟩
        subst hw8
        go_wp2
        refine bodyPost_ret (results_tmp2 rfl _ _ _) rfl ?_
        exact ⟨rfl, rfl⟩
  · have HV : Hid (dV s x = 0 ∧ dE s x = 1) := by unfold dV dE; rw [if_neg h, if_neg h]; exact ⟨rfl, rfl⟩
    rw [HV.out.1, HV.out.2]
    by_cases h1 : s < 0
    · go_enter Tryd.func37, Tryd.ntmps37
      go_wp2
      refine bodyPost_ret (results_tmp2 rfl _ _ _) rfl ?_
      exact ⟨rfl, rfl⟩
    · have h2 : (29 : Int) < s := by omega
      go_enter Tryd.func37, Tryd.ntmps37
      go_wp2
      refine bodyPost_ret (results_tmp2 rfl _ _ _) rfl ?_
      exact ⟨rfl, rfl⟩

end Go.Proofs.YtkmefeihkmbngaaDoor

namespace Go.Proofs.YtkmefeihkmbngaaDoor
open Go.RowKit
set_option maxRecDepth 20000
set_option linter.unusedVariables false

theorem lb_up0 : ∀ i : Nat, i < 29 → ∀ j : Nat, j < 29 → i < j → LB i < LB j := by decide +kernel

theorem db_up0 : ∀ i : Nat, i < 31 → ∀ j : Nat, j < 31 → i < j → DB i < DB j := by decide +kernel

theorem lb_up (i j : Nat) (hi : i < 29) (hj : j < 29) (h : i < j) : LB i < LB j := lb_up0 i hi j hj h

theorem db_up (i j : Nat) (hi : i < 31) (hj : j < 31) (h : i < j) : DB i < DB j := db_up0 i hi j hj h

theorem last_le (b : Nat → Nat) (x : Nat) (h0 : b 0 ≤ x) : ∀ N, 0 < N → (∀ i j, i < N → j < N → i < j → b i < b j) → ∃ i, i < N ∧ b i ≤ x ∧ ∀ j, i < j → j < N → x < b j := by
  intro N
  induction N with
  | zero => intro h; omega
  | succ n ih =>
    intro _ hm
    by_cases hn : n = 0
    · subst hn
      exact ⟨0, by omega, h0, fun j h1 h2 => by omega⟩
    · by_cases hb : b n ≤ x
      · exact ⟨n, by omega, hb, fun j h1 h2 => by omega⟩
      · obtain ⟨i, h1, h2, h3⟩ := ih (by omega) (fun i j hi hj => hm i j (by omega) (by omega))
        refine ⟨i, by omega, h2, fun j h4 h5 => ?_⟩
        by_cases e : j = n
        · subst e; omega
        · exact h3 j h4 (by omega)

def Lsy (x i : Nat) : Prop := i < 29 ∧ LB i ≤ x ∧ ∀ j, i < j → j < 29 → x < LB j
def Dsy (x i : Nat) : Prop := i < 30 ∧ DB i ≤ x ∧ ∀ j, i < j → j < 30 → x < DB j

theorem lsy_is {x : Nat} (h : 3 ≤ x) : ∃ i, Lsy x i := last_le LB x (by rw [show LB 0 = 3 by decide]; exact h) 29 (by omega) lb_up
theorem dsy_is {x : Nat} (h : 1 ≤ x) : ∃ i, Dsy x i := last_le DB x (by rw [show DB 0 = 1 by decide]; exact h) 30 (by omega) (fun i j hi hj => db_up i j (by omega) (by omega))

set_option maxHeartbeats 1000000 in
theorem search_any (f : Nat) (cap : Value) (N k : Nat) (w : World) (hk : k ≤ N) (hN : N ≤ 1000) (hcall : ∀ args w, (callFunc f args).run Tryd.prog w = .ok (.enter f args) w)
    (hc : ∀ i n, i < N → Calls Tryd.prog f #[.int .i64 (i : Int), cap] (w.drewN n) fun e w' => e = .returned (.bool (decide (k ≤ i))) ∧ ∃ m, w' = w.drewN m) :
    Calls Tryd.prog 52 #[.int .i64 (N : Int), .func (.func f) #[] #[cap]] w fun e w' => e = .returned (.int .i64 (k : Int)) ∧ ∃ n, w' = w.drewN n := by
  have HC := hide hc
  clear hc
  go_enter Tryd.func52, Tryd.ntmps52
  go_wp2
  go_loopw [5, 6] (fun a b wr => ∃ i j n : Nat, i ≤ k ∧ k ≤ j ∧ j ≤ N ∧ a = .int .i64 (i : Int) ∧ b = .int .i64 (j : Int) ∧ wr = w.drewN n) (fun a b _ => (intOf b).toNat - (intOf a).toNat)
  case atStart => exact ⟨0, N, 0, Nat.zero_le _, hk, Nat.le_refl _, rfl, rfl, rfl⟩
  case round =>
    obtain ⟨i, j, n, h1, h2, h3, rfl, rfl, hw⟩ := hrel
    subst hw
    by_cases hlt : i < j
    · have hlt' : (i : Int) < (j : Int) := by omega
      obtain ⟨h, hh⟩ : ∃ h, (i + j) / 2 = h := ⟨_, rfl⟩
      have hij : i ≤ h ∧ h < j := by omega
      have HQ := hide (HC.out h n (by omega))
      have hb : (i : Int) + (j : Int) ≤ 2000 ∧ (h : Int) ≤ 1000 := by omega
      have g3 : ((i : Int) + (j : Int)) / 2 = (h : Int) := by omega
      have g1 : wrap64 ((i : Int) + (j : Int)) = (i : Int) + (j : Int) := by unfold wrap64; omega
      have g2 : IntKind.u64.wrap ((i : Int) + (j : Int)) = (i : Int) + (j : Int) := by rw [IntKind.wrap_u64]; omega
      have g4 : IntKind.u64.wrap (h : Int) = (h : Int) := by rw [IntKind.wrap_u64]; omega
      have g5 : wrap64 (h : Int) = (h : Int) := by unfold wrap64; omega
      clear hh hb
      go_wp2_with fail
      refine HQ.out.mono ?_
      rintro e w2 ⟨rfl, m, hw2⟩
      subst hw2
      by_cases hkh : k ≤ h
      · have HD : Hid (decide (k ≤ h) = true) := decide_eq_true hkh
        rw [HD.out]
        go_wp2
        go_roundw
        case rel => exact ⟨i, h, m, h1, hkh, by omega, rfl, rfl, rfl⟩
        case measure => simp [intOf]; omega
      · have HD : Hid (decide (k ≤ h) = false) := decide_eq_false hkh
        rw [HD.out]
        go_wp2
        go_roundw
        case rel => exact ⟨h + 1, j, m, by omega, h2, h3, by go_num, rfl, rfl⟩
        case measure => simp [intOf]; omega
    · obtain rfl : i = k := by omega
      obtain rfl : j = i := by omega
      have hlt' : ¬ (j : Int) < (j : Int) := by omega
      go_wp2
      go_ret
      exact ⟨rfl, n, rfl⟩
end Go.Proofs.YtkmefeihkmbngaaDoor

