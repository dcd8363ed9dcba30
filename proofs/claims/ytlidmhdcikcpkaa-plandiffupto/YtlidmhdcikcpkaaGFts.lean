import Derived.Test.YtlidmhdcikcpkaaGWbs
import Derived.Test.YtlidmhdcikcpkaaGLim
namespace Go.Proofs.Ytlidmhdcikcpkaa
open Go.RowKit Go.Maps
set_option maxRecDepth 20000
set_option linter.unusedVariables false
set_option linter.unusedSimpArgs false

def spc (s : Int × Int) : Array Value := #[.int .i64 s.1, .int .i64 s.2]
theorem infoSp : (Try.prog.info? 24).map (fun i => (i.zero, i.size, i.bytes)) = some (some (.agg #[.int .i64 0, .int .i64 0]), 2, 16) := by kernel_rfl
theorem spc_get {S : List (Int × Int)} {i : Nat} (h : i < S.length) : (S.map spc).getD i #[] = spc (S.getD i (0, 0)) := by simp [List.getD, h]
def Okp (S : List (Int × Int)) : Prop := ∀ s ∈ S, (-9223372036854775808 ≤ s.1 ∧ s.1 ≤ 9223372036854775807) ∧ (-9223372036854775808 ≤ s.2 ∧ s.2 ≤ 9223372036854775807)
theorem okp_get {S : List (Int × Int)} (h : Okp S) {i : Nat} (hi : i < S.length) : (-9223372036854775808 ≤ (S.getD i (0, 0)).1 ∧ (S.getD i (0, 0)).1 ≤ 9223372036854775807) ∧ (-9223372036854775808 ≤ (S.getD i (0, 0)).2 ∧ (S.getD i (0, 0)).2 ≤ 9223372036854775807) := h _ (by simp [List.getD, hi])

/-- Fit in numbers. -/
def ftP (n : Int) (s : Int × Int) : Prop := 0 ≤ s.1 ∧ s.1 ≤ s.2 ∧ n ≤ s.2 - s.1
instance (n : Int) (s : Int × Int) : Decidable (ftP n s) := by unfold ftP; infer_instance
def ftN (n : Int) : List (Int × Int) → Int
  | [] => -1
  | s :: S => if ftP n s then s.1 else ftN n S
def fit (S : List (Int × Int)) (n : Int) : Int := if n < 0 then -1 else ftN n S
theorem ftN_at {n : Int} {S : List (Int × Int)} {k : Nat} (h : k < S.length) : (ftP n (S.getD k (0, 0)) → ftN n (S.drop k) = (S.getD k (0, 0)).1) ∧ (¬ ftP n (S.getD k (0, 0)) → ftN n (S.drop k) = ftN n (S.drop (k + 1))) := by
  rw [drop_get (0, 0) h]
  exact ⟨fun q => if_pos q, fun q => if_neg q⟩

set_option maxHeartbeats 8000000 in
theorem pFit_any (v : Value) (S : List (Int × Int)) (n : Int) (w : World) (h : SR 2 w v (S.map spc)) (hok : Okp S) (hn : -9223372036854775808 ≤ n ∧ n ≤ 9223372036854775807) :
    Calls Try.prog 7 #[v, .int .i64 n] w fun e w' => e = .returned (.int .i64 (fit S n)) ∧ Below w.heap.size w w' := by
  have HS := hide h
  have HO := hide hok
  obtain ⟨ca, ccap, rfl, c1, c2⟩ := h.open
  have elc : (S.map spc).length = S.length := List.length_map ..
  rw [elc] at HS c1 ⊢
  clear h hok elc
  by_cases hneg : n < 0
  · have e : fit S n = -1 := if_pos hneg
    rw [e]
    clear e
    go_enter Try.func7, Try.ntmps7
    go_wp2
    go_ret
    exact ⟨rfl, Below.refl _ _⟩
  have HF : Hid (fit S n = ftN n S) := if_neg hneg
  go_enter Try.func7, Try.ntmps7
  go_wp2
  go_loopw [6, 11] (fun _ i wr => ∃ (j : Nat), i = .int .i64 (j : Int) ∧ j ≤ S.length ∧ Hid (ftN n (S.drop j) = ftN n S) ∧ Hid (Below w.heap.size w wr)) (fun _ i _ => S.length - (intOf i).toNat)
  case atStart => exact ⟨0, rfl, Nat.zero_le _, rfl, Below.refl _ _⟩
  case round =>
    obtain ⟨j, rfl, hj, HD, HB⟩ := hrel
    by_cases hlt : j < S.length
    · have hlt' : (j : Int) < (S.length : Int) := by omega
      obtain ⟨b0, o0, hla, hbl, hrg⟩ := (HS.out.low HB.out).row (i := j) (by rw [List.length_map]; exact hlt)
      have hok := okp_get HO.out hlt
      have HDT := hide (ftN_at (n := n) hlt)
      rw [spc_get hlt] at hrg
      obtain ⟨s, hs⟩ : ∃ s, s = S.getD j (0, 0) := ⟨_, rfl⟩
      rw [← hs] at hrg hok HDT
      obtain ⟨f0, t0⟩ := s
      have g0 := hrg 0 (.int .i64 f0) rfl
      have g1 := hrg 1 (.int .i64 t0) rfl
      rw [Nat.add_zero] at g0
      simp only at hok
      obtain ⟨⟨i0, i1⟩, i2, i3⟩ := hok
      subst hla
      have HBa : Hid (Below w.heap.size w (wr.alloc (.cells #[.int .i64 f0, .int .i64 t0] 24))) := HB.out.alloc HB.out.size _
      obtain ⟨w2, hw2⟩ : ∃ y, wr.alloc (.cells #[.int .i64 f0, .int .i64 t0] 24) = y := ⟨_, rfl⟩
      have hbx : w2.heap[wr.heap.size]? = some (.cells #[.int .i64 f0, .int .i64 t0] 24) := by rw [← hw2]; exact heap_alloc_new _ _
      rw [hw2] at HBa
      have q0 := boxC hbx 0 rfl
      have q1 := boxC hbx 1 rfl
      clear hs hrg hbx
      by_cases hp : ftP n (f0, t0)
      · have HE : Hid (fit S n = f0) := by show _ = _; rw [HF.out, ← HD.out, HDT.out.1 hp]
        obtain ⟨p0, p1, p2⟩ := hp
        clear HDT HD
        simp only at p0 p1 p2
        go_wp2
        go_ret
        rw [HE.out]
        exact ⟨rfl, HBa.out⟩
      · have HD2 : Hid (ftN n (S.drop (j + 1)) = ftN n S) := by show _ = _; rw [← HDT.out.2 hp, HD.out]
        clear HDT HD
        by_cases p0 : 0 ≤ f0
        · by_cases p1 : f0 ≤ t0
          · have p2 : ¬ n ≤ t0 - f0 := fun q => hp ⟨p0, p1, q⟩
            clear hp
            go_wp2
            go_roundw
            case rel => exact ⟨j + 1, by go_num, by omega, HD2.out, HBa.out⟩
            case measure => simp [intOf]; omega
          · clear hp
            go_wp2
            go_roundw
            case rel => exact ⟨j + 1, by go_num, by omega, HD2.out, HBa.out⟩
            case measure => simp [intOf]; omega
        · clear hp
          go_wp2
          go_roundw
          case rel => exact ⟨j + 1, by go_num, by omega, HD2.out, HBa.out⟩
          case measure => simp [intOf]; omega
    · have hje : j = S.length := by omega
      subst hje
      have HE : Hid (fit S n = -1) := by
        have := HD.out
        rw [List.drop_length] at this
        show _ = _
        rw [HF.out, ← this]
        rfl
      go_wp2
      go_ret
      rw [HE.out]
      exact ⟨rfl, HB.out⟩

set_option maxHeartbeats 8000000 in
theorem yFit_any (v : Value) (S : List (Int × Int)) (n : Int) (w : World) (h : SR 2 w v (S.map spc)) (hok : Okp S) (hn : -9223372036854775808 ≤ n ∧ n ≤ 9223372036854775807) :
    Calls Try.prog 8 #[v, .int .i64 n] w fun e w' => e = .returned (.int .i64 (fit S n)) ∧ Below w.heap.size w w' := by
  have HS := hide h
  have HO := hide hok
  obtain ⟨ca, ccap, rfl, c1, c2⟩ := h.open
  have elc : (S.map spc).length = S.length := List.length_map ..
  rw [elc] at HS c1 ⊢
  clear h hok elc
  by_cases hneg : n < 0
  · have e : fit S n = -1 := if_pos hneg
    rw [e]
    clear e
    go_enter Try.func8, Try.ntmps8
    go_wp2
    go_ret
    exact ⟨rfl, Below.refl _ _⟩
  have HF : Hid (fit S n = ftN n S) := if_neg hneg
  go_enter Try.func8, Try.ntmps8
  go_wp2
  go_loopw [5, 6] (fun i _ wr => ∃ (j : Nat), i = .int .i64 (j : Int) ∧ j ≤ S.length ∧ Hid (ftN n (S.drop j) = ftN n S) ∧ Hid (Below w.heap.size w wr)) (fun i _ _ => S.length - (intOf i).toNat)
  case atStart => exact ⟨0, rfl, Nat.zero_le _, rfl, Below.refl _ _⟩
  case round =>
    obtain ⟨j, rfl, hj, HD, HB⟩ := hrel
    by_cases hlt : j < S.length
    · have hlt' : (j : Int) < (S.length : Int) := by omega
      obtain ⟨b0, o0, hla, hbl, hrg⟩ := (HS.out.low HB.out).row (i := j) (by rw [List.length_map]; exact hlt)
      have hok := okp_get HO.out hlt
      have HDT := hide (ftN_at (n := n) hlt)
      rw [spc_get hlt] at hrg
      obtain ⟨s, hs⟩ : ∃ s, s = S.getD j (0, 0) := ⟨_, rfl⟩
      rw [← hs] at hrg hok HDT
      obtain ⟨f0, t0⟩ := s
      have g0 := hrg 0 (.int .i64 f0) rfl
      have g1 := hrg 1 (.int .i64 t0) rfl
      rw [Nat.add_zero] at g0
      simp only at hok
      obtain ⟨⟨i0, i1⟩, i2, i3⟩ := hok
      subst hla
      have HBa : Hid (Below w.heap.size w (wr.alloc (.cells #[.int .i64 f0, .int .i64 t0] 24))) := HB.out.alloc HB.out.size _
      obtain ⟨w2, hw2⟩ : ∃ y, wr.alloc (.cells #[.int .i64 f0, .int .i64 t0] 24) = y := ⟨_, rfl⟩
      have hbx : w2.heap[wr.heap.size]? = some (.cells #[.int .i64 f0, .int .i64 t0] 24) := by rw [← hw2]; exact heap_alloc_new _ _
      rw [hw2] at HBa
      have q0 := boxC hbx 0 rfl
      have q1 := boxC hbx 1 rfl
      clear hs hrg hbx
      by_cases hp : ftP n (f0, t0)
      · have HE : Hid (fit S n = f0) := by show _ = _; rw [HF.out, ← HD.out, HDT.out.1 hp]
        obtain ⟨p0, p1, p2⟩ := hp
        clear HDT HD
        simp only at p0 p1 p2
        go_wp2
        go_ret
        rw [HE.out]
        exact ⟨rfl, HBa.out⟩
      · have HD2 : Hid (ftN n (S.drop (j + 1)) = ftN n S) := by show _ = _; rw [← HDT.out.2 hp, HD.out]
        clear HDT HD
        by_cases p0 : 0 ≤ f0
        · by_cases p1 : f0 ≤ t0
          · have p2 : ¬ n ≤ t0 - f0 := fun q => hp ⟨p0, p1, q⟩
            clear hp
            go_wp2
            go_roundw
            case rel => exact ⟨j + 1, by go_num, by omega, HD2.out, HBa.out⟩
            case measure => simp [intOf]; omega
          · clear hp
            go_wp2
            go_roundw
            case rel => exact ⟨j + 1, by go_num, by omega, HD2.out, HBa.out⟩
            case measure => simp [intOf]; omega
        · clear hp
          go_wp2
          go_roundw
          case rel => exact ⟨j + 1, by go_num, by omega, HD2.out, HBa.out⟩
          case measure => simp [intOf]; omega
    · have hje : j = S.length := by omega
      subst hje
      have HE : Hid (fit S n = -1) := by
        have := HD.out
        rw [List.drop_length] at this
        show _ = _
        rw [HF.out, ← this]
        rfl
      go_wp2
      go_ret
      rw [HE.out]
      exact ⟨rfl, HB.out⟩
end Go.Proofs.Ytlidmhdcikcpkaa

