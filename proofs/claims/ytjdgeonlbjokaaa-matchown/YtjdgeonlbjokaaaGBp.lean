import Derived.Test.YtjdgeonlbjokaaaGBn
import Derived.Test.YtjdgeonlbjokaaaGOix
import Derived.Test.YtjdgeonlbjokaaaGEx
import Derived.Laws.Cover3
import Derived.Lib.Bytes
import Derived.ChangeKeysEq
import Derived.Deep.RegionWith
namespace Go.Proofs.Ytjdgeonlbjokaaa
open Go.RowKit Go.Maps
set_option maxRecDepth 20000
set_option linter.unusedVariables false

theorem fits_any (D : List Int) (i : Nat) (ao : Option Addr) (cap : Nat) (w : World) (hn : D.length ≤ 1000000000) (hi : i ≤ 1000000000) :
    Calls Try.prog 37 #[.slice ao D.length cap, .int .i64 i] w fun e w' => e = .returned (.bool (decide (i + 3 ≤ D.length))) ∧ w' = w := by
  by_cases h : i + 3 ≤ D.length
  · have HE : Hid (decide (i + 3 ≤ D.length) = true) := decide_eq_true h
    have g : (i : Int) + 3 ≤ (D.length : Int) := by omega
    go_enter Try.func37, Try.ntmps37
    go_wp2
    go_ret
    rw [HE.out]
    exact ⟨rfl, rfl⟩
  · have HE : Hid (decide (i + 3 ≤ D.length) = false) := decide_eq_false h
    have g : ¬ (i : Int) + 3 ≤ (D.length : Int) := by omega
    clear h
    go_enter Try.func37, Try.ntmps37
    go_wp2
    go_ret
    rw [HE.out]
    exact ⟨rfl, rfl⟩

def thr (D : List Int) (i : Nat) : Value := .agg #[.int .u8 (D.getD i 0), .int .u8 (D.getD (i + 1) 0), .int .u8 (D.getD (i + 2) 0)]

set_option maxHeartbeats 1000000 in
theorem three_any (v : Value) (D : List Int) (i : Nat) (w : World) (h : SB w v D) (hi : i + 3 ≤ D.length) (hn : D.length ≤ 1000000000) :
    Calls Try.prog 38 #[v, .int .i64 i] w fun e w' => e = .returned (thr D i) ∧ Below w.heap.size w w' := by
  have HS := hide h
  obtain ⟨ao, cap, rfl, hlc, hcm⟩ := h.open
  clear h
  obtain ⟨b, o, rfl, c0⟩ := HS.out.get (Below.refl _ _) (k := i) (by omega)
  obtain ⟨b', o', e', c1⟩ := HS.out.get (Below.refl _ _) (k := i + 1) (by omega)
  simp only [Option.some.injEq, Addr.mk.injEq, and_true] at e'
  obtain ⟨rfl, rfl⟩ := e'
  obtain ⟨b', o', e', c2⟩ := HS.out.get (Below.refl _ _) (k := i + 2) (by omega)
  simp only [Option.some.injEq, Addr.mk.injEq, and_true] at e'
  obtain ⟨rfl, rfl⟩ := e'
  unfold thr
  obtain ⟨x, HX⟩ : ∃ x, Hid (x = D.getD i 0) := ⟨_, rfl⟩
  obtain ⟨y, HY⟩ : ∃ x, Hid (x = D.getD (i + 1) 0) := ⟨_, rfl⟩
  obtain ⟨z, HZ⟩ : ∃ x, Hid (x = D.getD (i + 2) 0) := ⟨_, rfl⟩
  rw [← HX.out] at c0 ⊢
  rw [← HY.out] at c1 ⊢
  rw [← HZ.out] at c2 ⊢
  have hb : b < w.heap.size := World.block_lt_of_cell? w _ c0
  have hbn : b ≠ w.heap.size := by omega
  have a0 : (w.alloc (.cells #[.int .u8 0, .int .u8 0, .int .u8 0] 69)).cell? ⟨b, o + i, none⟩ = some (.int .u8 x) := (((Below.refl _ _).alloc (Nat.le_refl _) _).cell hb).trans c0
  have a1 : (w.alloc (.cells #[.int .u8 0, .int .u8 0, .int .u8 0] 69)).cell? ⟨b, o + i + 1, none⟩ = some (.int .u8 y) := (((Below.refl _ _).alloc (Nat.le_refl _) _).cell hb).trans c1
  have a2 : (w.alloc (.cells #[.int .u8 0, .int .u8 0, .int .u8 0] 69)).cell? ⟨b, o + i + 2, none⟩ = some (.int .u8 z) := (((Below.refl _ _).alloc (Nat.le_refl _) _).cell hb).trans c2
  have hcap : (i : Int) + 3 ≤ (cap : Int) := by omega
  have hcn : ¬ cap = i := by omega
  have t3 : ((i : Int) + 3).toNat = i + 3 := by omega
  clear c0 c1 c2
  have hat : ∀ w, (Instr.arrayAt 69 (.slice (some ⟨b, o + i, none⟩) 3 (cap - i))).run Try.prog w = .ok (.pointer (some ⟨b, o + i, none⟩)) w := fun w => run_arrayAt w 69 _ 3 _ 3 (cap - i) Try.underlying69 (Nat.le_refl _)
  have HB : Hid (Below w.heap.size w (w.alloc (.cells #[.int .u8 x, .int .u8 y, .int .u8 z] 69))) := (Below.refl _ _).alloc (Nat.le_refl _) _
  go_enter Try.func38, Try.ntmps38
  go_wp2_with (simp only [hat])
  refine bodyPost_ret (v := .agg #[.int .u8 x, .int .u8 y, .int .u8 z]) ?_ rfl ⟨rfl, HB.out⟩
  have hres : Try.f38.results = #[.cell 4 69] := by kernel_rfl
  simp only [results, hres]
  go_simp
end Go.Proofs.Ytjdgeonlbjokaaa

namespace Go.Proofs.Ytjdgeonlbjokaaa
open Go.RowKit Go.Maps
set_option maxRecDepth 20000
set_option linter.unusedVariables false

theorem SI.drop {w : World} {b o cap : Nat} {L : List Int} (h : SI w (.slice (some ⟨b, o, none⟩) L.length cap) L) {m : Nat} (hm : m ≤ L.length) : SI w (.slice (some ⟨b, o + m, none⟩) (L.length - m) (cap - m)) (L.drop m) := by
  obtain ⟨ao', cap', he, h1, h2, h3, h4⟩ := h
  simp only [Value.slice.injEq] at he
  obtain ⟨rfl, -, rfl⟩ := he
  refine ⟨some ⟨b, o + m, none⟩, cap - m, by rw [List.length_drop], by rw [List.length_drop]; omega, Nat.le_trans (Nat.sub_le _ _) h2, (fun e => by cases e), fun x hx i hi => ?_⟩
  cases hx
  rw [List.length_drop] at hi
  have c := h4 _ rfl (m + i) (by omega)
  rw [Addr.add_lit] at c ⊢
  rw [Nat.add_assoc, c]
  simp

theorem SI.nilAny {w : World} (a : Option Addr) (c : Nat) (hc : c ≤ maxLen) (ha : a = none → c = 0) : SI w (.slice a 0 c) [] :=
  ⟨a, c, rfl, Nat.zero_le _, hc, ha, fun x hx i hi => by simp at hi⟩

set_option maxHeartbeats 1000000 in
theorem nearest_any (v : Value) (L : List Int) (C : Nat) (w : World) (h : SI w v L) (hl : L.length ≤ 1000000000) (hC : C ≤ 1000000000) :
    Calls Try.prog 30 #[v, .int .i64 C] w fun e w' => ∃ v', e = .returned v' ∧ SI w v' (L.drop (L.length - C)) ∧ w' = w := by
  have HS := hide h
  obtain ⟨ao, cap, rfl, hlc, hcm⟩ := h.open
  by_cases hc : L.length ≤ C
  · have HR : Hid (SI w (.slice ao L.length cap) (L.drop (L.length - C))) := by
      show SI _ _ _
      rw [show L.length - C = 0 by omega, List.drop_zero]
      exact h
    have g : ¬ (0 : Int) < (L.length : Int) - (C : Int) := by omega
    clear h
    cases ao with
    | none =>
      go_enter Try.func30, Try.ntmps30
      go_wp2
      go_ret
      first
      | exact ⟨_, rfl, HR.out, rfl⟩
      | exact ⟨_, rfl, HS.out, rfl⟩
    | some x =>
      go_enter Try.func30, Try.ntmps30
      go_wp2
      go_ret
      first
      | exact ⟨_, rfl, HR.out, rfl⟩
      | exact ⟨_, rfl, HS.out, rfl⟩
  · obtain ⟨b, o, rfl, _⟩ := h.get (Below.refl _ _) (k := 0) (by omega)
    obtain ⟨m, hm⟩ : ∃ m, L.length = m + C := ⟨L.length - C, by omega⟩
    have HD := hide (h.drop (m := m) (by omega))
    have g : (0 : Int) < (L.length : Int) - (C : Int) := by omega
    have e1 : ((L.length : Int) - (C : Int)).toNat = m := by omega
    have e2 : (L.length : Int) - (C : Int) = (m : Int) := by omega
    have HM : Hid (L.length - C = m) := by show _ = _; omega
    have HM2 : Hid (L.length - m = C) := by show _ = _; omega
    rw [HM2.out] at HD
    have hmc : m ≤ cap := by omega
    have hlm : L.length - m = C := HM2.out
    clear h
    by_cases hcap : cap = m
    · have HR : Hid (SI w (.slice (some ⟨b, o, none⟩) C 0) (L.drop m)) := by
        show SI _ _ _
        have hC0 : C = 0 := by omega
        rw [hC0, List.drop_of_length_le (by omega)]
        exact SI.nilAny _ _ (Nat.zero_le _) (fun e => by cases e)
      go_enter Try.func30, Try.ntmps30
      go_wp2
      go_ret
      rw [HM.out]
      exact ⟨_, rfl, HR.out, rfl⟩
    · go_enter Try.func30, Try.ntmps30
      go_wp2
      go_ret
      rw [HM.out]
      exact ⟨_, rfl, HD.out, rfl⟩

set_option maxHeartbeats 1000000 in
theorem mrun_any (v : Value) (D : List Int) (j i k0 M : Nat) (w : World) (h : SB w v D) (hji : j < i) (hi : i < D.length) (hn : D.length ≤ 1000000000) (hk : k0 ≤ rno D j i) (hM : M = min 258 (D.length - i)) :
    Calls Try.prog 36 #[v, .int .i64 j, .int .i64 i, .int .i64 k0, .int .i64 M] w fun e w' => e = .returned (.int .i64 (rno D j i : Nat)) ∧ ∃ n, w' = w.drewN n := by
  have HS := hide h
  have HM := hide hM
  have hM2 : M ≤ 258 := by omega
  have hM3 : i + M ≤ D.length := by omega
  obtain ⟨ao, cap, rfl, hlc, hcm⟩ := h.open
  have hkM : k0 ≤ M := by have := rno_le D j i; have := rno_len (j := j) hi; omega
  clear h hM
  go_enter Try.func36, Try.ntmps36
  go_wp2
  go_loopw [3] (fun t wr => ∃ m q : Nat, m ≤ M ∧ t = .int .i64 m ∧ wr = w.drewN q ∧ Hid (m ≤ rno D j i)) (fun t _ => M - (intOf t).toNat)
  case atStart => exact ⟨k0, 0, hkM, rfl, rfl, hk⟩
  case round =>
    obtain ⟨m, q, hm, rfl, hw, HMM⟩ := hrel
    subst hw
    have HGO := hide (rno_go HMM.out)
    have k1 : IntKind.i64.wrap ((i : Int) + (m : Int)) = (i : Int) + (m : Int) := by rw [IntKind.wrap_i64]; omega
    have k2 : IntKind.i64.wrap ((j : Int) + (m : Int)) = (j : Int) + (m : Int) := by rw [IntKind.wrap_i64]; omega
    by_cases h1 : m < M
    · have g1 : decide ((m : Int) < (M : Int)) = true := decide_eq_true (by omega)
      have g1' : decide (m < M) = true := decide_eq_true h1
      obtain ⟨b, o, rfl, c1⟩ := HS.out.get (w := w.drewN q) (below_drewN (Below.refl _ _) q) (k := i + m) (by omega)
      obtain ⟨b', o', e', c2⟩ := HS.out.get (w := w.drewN q) (below_drewN (Below.refl _ _) q) (k := j + m) (by omega)
      simp only [Option.some.injEq, Addr.mk.injEq, and_true] at e'
      obtain ⟨rfl, rfl⟩ := e'
      obtain ⟨x, HX⟩ : ∃ x, Hid (x = D.getD (i + m) 0) := ⟨_, rfl⟩
      obtain ⟨y, HY⟩ : ∃ x, Hid (x = D.getD (j + m) 0) := ⟨_, rfl⟩
      rw [← HX.out] at c1 HGO
      rw [← HY.out] at c2 HGO
      have c1w : w.cell? ⟨b, o + (i + m), none⟩ = some (.int .u8 x) := c1
      have c2w : w.cell? ⟨b, o + (j + m), none⟩ = some (.int .u8 y) := c2
      have i1 : (i : Int) + (m : Int) < (D.length : Int) := by omega
      have i2 : (j : Int) + (m : Int) < (D.length : Int) := by omega
      have t1 : ((i : Int) + (m : Int)).toNat = i + m := by omega
      have t2 : ((j : Int) + (m : Int)).toNat = j + m := by omega
      by_cases h3 : y = x
      · subst h3
        have g3 : (y == y) = true := by simp
        have HN := hide (HGO.out.1 (by omega) (by omega) rfl)
        clear HGO
        go_wp2
        go_quiet (fail)
        go_wp2
        go_roundw
        case rel => exact ⟨m + 1, _, by omega, by go_num, by (try simp only [World.drewN_drewN]); rfl, HN⟩
        case measure => simp [intOf]; omega
      · have g3 : (y == x) = false := by simpa using h3
        have HE : Hid (rno D j i = m) := HGO.out.2 (fun q => h3 q.2.2)
        clear HGO h3
        go_wp2
        go_quiet (fail)
        go_wp2
        go_ret
        rw [HE.out]
        exact ⟨rfl, _, by (try simp only [World.drewN_drewN]); rfl⟩
    · have g1 : decide ((m : Int) < (M : Int)) = false := decide_eq_false (by omega)
      have g1' : decide (m < M) = false := decide_eq_false h1
      have HE : Hid (rno D j i = m) := HGO.out.2 (fun q => by have := HM.out; omega)
      clear HGO
      go_wp2
      go_quiet (fail)
      go_wp2
      go_ret
      rw [HE.out]
      exact ⟨rfl, _, by (try simp only [World.drewN_drewN]); rfl⟩

theorem str_inj {xs ys : List Int} (hx : ∀ x ∈ xs, 0 ≤ x ∧ x < 256) (hy : ∀ x ∈ ys, 0 ≤ x ∧ x < 256) (h : (strOfNums xs).toList = (strOfNums ys).toList) : xs = ys := by
  rw [Lib.strOfNums_toList, Lib.strOfNums_toList] at h
  have h1 : xs.map (fun n => UInt8.ofNat n.toNat) = ys.map (fun n => UInt8.ofNat n.toNat) := h
  clear h
  induction xs generalizing ys with
  | nil => cases ys with
    | nil => rfl
    | cons y ys => simp at h1
  | cons x xs ih =>
    cases ys with
    | nil => simp at h1
    | cons y ys =>
      simp only [List.map_cons, List.cons.injEq] at h1
      have a := hx x List.mem_cons_self
      have b := hy y List.mem_cons_self
      have e : x.toNat = y.toNat := by
        have := congrArg UInt8.toNat h1.1
        simp at this
        omega
      rw [ih (fun z hz => hx z (List.mem_cons_of_mem _ hz)) (fun z hz => hy z (List.mem_cons_of_mem _ hz)) h1.2, show x = y by omega]

/-- Part of a list. -/
def sub (D : List Int) (j n : Nat) : List Int := (D.drop j).take n

theorem sub_len {D : List Int} {j n : Nat} (h : j + n ≤ D.length) : (sub D j n).length = n := by simp [sub]; omega
theorem sub_get {D : List Int} {j n k : Nat} (h : k < n) : (sub D j n).getD k 0 = D.getD (j + k) 0 := by simp [sub, h]
theorem sub_byt {D : List Int} (hB : Byt D) (j n : Nat) : ∀ x ∈ sub D j n, 0 ≤ x ∧ x < 256 := fun x hx => by
  obtain ⟨k, hk, rfl⟩ := List.getElem_of_mem (List.mem_of_mem_drop (List.mem_of_mem_take hx))
  have := hB k
  simpa [hk] using this

theorem sub_eq {D : List Int} {j i n : Nat} (hji : j < i) (hi : i + n ≤ D.length) (hn : n ≤ 258) : sub D j n = sub D i n ↔ n ≤ rno D j i := by
  rw [rno_iff]
  refine ⟨fun h => ⟨hn, fun k hk => ⟨by omega, ?_⟩⟩, fun h => ?_⟩
  · have := congrArg (fun l => l.getD k 0) h
    simp only [sub_get hk] at this
    exact this
  · apply List.ext_getElem
    · rw [sub_len (by omega), sub_len hi]
    · intro k h1 h2
      rw [sub_len (by omega)] at h1
      have := (h.2 k h1).2
      rw [← sub_get h1, ← sub_get (j := i) h1] at this
      have l1 : k < (sub D j n).length := by rw [sub_len (by omega)]; exact h1
      have l2 : k < (sub D i n).length := by rw [sub_len hi]; exact h1
      simpa [l1, l2] using this

theorem equal_any (D : List Int) (j i n b o c1 c2 : Nat) (w : World) (hB : Byt D) (hc : ∀ k, k < D.length → w.cell? ⟨b, o + k, none⟩ = some (.int .u8 (D.getD k 0))) (hji : j < i) (hi : i + n ≤ D.length) (hn : n ≤ 258) :
    Calls Try.prog 35 #[.slice (some ⟨b, o + j, none⟩) n c1, .slice (some ⟨b, o + i, none⟩) n c2] w fun e w' => e = .returned (.bool (decide (n ≤ rno D j i))) ∧ w' = w := by
  have k1 : (convert 22 9 (.slice (some ⟨b, o + j, none⟩) n c1)).run Try.prog w = .ok (.string (strOfNums (sub D j n))) w := run_convert_bytes_arg (P := Try.prog) w 22 5 Try.underlying22 Try.underlying5 b (o + j) n c1 (sub D j n) (sub_len (by omega)) (fun k hk => by
    rw [sub_get hk, Nat.add_assoc]; exact hc _ (by omega)) 9 Try.underlying9
  have k2 : (convert 22 9 (.slice (some ⟨b, o + i, none⟩) n c2)).run Try.prog w = .ok (.string (strOfNums (sub D i n))) w := run_convert_bytes_arg (P := Try.prog) w 22 5 Try.underlying22 Try.underlying5 b (o + i) n c2 (sub D i n) (sub_len hi) (fun k hk => by
    rw [sub_get hk, Nat.add_assoc]; exact hc _ (by omega)) 9 Try.underlying9
  have HQ := hide (sub_eq hji hi hn)
  have HJ := hide (fun q => str_inj (sub_byt hB j n) (sub_byt hB i n) q)
  obtain ⟨s1, h1⟩ : ∃ s, s = strOfNums (sub D j n) := ⟨_, rfl⟩
  obtain ⟨s2, h2⟩ : ∃ s, s = strOfNums (sub D i n) := ⟨_, rfl⟩
  rw [← h1] at k1 HJ
  rw [← h2] at k2 HJ
  by_cases e : sub D j n = sub D i n
  · have HE : Hid (decide (n ≤ rno D j i) = true) := decide_eq_true (HQ.out.1 e)
    have g : (s1.toList == s2.toList) = true := by rw [h1, h2, e]; simp
    clear h1 h2 e hc
    go_enter Try.func35, Try.ntmps35
    go_wp2
    go_ret
    rw [HE.out]
    exact ⟨rfl, rfl⟩
  · have HE : Hid (decide (n ≤ rno D j i) = false) := decide_eq_false (fun q => e (HQ.out.2 q))
    have g : (s1.toList == s2.toList) = false := by
      simp only [beq_eq_false_iff_ne]
      exact fun q => e (HJ.out q)
    clear h1 h2 e hc
    go_enter Try.func35, Try.ntmps35
    go_wp2
    go_ret
    rw [HE.out]
    exact ⟨rfl, rfl⟩

/-- May the data and the effort be? -/
def mbb (n : Nat) (x y : Int) : Bool := decide ((n : Int) ≤ 16777216 ∧ Dmn x y)

theorem mayBe_any (D : List Int) (ao : Option Addr) (cap : Nat) (x y : Int) (z : Bool) (w : World) : Calls Try.prog 14 #[.slice ao D.length cap, .agg #[.int .i64 x, .int .i64 y, .bool z]] w fun e w' => e = .returned (.bool (mbb D.length x y)) ∧ Below w.heap.size w w' := by
  have HB : Hid (Below w.heap.size w (w.alloc (.cells #[.int .i64 x, .int .i64 y, .bool z] 24))) := (Below.refl _ _).alloc (Nat.le_refl _) _
  obtain ⟨wb, hwb⟩ : ∃ wb, w.alloc (.cells #[.int .i64 x, .int .i64 y, .bool z] 24) = wb := ⟨_, rfl⟩
  have d1 : wb.cell? ⟨w.heap.size, 0, none⟩ = some (.int .i64 x) := by rw [← hwb]; unfold World.cell?; simp only [heap_alloc_new]; rfl
  have d2 : wb.cell? ⟨w.heap.size, 1, none⟩ = some (.int .i64 y) := by rw [← hwb]; unfold World.cell?; simp only [heap_alloc_new]; rfl
  rw [hwb] at HB
  by_cases h0 : (D.length : Int) ≤ 16777216
  · by_cases h1 : 1 ≤ x
    · by_cases h2 : x ≤ 32768
      · by_cases h3 : 0 ≤ y
        · by_cases h4 : y ≤ 4096
          · have HE : Hid (mbb D.length x y = true) := decide_eq_true ⟨h0, h1, h2, h3, h4⟩
            go_enter Try.func14, Try.ntmps14
            go_wp2
            go_ret
            rw [HE.out]
            exact ⟨rfl, HB.out⟩
          · have HE : Hid (mbb D.length x y = false) := decide_eq_false (fun q => h4 q.2.2.2.2)
            go_enter Try.func14, Try.ntmps14
            go_wp2
            go_ret
            rw [HE.out]
            exact ⟨rfl, HB.out⟩
        · have HE : Hid (mbb D.length x y = false) := decide_eq_false (fun q => h3 q.2.2.2.1)
          go_enter Try.func14, Try.ntmps14
          go_wp2
          go_ret
          rw [HE.out]
          exact ⟨rfl, HB.out⟩
      · have HE : Hid (mbb D.length x y = false) := decide_eq_false (fun q => h2 q.2.2.1)
        go_enter Try.func14, Try.ntmps14
        go_wp2
        go_ret
        rw [HE.out]
        exact ⟨rfl, HB.out⟩
    · have HE : Hid (mbb D.length x y = false) := decide_eq_false (fun q => h1 q.2.1)
      go_enter Try.func14, Try.ntmps14
      go_wp2
      go_ret
      rw [HE.out]
      exact ⟨rfl, HB.out⟩
  · have HE : Hid (mbb D.length x y = false) := decide_eq_false (fun q => h0 q.1)
    go_enter Try.func14, Try.ntmps14
    go_wp2
    go_ret
    rw [HE.out]
    exact ⟨rfl, HB.out⟩
end Go.Proofs.Ytjdgeonlbjokaaa

namespace Go.Proofs.Ytjdgeonlbjokaaa
open Go.RowKit Go.Maps
set_option maxRecDepth 20000
set_option linter.unusedVariables false
set_option linter.unusedSimpArgs false

theorem arr_guard : Try.prog.eqGuardType Try.prog.depth 69 = false := by kernel_rfl

theorem arr_eq (w : World) (a b c d e f : Int) : (Op.equalIn 10000 69 (.agg #[.int .u8 a, .int .u8 b, .int .u8 c]) (.agg #[.int .u8 d, .int .u8 e, .int .u8 f])).run Try.prog w = .ok (a == d && (b == e && c == f)) w := by
  obtain ⟨i, hi, _⟩ := info_parts info5
  rw [run_equalIn_array w 9999 _ _ Try.underlying69 hi]
  rw [show Try.prog.cellsOf 5 = 1 by kernel_rfl, show List.range 3 = [0, 1, 2] from rfl]
  simp only [Op.eqItems]
  have p1 : ∀ x y z : Int, (part 5 #[.int .u8 x, .int .u8 y, .int .u8 z] (0 * 1)).run Try.prog w = .ok (.int .u8 x) w := fun x y z => by kernel_rfl
  have p2 : ∀ x y z : Int, (part 5 #[.int .u8 x, .int .u8 y, .int .u8 z] (1 * 1)).run Try.prog w = .ok (.int .u8 y) w := fun x y z => by kernel_rfl
  have p3 : ∀ x y z : Int, (part 5 #[.int .u8 x, .int .u8 y, .int .u8 z] (2 * 1)).run Try.prog w = .ok (.int .u8 z) w := fun x y z => by kernel_rfl
  have q8 : ∀ x y : Int, (Op.equalIn 9999 5 (.int .u8 x) (.int .u8 y)).run Try.prog w = .ok (x == y) w := fun x y => run_equalIn_int w 9998 5 .u8 .u8 x y Try.underlying5
  simp only [Sem.run_bind, p1, p2, p3, q8, Result.andThen_ok]
  by_cases e1 : a = d
  · subst e1
    by_cases e2 : b = e
    · subst e2
      by_cases e3 : c = f
      · subst e3; simp [p1, p2, p3, q8]
      · simp [p1, p2, p3, q8, e3]
    · simp [p1, p2, p3, q8, e2]
  · simp [e1]

theorem arr_eql (w : World) (a b c d e f : Int) : (binOp .eql 69 (.agg #[.int .u8 a, .int .u8 b, .int .u8 c]) (.agg #[.int .u8 d, .int .u8 e, .int .u8 f])).run Try.prog w = .ok (.bool (a == d && (b == e && c == f))) w := by
  rw [run_eql_struct, arr_eq]; rfl

def ins (l : List Nat) : List Int := l.map fun n : Nat => (n : Int)

theorem ins_len (l : List Nat) : (ins l).length = l.length := by simp [ins]
theorem ins_snoc (l : List Nat) (n : Nat) : ins (l ++ [n]) = ins l ++ [(n : Int)] := by simp [ins]
theorem grow_int {w wr w3 : World} {u v3 : Value} {D : List Int} {o : Obj} {B : Nat} (hB : Below B w wr) (hw : B ≤ w.heap.size) (hO : OI wr B u D) (hg : Grew (wr.alloc o) w3 u v3) : Below B w w3 :=
  (hB.alloc (Nat.le_trans hw hB.size) _).grown hg.by (by have := hB.size; simp; omega) (fun j hj => by have := hO.lt j hj; omega)
theorem OI.top {w : World} {base : Nat} {v : Value} {l : List Int} (h : OI w base v l) : ∃ a c, v = .slice a l.length c ∧ l.length ≤ c ∧ c ≤ 9223372036854775807 := by
  rcases h.2 with ⟨rfl, h0⟩ | ⟨g, cap, cur, rfl, _, _, h3, h4, _⟩
  · exact ⟨none, 0, by rw [h0], by omega, by omega⟩
  · unfold maxLen at h4; exact ⟨_, _, rfl, h3, by omega⟩

theorem thr_eq {D : List Int} {j i : Nat} (h : i + 3 ≤ D.length) : (D.getD j 0 == D.getD i 0 && (D.getD (j + 1) 0 == D.getD (i + 1) 0 && D.getD (j + 2) 0 == D.getD (i + 2) 0)) = decide (Cnd D j i) := by
  by_cases q : Cnd D j i
  · rw [decide_eq_true q]
    obtain ⟨_, q1, q2, q3⟩ := q
    simp only [q1, q2, q3, beq_self_eq_true, Bool.and_self]
  · rw [decide_eq_false q]
    simp only [Bool.and_eq_false_iff, beq_eq_false_iff_ne]
    by_cases q1 : D.getD j 0 = D.getD i 0
    · by_cases q2 : D.getD (j + 1) 0 = D.getD (i + 1) 0
      · exact .inr (.inr (fun q3 => q ⟨by omega, q1, q2, q3⟩))
      · exact .inr (.inl q2)
    · exact .inl q1

theorem asc_none {D : List Int} {i a n : Nat} (h : ¬ i + 3 ≤ D.length) : asc D i a n = [] := by
  unfold asc
  rw [List.filter_eq_nil_iff]
  intro j _
  simp only [decide_eq_true_eq]
  exact fun q => h (by have := q.1; omega)

set_option maxHeartbeats 4000000 in
theorem cands_any (v : Value) (D : List Int) (i W : Nat) (w : World) (h : SB w v D) (hi : i < D.length) (hn : D.length ≤ 1000000000) (hW : W ≤ 32768) :
    Calls Try.prog 31 #[v, .int .i64 i, .int .i64 W] w fun e w' => ∃ u, e = .returned u ∧ OI w' w.heap.size u (ins (asc D i (i - min i W) (min i W))) ∧ Below w.heap.size w w' := by
  have HS := hide h
  obtain ⟨ao, cap, rfl, hlc, hcm⟩ := h.open
  clear h
  have HFI := hide (fits_any D i ao cap w hn (by omega))
  by_cases hf : i + 3 ≤ D.length
  · have HD : Hid (decide (i + 3 ≤ D.length) = true) := decide_eq_true hf
    rw [HD.out] at HFI
    have HT := hide (three_any _ D i w HS.out hf hn)
    obtain ⟨N, hN⟩ : ∃ N, N = min i W := ⟨_, rfl⟩
    obtain ⟨A, hA⟩ : ∃ A, A = i - N := ⟨_, rfl⟩
    rw [← hN, ← hA]
    have hAi : A + N = i := by omega
    have hN2 : N ≤ 32768 := by omega
    have HAW : Hid (A = i - W) := by show _ = _; omega
    clear hN hA
    have HTQ := hide (fun j => thr_eq (j := j) hf)
    unfold thr at HT
    obtain ⟨x0, HX0⟩ : ∃ x, Hid (x = D.getD i 0) := ⟨_, rfl⟩
    obtain ⟨x1, HX1⟩ : ∃ x, Hid (x = D.getD (i + 1) 0) := ⟨_, rfl⟩
    obtain ⟨x2, HX2⟩ : ∃ x, Hid (x = D.getD (i + 2) 0) := ⟨_, rfl⟩
    rw [← HX0.out, ← HX1.out, ← HX2.out] at HT HTQ
    go_enter Try.func31, Try.ntmps31
    go_wp2_with fail
    refine HFI.out.mono ?_
    rintro e w1 ⟨rfl, hw1⟩
    subst hw1
    go_wp2_with fail
    refine HT.out.mono ?_
    rintro e w2 ⟨rfl, b2⟩
    have HB2 := hide b2
    clear b2 HFI HT
    have HB3 : Hid (Below w1.heap.size w1 (w2.alloc (.cells #[.int .u8 x0, .int .u8 x1, .int .u8 x2] 69))) := HB2.out.alloc HB2.out.size _
    obtain ⟨w3, hw3⟩ : ∃ w3, w2.alloc (.cells #[.int .u8 x0, .int .u8 x1, .int .u8 x2] 69) = w3 := ⟨_, rfl⟩
    have HG : Hid (w3.heap[w2.heap.size]? = some (.cells #[.int .u8 x0, .int .u8 x1, .int .u8 x2] 69 (0, 0))) := by show _ = _; rw [← hw3]; exact heap_alloc_new w2 _
    have hz3 : w2.heap.size < w3.heap.size := by rw [← hw3]; simp
    have hz0 : w1.heap.size ≤ w2.heap.size := HB2.out.size
    rw [hw3] at HB3
    obtain ⟨g3, hg3⟩ : ∃ g, g = w2.heap.size := ⟨_, rfl⟩
    rw [← hg3] at HG hz3 hz0
    by_cases hiW : W < i
    · have hmx : (0 : Int) < (i : Int) - (W : Int) := by omega
      have HST : Hid ((i : Int) - (W : Int) = ((A + 0 : Nat) : Int)) := by have := HAW.out; show _ = _; omega
      go_wp2
      rw [← hg3]
      clear hw3 hg3
      go_loopw [7, 9] (fun u t wr => ∃ k : Nat, k ≤ N ∧ t = .int .i64 ((A + k : Nat) : Int) ∧ Hid (OI wr w1.heap.size u (ins (asc D i A k))) ∧ Hid (Below w1.heap.size w1 wr) ∧ Hid (wr.heap[g3]? = some (.cells #[.int .u8 x0, .int .u8 x1, .int .u8 x2] 69 (0, 0)) ∧ g3 < wr.heap.size ∧ u.ownBlock ≠ some g3)) (fun _ t _ => i - (intOf t).toNat)
      case atStart => exact ⟨0, Nat.zero_le _, by rw [← HST.out], World.ownsRow_nil _ _ _ _, HB3.out, HG.out, hz3, fun q => by cases q⟩
      case round =>
        obtain ⟨k, hk, rfl, HO, HB, HK⟩ := hrel
        obtain ⟨j, hj⟩ : ∃ j, j = A + k := ⟨_, rfl⟩
        have HSN := hide (asc_snoc D i A k)
        rw [← hj] at HSN ⊢
        have HJ := hide hj
        by_cases hlt : k < N
        · have hji : j < i := by omega
          clear hj
          have hji' : (j : Int) < (i : Int) := by omega
          obtain ⟨kb, kz, kn⟩ := HK.out
          have hsw := HB.out.size
          have HTH := hide (three_any _ D j wr.drew ((HS.out.below HB.out).below (Below.refl _ _).drew) (by omega) hn)
          unfold thr at HTH
          have HQ := hide (HTQ.out j)
          obtain ⟨y0, HY0⟩ : ∃ x, Hid (x = D.getD j 0) := ⟨_, rfl⟩
          obtain ⟨y1, HY1⟩ : ∃ x, Hid (x = D.getD (j + 1) 0) := ⟨_, rfl⟩
          obtain ⟨y2, HY2⟩ : ∃ x, Hid (x = D.getD (j + 2) 0) := ⟨_, rfl⟩
          rw [← HY0.out, ← HY1.out, ← HY2.out] at HTH HQ
          have l0 : wr.cell? ⟨g3, 0, none⟩ = some (.int .u8 x0) := by unfold World.cell?; simp only [kb]; rfl
          have l1 : wr.cell? ⟨g3, 1, none⟩ = some (.int .u8 x1) := by unfold World.cell?; simp only [kb]; rfl
          have l2 : wr.cell? ⟨g3, 2, none⟩ = some (.int .u8 x2) := by unfold World.cell?; simp only [kb]; rfl
          have d0 : wr.drew.cell? ⟨g3, 0, none⟩ = some (.int .u8 x0) := l0
          have d1 : wr.drew.cell? ⟨g3, 1, none⟩ = some (.int .u8 x1) := l1
          have d2 : wr.drew.cell? ⟨g3, 2, none⟩ = some (.int .u8 x2) := l2
          have HD0 := hide d0
          have HD1 := hide d1
          have HD2 := hide d2
          have hzd : g3 < wr.drew.heap.size := kz
          have hag := arr_guard
          have hql := fun W => arr_eql W y0 y1 y2 x0 x1 x2
          have HKB := hide kb
          have HKN := hide kn
          clear kb kn
          by_cases hc : Cnd D j i
          · rw [if_pos hc] at HSN
            have HSN2 : Hid (ins (asc D i A (k + 1)) = ins (asc D i A k) ++ [(j : Int)]) := by show _ = _; rw [HSN.out, ins_snoc]
            have HQT : (y0 == x0 && (y1 == x1 && y2 == x2)) = true := by rw [HQ.out]; exact decide_eq_true hc
            rw [HQT] at hql
            clear HQT hc HQ
            go_wp2
            go_region_with (go_at_call 38; refine HTH.out.mono ?_; rintro e w4 ⟨rfl, b4⟩; have e0 := (b4.cell hzd).trans HD0.out; have e1 := (b4.cell hzd).trans HD1.out; have e2 := (b4.cell hzd).trans HD2.out; have HB4 := hide (HB.out.drew.trans (b4.mono hsw)); have HK4 := hide ((b4.block g3 hzd).trans HKB.out); have HZ4 := hide (Nat.lt_of_lt_of_le hzd b4.size); have HO4 := hide ((HO.out.below (Below.refl _ _).drew (Nat.le_refl _)).below b4 (Nat.le_refl _)); clear b4)
            all_goals
              obtain ⟨T, HT⟩ : ∃ T : List Int, Hid (T = ins (asc D i A k)) := ⟨_, hide rfl⟩
              have hTl : T.length ≤ 40000 := by rw [HT.out, ins_len]; have := asc_len D i A k; omega
              rw [← HT.out] at HO4 HSN2
              obtain ⟨a5, p5, hu5, _⟩ := HO4.out.top
              subst hu5
              have hs4 := HB4.out.size
              have HALC : Hid (OI (w4.alloc (.cells #[.int .i64 (j : Int)] 3)) w1.heap.size (.slice a5 T.length p5) T) := HO4.out.alloc _
              have HSR : Hid (Src Try.prog 1 56 (.slice (some ⟨w4.heap.size, 0, none⟩) 1 1) ([(j : Int)] : List Int).length (([(j : Int)] : List Int).map (Value.int .i64)) (w4.alloc (.cells #[.int .i64 (j : Int)] 3))) := built_srcI w4 [(j : Int)]
              go_wp2_with (at_builtin; refine wpList_appI rfl _ _ 56 rfl w1.heap.size (.slice a5 T.length p5) _ T [(j : Int)] rfl HALC.out rfl HSR.out (by simp; omega) (by simp; omega) ?_)
              intro v6 w6 ho6 hg6
              have HN : Hid (OI w6 w1.heap.size v6 (ins (asc D i A (k + 1))) ∧ Below w1.heap.size w1 w6) := ⟨by rw [HSN2.out]; exact ho6, grow_int HB4.out (Nat.le_refl _) HO4.out hg6⟩
              have HK6 := hide (hg6.keep HZ4.out HKN.out)
              clear ho6 hg6
              go_wp2
              go_roundw
              case rel => exact ⟨k + 1, by omega, by rw [HJ.out]; go_num, HN.out.1, HN.out.2, HK6.out.1.trans HK4.out, HK6.out.2.1, HK6.out.2.2⟩
              case measure => simp [intOf]; omega
          · rw [if_neg hc, List.append_nil] at HSN
            have HQT : (y0 == x0 && (y1 == x1 && y2 == x2)) = false := by rw [HQ.out]; exact decide_eq_false hc
            rw [HQT] at hql
            clear HQT hc HQ
            go_wp2
            go_region_with (go_at_call 38; refine HTH.out.mono ?_; rintro e w4 ⟨rfl, b4⟩; have e0 := (b4.cell hzd).trans HD0.out; have e1 := (b4.cell hzd).trans HD1.out; have e2 := (b4.cell hzd).trans HD2.out; have HB4 := hide (HB.out.drew.trans (b4.mono hsw)); have HK4 := hide ((b4.block g3 hzd).trans HKB.out); have HZ4 := hide (Nat.lt_of_lt_of_le hzd b4.size); have HO4 := hide ((HO.out.below (Below.refl _ _).drew (Nat.le_refl _)).below b4 (Nat.le_refl _)); clear b4)
            all_goals
              go_wp2
              go_roundw
              case rel => exact ⟨k + 1, by omega, by rw [HJ.out]; go_num, by rw [HSN.out]; exact HO4, HB4.out, HK4.out, HZ4.out, HKN.out⟩
              case measure => simp [intOf]; omega
        · obtain rfl : k = N := by omega
          have hji' : ¬ (j : Int) < (i : Int) := by omega
          clear hj
          have HO9 := hide HO.out
          obtain ⟨a5, p5, hu5, _⟩ := HO9.out.top
          subst hu5
          go_wp2
          go_ret
          exact ⟨_, rfl, HO.out, HB.out⟩
    · have hmx : ¬ (0 : Int) < (i : Int) - (W : Int) := by omega
      have HST : Hid (((A + 0 : Nat) : Int) = 0) := by have := HAW.out; show _ = _; omega
      go_wp2
      rw [← hg3]
      clear hw3 hg3
      go_loopw [7, 9] (fun u t wr => ∃ k : Nat, k ≤ N ∧ t = .int .i64 ((A + k : Nat) : Int) ∧ Hid (OI wr w1.heap.size u (ins (asc D i A k))) ∧ Hid (Below w1.heap.size w1 wr) ∧ Hid (wr.heap[g3]? = some (.cells #[.int .u8 x0, .int .u8 x1, .int .u8 x2] 69 (0, 0)) ∧ g3 < wr.heap.size ∧ u.ownBlock ≠ some g3)) (fun _ t _ => i - (intOf t).toNat)
      case atStart => exact ⟨0, Nat.zero_le _, by rw [HST.out], World.ownsRow_nil _ _ _ _, HB3.out, HG.out, hz3, fun q => by cases q⟩
      case round =>
        obtain ⟨k, hk, rfl, HO, HB, HK⟩ := hrel
        obtain ⟨j, hj⟩ : ∃ j, j = A + k := ⟨_, rfl⟩
        have HSN := hide (asc_snoc D i A k)
        rw [← hj] at HSN ⊢
        have HJ := hide hj
        by_cases hlt : k < N
        · have hji : j < i := by omega
          clear hj
          have hji' : (j : Int) < (i : Int) := by omega
          obtain ⟨kb, kz, kn⟩ := HK.out
          have hsw := HB.out.size
          have HTH := hide (three_any _ D j wr.drew ((HS.out.below HB.out).below (Below.refl _ _).drew) (by omega) hn)
          unfold thr at HTH
          have HQ := hide (HTQ.out j)
          obtain ⟨y0, HY0⟩ : ∃ x, Hid (x = D.getD j 0) := ⟨_, rfl⟩
          obtain ⟨y1, HY1⟩ : ∃ x, Hid (x = D.getD (j + 1) 0) := ⟨_, rfl⟩
          obtain ⟨y2, HY2⟩ : ∃ x, Hid (x = D.getD (j + 2) 0) := ⟨_, rfl⟩
          rw [← HY0.out, ← HY1.out, ← HY2.out] at HTH HQ
          have l0 : wr.cell? ⟨g3, 0, none⟩ = some (.int .u8 x0) := by unfold World.cell?; simp only [kb]; rfl
          have l1 : wr.cell? ⟨g3, 1, none⟩ = some (.int .u8 x1) := by unfold World.cell?; simp only [kb]; rfl
          have l2 : wr.cell? ⟨g3, 2, none⟩ = some (.int .u8 x2) := by unfold World.cell?; simp only [kb]; rfl
          have d0 : wr.drew.cell? ⟨g3, 0, none⟩ = some (.int .u8 x0) := l0
          have d1 : wr.drew.cell? ⟨g3, 1, none⟩ = some (.int .u8 x1) := l1
          have d2 : wr.drew.cell? ⟨g3, 2, none⟩ = some (.int .u8 x2) := l2
          have HD0 := hide d0
          have HD1 := hide d1
          have HD2 := hide d2
          have hzd : g3 < wr.drew.heap.size := kz
          have hag := arr_guard
          have hql := fun W => arr_eql W y0 y1 y2 x0 x1 x2
          have HKB := hide kb
          have HKN := hide kn
          clear kb kn
          by_cases hc : Cnd D j i
          · rw [if_pos hc] at HSN
            have HSN2 : Hid (ins (asc D i A (k + 1)) = ins (asc D i A k) ++ [(j : Int)]) := by show _ = _; rw [HSN.out, ins_snoc]
            have HQT : (y0 == x0 && (y1 == x1 && y2 == x2)) = true := by rw [HQ.out]; exact decide_eq_true hc
            rw [HQT] at hql
            clear HQT hc HQ
            go_wp2
            go_region_with (go_at_call 38; refine HTH.out.mono ?_; rintro e w4 ⟨rfl, b4⟩; have e0 := (b4.cell hzd).trans HD0.out; have e1 := (b4.cell hzd).trans HD1.out; have e2 := (b4.cell hzd).trans HD2.out; have HB4 := hide (HB.out.drew.trans (b4.mono hsw)); have HK4 := hide ((b4.block g3 hzd).trans HKB.out); have HZ4 := hide (Nat.lt_of_lt_of_le hzd b4.size); have HO4 := hide ((HO.out.below (Below.refl _ _).drew (Nat.le_refl _)).below b4 (Nat.le_refl _)); clear b4)
            all_goals
              obtain ⟨T, HT⟩ : ∃ T : List Int, Hid (T = ins (asc D i A k)) := ⟨_, hide rfl⟩
              have hTl : T.length ≤ 40000 := by rw [HT.out, ins_len]; have := asc_len D i A k; omega
              rw [← HT.out] at HO4 HSN2
              obtain ⟨a5, p5, hu5, _⟩ := HO4.out.top
              subst hu5
              have hs4 := HB4.out.size
              have HALC : Hid (OI (w4.alloc (.cells #[.int .i64 (j : Int)] 3)) w1.heap.size (.slice a5 T.length p5) T) := HO4.out.alloc _
              have HSR : Hid (Src Try.prog 1 56 (.slice (some ⟨w4.heap.size, 0, none⟩) 1 1) ([(j : Int)] : List Int).length (([(j : Int)] : List Int).map (Value.int .i64)) (w4.alloc (.cells #[.int .i64 (j : Int)] 3))) := built_srcI w4 [(j : Int)]
              go_wp2_with (at_builtin; refine wpList_appI rfl _ _ 56 rfl w1.heap.size (.slice a5 T.length p5) _ T [(j : Int)] rfl HALC.out rfl HSR.out (by simp; omega) (by simp; omega) ?_)
              intro v6 w6 ho6 hg6
              have HN : Hid (OI w6 w1.heap.size v6 (ins (asc D i A (k + 1))) ∧ Below w1.heap.size w1 w6) := ⟨by rw [HSN2.out]; exact ho6, grow_int HB4.out (Nat.le_refl _) HO4.out hg6⟩
              have HK6 := hide (hg6.keep HZ4.out HKN.out)
              clear ho6 hg6
              go_wp2
              go_roundw
              case rel => exact ⟨k + 1, by omega, by rw [HJ.out]; go_num, HN.out.1, HN.out.2, HK6.out.1.trans HK4.out, HK6.out.2.1, HK6.out.2.2⟩
              case measure => simp [intOf]; omega
          · rw [if_neg hc, List.append_nil] at HSN
            have HQT : (y0 == x0 && (y1 == x1 && y2 == x2)) = false := by rw [HQ.out]; exact decide_eq_false hc
            rw [HQT] at hql
            clear HQT hc HQ
            go_wp2
            go_region_with (go_at_call 38; refine HTH.out.mono ?_; rintro e w4 ⟨rfl, b4⟩; have e0 := (b4.cell hzd).trans HD0.out; have e1 := (b4.cell hzd).trans HD1.out; have e2 := (b4.cell hzd).trans HD2.out; have HB4 := hide (HB.out.drew.trans (b4.mono hsw)); have HK4 := hide ((b4.block g3 hzd).trans HKB.out); have HZ4 := hide (Nat.lt_of_lt_of_le hzd b4.size); have HO4 := hide ((HO.out.below (Below.refl _ _).drew (Nat.le_refl _)).below b4 (Nat.le_refl _)); clear b4)
            all_goals
              go_wp2
              go_roundw
              case rel => exact ⟨k + 1, by omega, by rw [HJ.out]; go_num, by rw [HSN.out]; exact HO4, HB4.out, HK4.out, HZ4.out, HKN.out⟩
              case measure => simp [intOf]; omega
        · obtain rfl : k = N := by omega
          have hji' : ¬ (j : Int) < (i : Int) := by omega
          clear hj
          have HO9 := hide HO.out
          obtain ⟨a5, p5, hu5, _⟩ := HO9.out.top
          subst hu5
          go_wp2
          go_ret
          exact ⟨_, rfl, HO.out, HB.out⟩
  · have HD : Hid (decide (i + 3 ≤ D.length) = false) := decide_eq_false hf
    rw [HD.out] at HFI
    have HN := hide (asc_none (a := i - min i W) (n := min i W) hf)
    go_enter Try.func31, Try.ntmps31
    go_wp2_with fail
    refine HFI.out.mono ?_
    rintro e w1 ⟨rfl, hw1⟩
    subst hw1
    go_wp2
    go_ret
    rw [HN.out]
    exact ⟨_, rfl, World.ownsRow_nil _ _ _ _, Below.refl _ _⟩
end Go.Proofs.Ytjdgeonlbjokaaa

