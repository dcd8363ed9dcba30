import Derived.Test.YtjldmphfdaoecaaG04Tke
import Derived.Test.YtjldmphfdaoecaaG02Brb
import Derived.Laws.Cover3
import Derived.Lib.Bytes
import Derived.ChangeKeysEq
import Derived.Deep.RegionWith
namespace Go.Proofs.Ytjldmphfdaoecaa
open Go.RowKit Go.Maps
set_option maxRecDepth 20000
set_option linter.unusedVariables false

end Go.Proofs.Ytjldmphfdaoecaa

namespace Go.Proofs.Ytjldmphfdaoecaa
open Go.RowKit Go.Maps
set_option maxRecDepth 20000
set_option linter.unusedVariables false

theorem fits_any (D : List Int) (i : Nat) (ao : Option Addr) (cap : Nat) (w : World) (hn : D.length ≤ 1000000000) (hi : i ≤ 1000000000) :
    Calls Try.prog 23 #[.slice ao D.length cap, .int .i64 i] w fun e w' => e = .returned (.bool (decide (i + 3 ≤ D.length))) ∧ w' = w := by
  by_cases h : i + 3 ≤ D.length
  · have HE : Hid (decide (i + 3 ≤ D.length) = true) := decide_eq_true h
    have g : (i : Int) + 3 ≤ (D.length : Int) := by omega
    go_enter Try.func23, Try.ntmps23
    go_wp2
    go_ret
    rw [HE.out]
    exact ⟨rfl, rfl⟩
  · have HE : Hid (decide (i + 3 ≤ D.length) = false) := decide_eq_false h
    have g : ¬ (i : Int) + 3 ≤ (D.length : Int) := by omega
    clear h
    go_enter Try.func23, Try.ntmps23
    go_wp2
    go_ret
    rw [HE.out]
    exact ⟨rfl, rfl⟩

def thr (D : List Int) (i : Nat) : Value := .agg #[.int .u8 (D.getD i 0), .int .u8 (D.getD (i + 1) 0), .int .u8 (D.getD (i + 2) 0)]

set_option maxHeartbeats 1000000 in
theorem three_any (v : Value) (D : List Int) (i : Nat) (w : World) (h : SB w v D) (hi : i + 3 ≤ D.length) (hn : D.length ≤ 1000000000) :
    Calls Try.prog 28 #[v, .int .i64 i] w fun e w' => e = .returned (thr D i) ∧ Below w.heap.size w w' := by
  have HS := hide h
  obtain ⟨ao, cap, rfl, hlc, hcm⟩ := h.open
  clear h
  obtain ⟨b, o, rfl, c0⟩ := HS.out.get (Below.refl _ _) (k := i) (by omega)
  obtain ⟨b', o', e', c1⟩ := HS.out.get (Below.refl _ _) (k := i + 1) (by omega)
  simp only [Option.some.injEq, Addr.mk.injEq, and_true] at e'
  obtain ⟨rfl, rfl⟩ := e'
  obtain ⟨b', o', e', c2⟩ := HS.out.get (Below.refl _ _) (k := i + 2) (by omega)
  simp only [Option.some.injEq, Addr.mk.injEq, and_true] at e'
  obtain ⟨rfl, rfl⟩ := e'
  unfold thr
  obtain ⟨x, HX⟩ : ∃ x, Hid (x = D.getD i 0) := ⟨_, rfl⟩
  obtain ⟨y, HY⟩ : ∃ x, Hid (x = D.getD (i + 1) 0) := ⟨_, rfl⟩
  obtain ⟨z, HZ⟩ : ∃ x, Hid (x = D.getD (i + 2) 0) := ⟨_, rfl⟩
  rw [← HX.out] at c0 ⊢
  rw [← HY.out] at c1 ⊢
  rw [← HZ.out] at c2 ⊢
  have hb : b < w.heap.size := World.block_lt_of_cell? w _ c0
  have hbn : b ≠ w.heap.size := by omega
  have a0 : (w.alloc (.cells #[.int .u8 0, .int .u8 0, .int .u8 0] 56)).cell? ⟨b, o + i, none⟩ = some (.int .u8 x) := (((Below.refl _ _).alloc (Nat.le_refl _) _).cell hb).trans c0
  have a1 : (w.alloc (.cells #[.int .u8 0, .int .u8 0, .int .u8 0] 56)).cell? ⟨b, o + i + 1, none⟩ = some (.int .u8 y) := (((Below.refl _ _).alloc (Nat.le_refl _) _).cell hb).trans c1
  have a2 : (w.alloc (.cells #[.int .u8 0, .int .u8 0, .int .u8 0] 56)).cell? ⟨b, o + i + 2, none⟩ = some (.int .u8 z) := (((Below.refl _ _).alloc (Nat.le_refl _) _).cell hb).trans c2
  have hcap : (i : Int) + 3 ≤ (cap : Int) := by omega
  have hcn : ¬ cap = i := by omega
  have t3 : ((i : Int) + 3).toNat = i + 3 := by omega
  clear c0 c1 c2
  have hat : ∀ w, (Instr.arrayAt 56 (.slice (some ⟨b, o + i, none⟩) 3 (cap - i))).run Try.prog w = .ok (.pointer (some ⟨b, o + i, none⟩)) w := fun w => run_arrayAt w 56 _ 3 _ 3 (cap - i) Try.underlying56 (Nat.le_refl _)
  have HB : Hid (Below w.heap.size w (w.alloc (.cells #[.int .u8 x, .int .u8 y, .int .u8 z] 56))) := (Below.refl _ _).alloc (Nat.le_refl _) _
  go_enter Try.func28, Try.ntmps28
  go_wp2_with (simp only [hat])
  refine bodyPost_ret (v := .agg #[.int .u8 x, .int .u8 y, .int .u8 z]) ?_ rfl ⟨rfl, HB.out⟩
  have hres : Try.f28.results = #[.cell 4 56] := by kernel_rfl
  simp only [results, hres]
  go_simp
end Go.Proofs.Ytjldmphfdaoecaa

namespace Go.Proofs.Ytjldmphfdaoecaa
open Go.RowKit Go.Maps
set_option maxRecDepth 20000
set_option linter.unusedVariables false

theorem SI.drop {w : World} {b o cap : Nat} {L : List Int} (h : SI w (.slice (some ⟨b, o, none⟩) L.length cap) L) {m : Nat} (hm : m ≤ L.length) : SI w (.slice (some ⟨b, o + m, none⟩) (L.length - m) (cap - m)) (L.drop m) := by
  obtain ⟨ao', cap', he, h1, h2, h3, h4⟩ := h
  simp only [Value.slice.injEq] at he
  obtain ⟨rfl, -, rfl⟩ := he
  refine ⟨some ⟨b, o + m, none⟩, cap - m, by rw [List.length_drop], by rw [List.length_drop]; omega, Nat.le_trans (Nat.sub_le _ _) h2, (fun e => by cases e), fun x hx i hi => ?_⟩
  cases hx
  rw [List.length_drop] at hi
  have c := h4 _ rfl (m + i) (by omega)
  rw [Addr.add_lit] at c ⊢
  rw [Nat.add_assoc, c]
  simp

theorem SI.nilAny {w : World} (a : Option Addr) (c : Nat) (hc : c ≤ maxLen) (ha : a = none → c = 0) : SI w (.slice a 0 c) [] :=
  ⟨a, c, rfl, Nat.zero_le _, hc, ha, fun x hx i hi => by simp at hi⟩

set_option maxHeartbeats 1000000 in
theorem nearest_any (v : Value) (L : List Int) (C : Nat) (w : World) (h : SI w v L) (hl : L.length ≤ 1000000000) (hC : C ≤ 1000000000) :
    Calls Try.prog 27 #[v, .int .i64 C] w fun e w' => ∃ v', e = .returned v' ∧ SI w v' (L.drop (L.length - C)) ∧ w' = w := by
  have HS := hide h
  obtain ⟨ao, cap, rfl, hlc, hcm⟩ := h.open
  by_cases hc : L.length ≤ C
  · have HR : Hid (SI w (.slice ao L.length cap) (L.drop (L.length - C))) := by
      show SI _ _ _
      rw [show L.length - C = 0 by omega, List.drop_zero]
      exact h
    have g : ¬ (0 : Int) < (L.length : Int) - (C : Int) := by omega
    clear h
    cases ao with
    | none =>
      go_enter Try.func27, Try.ntmps27
      go_wp2
      go_ret
      first
      | exact ⟨_, rfl, HR.out, rfl⟩
      | exact ⟨_, rfl, HS.out, rfl⟩
    | some x =>
      go_enter Try.func27, Try.ntmps27
      go_wp2
      go_ret
      first
      | exact ⟨_, rfl, HR.out, rfl⟩
      | exact ⟨_, rfl, HS.out, rfl⟩
  · obtain ⟨b, o, rfl, _⟩ := h.get (Below.refl _ _) (k := 0) (by omega)
    obtain ⟨m, hm⟩ : ∃ m, L.length = m + C := ⟨L.length - C, by omega⟩
    have HD := hide (h.drop (m := m) (by omega))
    have g : (0 : Int) < (L.length : Int) - (C : Int) := by omega
    have e1 : ((L.length : Int) - (C : Int)).toNat = m := by omega
    have e2 : (L.length : Int) - (C : Int) = (m : Int) := by omega
    have HM : Hid (L.length - C = m) := by show _ = _; omega
    have HM2 : Hid (L.length - m = C) := by show _ = _; omega
    rw [HM2.out] at HD
    have hmc : m ≤ cap := by omega
    have hlm : L.length - m = C := HM2.out
    clear h
    by_cases hcap : cap = m
    · have HR : Hid (SI w (.slice (some ⟨b, o, none⟩) C 0) (L.drop m)) := by
        show SI _ _ _
        have hC0 : C = 0 := by omega
        rw [hC0, List.drop_of_length_le (by omega)]
        exact SI.nilAny _ _ (Nat.zero_le _) (fun e => by cases e)
      go_enter Try.func27, Try.ntmps27
      go_wp2
      go_ret
      rw [HM.out]
      exact ⟨_, rfl, HR.out, rfl⟩
    · go_enter Try.func27, Try.ntmps27
      go_wp2
      go_ret
      rw [HM.out]
      exact ⟨_, rfl, HD.out, rfl⟩

set_option maxHeartbeats 1000000 in
theorem mrun_any (v : Value) (D : List Int) (j i k0 M : Nat) (w : World) (h : SB w v D) (hji : j < i) (hi : i < D.length) (hn : D.length ≤ 1000000000) (hk : k0 ≤ rno D j i) (hM : M = min 258 (D.length - i)) :
    Calls Try.prog 31 #[v, .int .i64 j, .int .i64 i, .int .i64 k0, .int .i64 M] w fun e w' => e = .returned (.int .i64 (rno D j i : Nat)) ∧ ∃ n, w' = w.drewN n := by
  have HS := hide h
  have HM := hide hM
  have hM2 : M ≤ 258 := by omega
  have hM3 : i + M ≤ D.length := by omega
  obtain ⟨ao, cap, rfl, hlc, hcm⟩ := h.open
  have hkM : k0 ≤ M := by have := rno_le D j i; have := rno_len (j := j) hi; omega
  clear h hM
  go_enter Try.func31, Try.ntmps31
  go_wp2
  go_loopw [3] (fun t wr => ∃ m q : Nat, m ≤ M ∧ t = .int .i64 m ∧ wr = w.drewN q ∧ Hid (m ≤ rno D j i)) (fun t _ => M - (intOf t).toNat)
  case atStart => exact ⟨k0, 0, hkM, rfl, rfl, hk⟩
  case round =>
    obtain ⟨m, q, hm, rfl, hw, HMM⟩ := hrel
    subst hw
    have HGO := hide (rno_go HMM.out)
    have k1 : IntKind.i64.wrap ((i : Int) + (m : Int)) = (i : Int) + (m : Int) := by rw [IntKind.wrap_i64]; omega
    have k2 : IntKind.i64.wrap ((j : Int) + (m : Int)) = (j : Int) + (m : Int) := by rw [IntKind.wrap_i64]; omega
    by_cases h1 : m < M
    · have g1 : decide ((m : Int) < (M : Int)) = true := decide_eq_true (by omega)
      have g1' : decide (m < M) = true := decide_eq_true h1
      obtain ⟨b, o, rfl, c1⟩ := HS.out.get (w := w.drewN q) (below_drewN (Below.refl _ _) q) (k := i + m) (by omega)
      obtain ⟨b', o', e', c2⟩ := HS.out.get (w := w.drewN q) (below_drewN (Below.refl _ _) q) (k := j + m) (by omega)
      simp only [Option.some.injEq, Addr.mk.injEq, and_true] at e'
      obtain ⟨rfl, rfl⟩ := e'
      obtain ⟨x, HX⟩ : ∃ x, Hid (x = D.getD (i + m) 0) := ⟨_, rfl⟩
      obtain ⟨y, HY⟩ : ∃ x, Hid (x = D.getD (j + m) 0) := ⟨_, rfl⟩
      rw [← HX.out] at c1 HGO
      rw [← HY.out] at c2 HGO
      have c1w : w.cell? ⟨b, o + (i + m), none⟩ = some (.int .u8 x) := c1
      have c2w : w.cell? ⟨b, o + (j + m), none⟩ = some (.int .u8 y) := c2
      have i1 : (i : Int) + (m : Int) < (D.length : Int) := by omega
      have i2 : (j : Int) + (m : Int) < (D.length : Int) := by omega
      have t1 : ((i : Int) + (m : Int)).toNat = i + m := by omega
      have t2 : ((j : Int) + (m : Int)).toNat = j + m := by omega
      by_cases h3 : y = x
      · subst h3
        have g3 : (y == y) = true := by simp
        have HN := hide (HGO.out.1 (by omega) (by omega) rfl)
        clear HGO
        go_wp2
        go_quiet (fail)
        go_wp2
        go_roundw
        case rel => exact ⟨m + 1, _, by omega, by go_num, by (try simp only [World.drewN_drewN]); rfl, HN⟩
        case measure => simp [intOf]; omega
      · have g3 : (y == x) = false := by simpa using h3
        have HE : Hid (rno D j i = m) := HGO.out.2 (fun q => h3 q.2.2)
        clear HGO h3
        go_wp2
        go_quiet (fail)
        go_wp2
        go_ret
        rw [HE.out]
        exact ⟨rfl, _, by (try simp only [World.drewN_drewN]); rfl⟩
    · have g1 : decide ((m : Int) < (M : Int)) = false := decide_eq_false (by omega)
      have g1' : decide (m < M) = false := decide_eq_false h1
      have HE : Hid (rno D j i = m) := HGO.out.2 (fun q => by have := HM.out; omega)
      clear HGO
      go_wp2
      go_quiet (fail)
      go_wp2
      go_ret
      rw [HE.out]
      exact ⟨rfl, _, by (try simp only [World.drewN_drewN]); rfl⟩

theorem str_inj {xs ys : List Int} (hx : ∀ x ∈ xs, 0 ≤ x ∧ x < 256) (hy : ∀ x ∈ ys, 0 ≤ x ∧ x < 256) (h : (strOfNums xs).toList = (strOfNums ys).toList) : xs = ys := by
  rw [Lib.strOfNums_toList, Lib.strOfNums_toList] at h
  have h1 : xs.map (fun n => UInt8.ofNat n.toNat) = ys.map (fun n => UInt8.ofNat n.toNat) := h
  clear h
  induction xs generalizing ys with
  | nil => cases ys with
    | nil => rfl
    | cons y ys => simp at h1
  | cons x xs ih =>
    cases ys with
    | nil => simp at h1
    | cons y ys =>
      simp only [List.map_cons, List.cons.injEq] at h1
      have a := hx x List.mem_cons_self
      have b := hy y List.mem_cons_self
      have e : x.toNat = y.toNat := by
        have := congrArg UInt8.toNat h1.1
        simp at this
        omega
      rw [ih (fun z hz => hx z (List.mem_cons_of_mem _ hz)) (fun z hz => hy z (List.mem_cons_of_mem _ hz)) h1.2, show x = y by omega]

def sub (D : List Int) (j n : Nat) : List Int := (D.drop j).take n

theorem sub_len {D : List Int} {j n : Nat} (h : j + n ≤ D.length) : (sub D j n).length = n := by simp [sub]; omega
theorem sub_get {D : List Int} {j n k : Nat} (h : k < n) : (sub D j n).getD k 0 = D.getD (j + k) 0 := by simp [sub, h]
theorem sub_byt {D : List Int} (hB : Byt D) (j n : Nat) : ∀ x ∈ sub D j n, 0 ≤ x ∧ x < 256 := fun x hx => by
  obtain ⟨k, hk, rfl⟩ := List.getElem_of_mem (List.mem_of_mem_drop (List.mem_of_mem_take hx))
  have := hB k
  simpa [hk] using this

theorem sub_eq {D : List Int} {j i n : Nat} (hji : j < i) (hi : i + n ≤ D.length) (hn : n ≤ 258) : sub D j n = sub D i n ↔ n ≤ rno D j i := by
  rw [rno_iff]
  refine ⟨fun h => ⟨hn, fun k hk => ⟨by omega, ?_⟩⟩, fun h => ?_⟩
  · have := congrArg (fun l => l.getD k 0) h
    simp only [sub_get hk] at this
    exact this
  · apply List.ext_getElem
    · rw [sub_len (by omega), sub_len hi]
    · intro k h1 h2
      rw [sub_len (by omega)] at h1
      have := (h.2 k h1).2
      rw [← sub_get h1, ← sub_get (j := i) h1] at this
      have l1 : k < (sub D j n).length := by rw [sub_len (by omega)]; exact h1
      have l2 : k < (sub D i n).length := by rw [sub_len hi]; exact h1
      simpa [l1, l2] using this

theorem equal_any (D : List Int) (j i n b o c1 c2 : Nat) (w : World) (hB : Byt D) (hc : ∀ k, k < D.length → w.cell? ⟨b, o + k, none⟩ = some (.int .u8 (D.getD k 0))) (hji : j < i) (hi : i + n ≤ D.length) (hn : n ≤ 258) :
    Calls Try.prog 30 #[.slice (some ⟨b, o + j, none⟩) n c1, .slice (some ⟨b, o + i, none⟩) n c2] w fun e w' => e = .returned (.bool (decide (n ≤ rno D j i))) ∧ w' = w := by
  have k1 : (convert 22 9 (.slice (some ⟨b, o + j, none⟩) n c1)).run Try.prog w = .ok (.string (strOfNums (sub D j n))) w := run_convert_bytes_arg (P := Try.prog) w 22 5 Try.underlying22 Try.underlying5 b (o + j) n c1 (sub D j n) (sub_len (by omega)) (fun k hk => by
    rw [sub_get hk, Nat.add_assoc]; exact hc _ (by omega)) 9 Try.underlying9
  have k2 : (convert 22 9 (.slice (some ⟨b, o + i, none⟩) n c2)).run Try.prog w = .ok (.string (strOfNums (sub D i n))) w := run_convert_bytes_arg (P := Try.prog) w 22 5 Try.underlying22 Try.underlying5 b (o + i) n c2 (sub D i n) (sub_len hi) (fun k hk => by
    rw [sub_get hk, Nat.add_assoc]; exact hc _ (by omega)) 9 Try.underlying9
  have HQ := hide (sub_eq hji hi hn)
  have HJ := hide (fun q => str_inj (sub_byt hB j n) (sub_byt hB i n) q)
  obtain ⟨s1, h1⟩ : ∃ s, s = strOfNums (sub D j n) := ⟨_, rfl⟩
  obtain ⟨s2, h2⟩ : ∃ s, s = strOfNums (sub D i n) := ⟨_, rfl⟩
  rw [← h1] at k1 HJ
  rw [← h2] at k2 HJ
  by_cases e : sub D j n = sub D i n
  · have HE : Hid (decide (n ≤ rno D j i) = true) := decide_eq_true (HQ.out.1 e)
    have g : (s1.toList == s2.toList) = true := by rw [h1, h2, e]; simp
    clear h1 h2 e hc
    go_enter Try.func30, Try.ntmps30
    go_wp2
    go_ret
    rw [HE.out]
    exact ⟨rfl, rfl⟩
  · have HE : Hid (decide (n ≤ rno D j i) = false) := decide_eq_false (fun q => e (HQ.out.2 q))
    have g : (s1.toList == s2.toList) = false := by
      simp only [beq_eq_false_iff_ne]
      exact fun q => e (HJ.out q)
    clear h1 h2 e hc
    go_enter Try.func30, Try.ntmps30
    go_wp2
    go_ret
    rw [HE.out]
    exact ⟨rfl, rfl⟩

def mbb (n : Nat) (x y : Int) : Bool := decide ((n : Int) ≤ 16777216 ∧ Dmn x y)

theorem mayBe_any (D : List Int) (ao : Option Addr) (cap : Nat) (x y : Int) (z : Bool) (w : World) : Calls Try.prog 13 #[.slice ao D.length cap, .agg #[.int .i64 x, .int .i64 y, .bool z]] w fun e w' => e = .returned (.bool (mbb D.length x y)) ∧ Below w.heap.size w w' := by
  have HB : Hid (Below w.heap.size w (w.alloc (.cells #[.int .i64 x, .int .i64 y, .bool z] 24))) := (Below.refl _ _).alloc (Nat.le_refl _) _
  obtain ⟨wb, hwb⟩ : ∃ wb, w.alloc (.cells #[.int .i64 x, .int .i64 y, .bool z] 24) = wb := ⟨_, rfl⟩
  have d1 : wb.cell? ⟨w.heap.size, 0, none⟩ = some (.int .i64 x) := by rw [← hwb]; unfold World.cell?; simp only [heap_alloc_new]; rfl
  have d2 : wb.cell? ⟨w.heap.size, 1, none⟩ = some (.int .i64 y) := by rw [← hwb]; unfold World.cell?; simp only [heap_alloc_new]; rfl
  rw [hwb] at HB
  by_cases h0 : (D.length : Int) ≤ 16777216
  · by_cases h1 : 1 ≤ x
    · by_cases h2 : x ≤ 32768
      · by_cases h3 : 0 ≤ y
        · by_cases h4 : y ≤ 4096
          · have HE : Hid (mbb D.length x y = true) := decide_eq_true ⟨h0, h1, h2, h3, h4⟩
            go_enter Try.func13, Try.ntmps13
            go_wp2
            go_ret
            rw [HE.out]
            exact ⟨rfl, HB.out⟩
          · have HE : Hid (mbb D.length x y = false) := decide_eq_false (fun q => h4 q.2.2.2.2)
            go_enter Try.func13, Try.ntmps13
            go_wp2
            go_ret
            rw [HE.out]
            exact ⟨rfl, HB.out⟩
        · have HE : Hid (mbb D.length x y = false) := decide_eq_false (fun q => h3 q.2.2.2.1)
          go_enter Try.func13, Try.ntmps13
          go_wp2
          go_ret
          rw [HE.out]
          exact ⟨rfl, HB.out⟩
      · have HE : Hid (mbb D.length x y = false) := decide_eq_false (fun q => h2 q.2.2.1)
        go_enter Try.func13, Try.ntmps13
        go_wp2
        go_ret
        rw [HE.out]
        exact ⟨rfl, HB.out⟩
    · have HE : Hid (mbb D.length x y = false) := decide_eq_false (fun q => h1 q.2.1)
      go_enter Try.func13, Try.ntmps13
      go_wp2
      go_ret
      rw [HE.out]
      exact ⟨rfl, HB.out⟩
  · have HE : Hid (mbb D.length x y = false) := decide_eq_false (fun q => h0 q.1)
    go_enter Try.func13, Try.ntmps13
    go_wp2
    go_ret
    rw [HE.out]
    exact ⟨rfl, HB.out⟩
end Go.Proofs.Ytjldmphfdaoecaa

namespace Go.Proofs.Ytjldmphfdaoecaa
open Go.RowKit Go.Maps
set_option maxRecDepth 20000
set_option linter.unusedVariables false
set_option linter.unusedSimpArgs false

def ins (l : List Nat) : List Int := l.map fun n : Nat => (n : Int)

theorem ins_len (l : List Nat) : (ins l).length = l.length := by simp [ins]
theorem ins_snoc (l : List Nat) (n : Nat) : ins (l ++ [n]) = ins l ++ [(n : Int)] := by simp [ins]
theorem grow_int {w wr w3 : World} {u v3 : Value} {D : List Int} {o : Obj} {B : Nat} (hB : Below B w wr) (hw : B ≤ w.heap.size) (hO : OI wr B u D) (hg : Grew (wr.alloc o) w3 u v3) : Below B w w3 :=
  (hB.alloc (Nat.le_trans hw hB.size) _).grown hg.by (by have := hB.size; simp; omega) (fun j hj => by have := hO.lt j hj; omega)
theorem OI.top {w : World} {base : Nat} {v : Value} {l : List Int} (h : OI w base v l) : ∃ a c, v = .slice a l.length c ∧ l.length ≤ c ∧ c ≤ 9223372036854775807 := by
  rcases h.2 with ⟨rfl, h0⟩ | ⟨g, cap, cur, rfl, _, _, h3, h4, _⟩
  · exact ⟨none, 0, by rw [h0], by omega, by omega⟩
  · unfold maxLen at h4; exact ⟨_, _, rfl, h3, by omega⟩

theorem asc_none {D : List Int} {i a n : Nat} (h : ¬ i + 3 ≤ D.length) : asc D i a n = [] := by
  unfold asc
  rw [List.filter_eq_nil_iff]
  intro j _
  simp only [decide_eq_true_eq]
  exact fun q => h (by have := q.1; omega)

end Go.Proofs.Ytjldmphfdaoecaa

