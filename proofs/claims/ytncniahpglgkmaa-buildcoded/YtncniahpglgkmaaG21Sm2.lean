import Derived.Test.YtncniahpglgkmaaG20Smp
namespace Go.Proofs.Ytncniahpglgkmaa
open Go.RowKit Go.Maps
set_option maxRecDepth 20000
set_option linter.unusedVariables false

set_option maxHeartbeats 2000000 in
theorem sym1_any {w0 w : World} {B c : Nat} {p : Value} {f : Int → Int} {D : Int → Prop} (A V Z X : List Int) (x : Int) (hX : X = lft A V Z x 0) (h : Srow w0 w B c X) (hc : Cmp w0 B p f D) (hD : ∀ y ∈ X, D y) (hL : X.length ≤ 288)
    (a m b : Nat) (ha : a = A.length) (hm : m = A.length + 1) (hb : b = A.length + 1 + V.length) (hs : V.Pairwise (Lx f)) (hx : ∀ v ∈ V, f x = f v → x < v) :
    Calls Try.prog 61 #[.slice (some ⟨B, 0, none⟩) X.length c, .int .i64 a, .int .i64 m, .int .i64 b, .func (.func 29) #[] #[p]] w fun e w' => e = .returned (.tuple #[]) ∧ Mrg w0 w' B c A (x :: V) Z f := by
  have HS := hide h
  have hlen : A.length + 1 + V.length + Z.length = X.length := by rw [hX, lft_len]
  have HX := hide hX
  obtain ⟨L, HLL⟩ : ∃ L, Hid (L = X.length) := ⟨_, rfl⟩
  rw [← HLL.out] at hlen hL ⊢
  have hcap := h.cap
  rw [← HLL.out] at hcap
  have hbL : b ≤ L := by omega
  have HMA : Hid (m = a + 1) := by show _ = _; omega
  have hma1 : m ≤ a + 1 ∧ a + 1 ≤ m := by omega
  have hmb : m ≤ b := by omega
  have HVS := hide hs
  have HXC := hide hx
  have HCM := hide hc
  have HDD := hide hD
  have G0 : Hid (X.getD a 0 = x) := by show _ = _; rw [hX, ha]; exact lft_get0 A V Z x
  have G1 : Hid (∀ t, t < V.length → X.getD (m + t) 0 = V.getD t 0) := fun t ht => by rw [hX, hm]; exact lft_get A V Z x ht
  have HVL : Hid (V.length = b - m) := by show _ = _; omega
  have HA := hide ha
  have HDX : Hid (D x) := hD x (by rw [hX, lft_mem]; exact .inr (.inl rfl))
  have HDV : Hid (∀ v ∈ V, D v) := fun v hv => hD v (by rw [hX, lft_mem]; exact .inr (.inr (.inl hv)))
  have e1 : IntKind.i64.wrap ((m : Int) - a) = 1 := by rw [IntKind.wrap_i64]; omega
  clear h hX hs hx hc hD ha hb hlen
  have HM := hide hm
  clear hm
  go_enter Try.func61, Try.ntmps61
  go_wp2
  go_loopw [10, 11] (fun vi vj wr => ∃ i j : Nat, m ≤ i ∧ i ≤ j ∧ j ≤ b ∧ vi = .int .i64 i ∧ vj = .int .i64 j ∧ Hid (Srow w0 wr B c X) ∧ Hid ((∀ t, m + t < i → f (V.getD t 0) < f x) ∧ ∀ t, j ≤ m + t → t < V.length → f x ≤ f (V.getD t 0))) (fun vi vj _ => (intOf vj).toNat - (intOf vi).toNat)
  case atStart => exact ⟨m, b, Nat.le_refl _, by omega, Nat.le_refl _, rfl, rfl, HS, fun t ht => by omega, fun t ht ht2 => by have := HVL.out; omega⟩
  case round =>
    obtain ⟨i, j, hmi, hij, hjb, rfl, rfl, HSR, HP⟩ := hrel
    by_cases hlt : i < j
    · have hlt' : (i : Int) < (j : Int) := by omega
      obtain ⟨hh, hhe⟩ : ∃ hh, hh = (i + j) / 2 := ⟨_, rfl⟩
      have hh1 : i ≤ hh ∧ hh < j := by omega
      obtain ⟨t, ht⟩ : ∃ t, hh = m + t := ⟨hh - m, by omega⟩
      have htV : t < V.length := by rw [HVL.out]; omega
      have ch := HSR.out.get (i := hh) (by rw [← HLL.out]; omega)
      rw [ht, G1.out t htV, ← ht] at ch
      have hD1 := HDV.out (V.getD t 0) (by rw [show V.getD t 0 = V[t] by simp [htV]]; exact List.getElem_mem htV)
      have HMO : Hid (∀ s, (s ≤ t → f (V.getD s 0) ≤ f (V.getD t 0)) ∧ (t ≤ s → s < V.length → f (V.getD t 0) ≤ f (V.getD s 0))) := fun s => ⟨fun h => mono_of HVS.out h htV, fun h h2 => mono_of HVS.out h h2⟩
      obtain ⟨y, HY⟩ : ∃ y, Hid (y = V.getD t 0) := ⟨_, rfl⟩
      rw [← HY.out] at ch hD1 HMO
      have HC : Hid (∀ n, Calls Try.prog 29 #[.int .i64 y, .int .i64 x, p] (wr.drewN n) fun e W' => e = .returned (.int .i64 (cmpv (f y) (f x))) ∧ ∃ k, W' = wr.drewN k) := fun n =>
        (HCM.out _ ((HSR.out.drewN n).only) y x hD1 HDX.out).mono fun e W' ⟨he, k, hk⟩ => ⟨he, n + k, by rw [hk, World.drewN_drewN]⟩
      have cxr := HSR.out.get (i := a) (by rw [← HLL.out]; omega)
      rw [G0.out] at cxr
      have hcv := cmpv_lt (f y) (f x)
      obtain ⟨cv, HCV⟩ : ∃ cv, Hid (cv = cmpv (f y) (f x)) := ⟨_, rfl⟩
      rw [← HCV.out] at hcv HC
      have hq : ((i : Int) + (j : Int)) / 2 = (hh : Int) := by omega
      have hhL : (hh : Int) < (L : Int) := by omega
      have haL : (a : Int) < (L : Int) := by omega
      have HHT := hide ht
      clear hhe ht
      by_cases hlt2 : cv < 0
      · have HFL := hcv.1 hlt2
        have HPN : Hid ((∀ s, m + s < hh + 1 → f (V.getD s 0) < f x) ∧ ∀ s, j ≤ m + s → s < V.length → f x ≤ f (V.getD s 0)) := ⟨fun s hs => by
          have := (HMO.out s).1 (by have := HHT.out; omega)
          omega, HP.out.2⟩
        clear hcv
        go_wp2
        go_quiet (first | (go_at_call 29; exact HC.out _))
        go_wp2
        go_roundw
        case rel => exact ⟨hh + 1, j, by omega, by omega, hjb, by go_num, rfl, HSR.out.drewN _, HPN⟩
        case measure => simp [intOf]; omega
      · have HFL : ¬ f y < f x := fun q => hlt2 (hcv.2 q)
        have HPN : Hid ((∀ s, m + s < i → f (V.getD s 0) < f x) ∧ ∀ s, hh ≤ m + s → s < V.length → f x ≤ f (V.getD s 0)) := ⟨HP.out.1, fun s hs hs2 => by
          have := (HMO.out s).2 (by have := HHT.out; omega) hs2
          omega⟩
        clear hcv
        go_wp2
        go_quiet (first | (go_at_call 29; exact HC.out _))
        go_wp2
        go_roundw
        case rel => exact ⟨i, hh, hmi, by omega, by omega, rfl, by go_num, HSR.out.drewN _, HPN⟩
        case measure => simp [intOf]; omega
    · obtain rfl : i = j := by omega
      have hlt' : ¬ (i : Int) < (i : Int) := by omega
      have HS2 := HSR
      rw [HX.out] at HS2
      obtain ⟨r, hr⟩ : ∃ r, i = m + r := ⟨i - m, by omega⟩
      have hrV : r ≤ V.length := by rw [HVL.out]; omega
      have HPF : Hid ((∀ v ∈ V.take r, Lx f v x) ∧ ∀ v ∈ V.drop r, Lx f x v) := by
        refine ⟨take_all hrV fun t ht => .inl (HP.out.1 t (by omega)), drop_all fun t ht ht2 => lx_of (by have := HP.out.2 t (by omega) ht2; omega) (HXC.out _ ?_)⟩
        rw [show V.getD t 0 = V[t] by simp [ht2]]
        exact List.getElem_mem ht2
      have HRR := hide hr
      clear hr HP
      go_wp2
      go_loopw [13] (fun vk wr => ∃ k : Nat, a + k + 1 ≤ i ∧ vk = .int .i64 ((a : Int) + k) ∧ Hid (Srow w0 wr B c (lft A V Z x k))) (fun vk _ => i - (intOf vk).toNat)
      case atStart => exact ⟨0, by omega, by simp, HS2⟩
      case round =>
        obtain ⟨k, hk, rfl, HSK⟩ := hrel
        by_cases hlt3 : a + k + 1 < i
        · have hlt3' : (a : Int) + k < (i : Int) - 1 := by omega
          have hkV : k < V.length := by have := HRR.out; omega
          have HST := hide (lft_step A V Z x k hkV)
          rw [← HA.out] at HST
          have hkl : (lft A V Z x k).length = L := by rw [HLL.out, HX.out, lft_len, lft_len]
          obtain ⟨X1, HX1⟩ : ∃ X1, Hid (X1 = lft A V Z x k) := ⟨_, rfl⟩
          rw [← HX1.out] at HSK HST hkl
          have c1 := HSK.out.get (i := a + k) (by omega)
          have c2 := HSK.out.get (i := a + k + 1) (by omega)
          have f1 := HSK.out.fz (i := a + k) (by omega)
          have f2 := HSK.out.fz (i := a + k + 1) (by omega)
          have hsw := HSK.out.swap (i := a + k) (j := a + k + 1) (by omega) (by omega)
          rw [HST.out] at hsw
          obtain ⟨x1, hx1⟩ : ∃ x, X1.getD (a + k) 0 = x := ⟨_, rfl⟩
          obtain ⟨y1, hy1⟩ : ∃ x, X1.getD (a + k + 1) 0 = x := ⟨_, rfl⟩
          rw [hx1] at c1 hsw
          rw [hy1] at c2 hsw
          have HSW := hide hsw.drew
          obtain ⟨u, hu⟩ : ∃ u, a + k = u := ⟨_, rfl⟩
          rw [hu] at c1 c2 f1 f2 HSW
          have hau : (a : Int) + k = (u : Int) := by omega
          have w1 : IntKind.i64.wrap ((u : Int) + 1) = ((u + 1 : Nat) : Int) := by rw [IntKind.wrap_i64]; omega
          obtain ⟨z, hz⟩ : ∃ z, u + 1 = z := ⟨_, rfl⟩
          rw [hz] at c2 f2 HSW w1
          have hzu : (u : Int) + 1 = (z : Int) := by omega
          have n1 : ¬ u = z := by omega
          have n2 : ¬ z = u := by omega
          have huL : (u : Int) < (L : Int) := by omega
          have hzL : (z : Int) < (L : Int) := by omega
          have hui : (u : Int) < (i : Int) - 1 := by omega
          rw [hau]
          clear hx1 hy1 hsw hkl hlt3' hau hzu
          go_wp2
          go_region
          go_wp2
          go_roundw
          case rel => exact ⟨k + 1, by omega, by go_num, HSW⟩
          case measure => simp [intOf]; omega
        · have hlt3' : ¬ (a : Int) + k < (i : Int) - 1 := by omega
          have hkr : k = r := by have := HRR.out; have := HMA.out; omega
          have HF : Hid (Mrg w0 wr B c A (x :: V) Z f) := mrg_lft HSK.out HVS.out (by rw [hkr]; exact HPF.out.1) (by rw [hkr]; exact HPF.out.2)
          clear hkr
          go_wp2
          (try simp only [Exit.inBlock, Exit.then])
          refine bodyPost_ret (results_none rfl _ _ _) rfl ?_
          exact ⟨rfl, HF.out⟩
end Go.Proofs.Ytncniahpglgkmaa

namespace Go.Proofs.Ytncniahpglgkmaa
open Go.RowKit Go.Maps
set_option maxRecDepth 20000
set_option linter.unusedVariables false

theorem mrg_rgt {w0 w : World} {B c : Nat} {A U Z : List Int} {y : Int} {f : Int → Int} (h : Mrg w0 w B c A (y :: U) Z f) : Mrg w0 w B c A (U ++ [y]) Z f := by
  obtain ⟨Y, T, h1, h2, h3, h4⟩ := h
  refine ⟨Y, T, h1, h2.trans ?_, h3, h4⟩
  exact (List.perm_append_comm (l₁ := [y]) (l₂ := U))

set_option maxHeartbeats 2000000 in
theorem sym2_any {w0 w : World} {B c : Nat} {p : Value} {f : Int → Int} {D : Int → Prop} (A U Z X : List Int) (y : Int) (hX : X = lft A U Z y U.length) (h : Srow w0 w B c X) (hc : Cmp w0 B p f D) (hD : ∀ y ∈ X, D y) (hL : X.length ≤ 288)
    (a m b : Nat) (ha : a = A.length) (hm : m = A.length + U.length) (hb : b = m + 1) (hU : 2 ≤ U.length) (hs : U.Pairwise (Lx f)) (hx : ∀ u ∈ U, f u = f y → u < y) :
    Calls Try.prog 61 #[.slice (some ⟨B, 0, none⟩) X.length c, .int .i64 a, .int .i64 m, .int .i64 b, .func (.func 29) #[] #[p]] w fun e w' => e = .returned (.tuple #[]) ∧ Mrg w0 w' B c A (U ++ [y]) Z f := by
  have HS := hide h
  have hlen : A.length + 1 + U.length + Z.length = X.length := by rw [hX, lft_len]
  have HX := hide hX
  obtain ⟨L, HLL⟩ : ∃ L, Hid (L = X.length) := ⟨_, rfl⟩
  rw [← HLL.out] at hlen hL ⊢
  have hcap := h.cap
  rw [← HLL.out] at hcap
  have hbL : b ≤ L := by omega
  have hmL : m < L := by omega
  have HVS := hide hs
  have HXC := hide hx
  have HCM := hide hc
  have G0 : Hid (X.getD m 0 = y) := by show _ = _; rw [hX, hm]; exact (rgt_get A U Z y).1
  have G1 : Hid (∀ t, t < U.length → X.getD (a + t) 0 = U.getD t 0) := fun t ht => by rw [hX, ha]; exact (rgt_get A U Z y).2 t ht
  have HVL : Hid (U.length = m - a) := by show _ = _; omega
  have ham : a + 2 ≤ m := by omega
  have HA := hide ha
  have HDX : Hid (D y) := hD y (by rw [hX, lft_mem]; exact .inr (.inl rfl))
  have HDV : Hid (∀ v ∈ U, D v) := fun v hv => hD v (by rw [hX, lft_mem]; exact .inr (.inr (.inl hv)))
  have e1 : IntKind.i64.wrap ((m : Int) - a) = ((m - a : Nat) : Int) := by rw [IntKind.wrap_i64]; omega
  have e1n : (((m - a : Nat) : Int) == 1) = false := by simp; omega
  have e2 : IntKind.i64.wrap ((b : Int) - m) = 1 := by rw [IntKind.wrap_i64]; omega
  obtain ⟨d, hd⟩ : ∃ d, d = m - a := ⟨_, rfl⟩
  rw [← hd] at e1 e1n
  have hd1 : ¬ (d : Int) = 1 := by omega
  have HM := hide hm
  have hbm : b ≤ m + 1 ∧ m + 1 ≤ b := by omega
  clear h hX hs hx hc hD ha hb hlen hd hm
  go_enter Try.func61, Try.ntmps61
  go_wp2
  go_loopw [14, 15] (fun vi vj wr => ∃ i j : Nat, a ≤ i ∧ i ≤ j ∧ j ≤ m ∧ vi = .int .i64 i ∧ vj = .int .i64 j ∧ Hid (Srow w0 wr B c X) ∧ Hid ((∀ t, a + t < i → f (U.getD t 0) ≤ f y) ∧ ∀ t, j ≤ a + t → t < U.length → f y < f (U.getD t 0))) (fun vi vj _ => (intOf vj).toNat - (intOf vi).toNat)
  case atStart => exact ⟨a, m, Nat.le_refl _, by omega, Nat.le_refl _, rfl, rfl, HS, fun t ht => by omega, fun t ht ht2 => by have := HVL.out; omega⟩
  case round =>
    obtain ⟨i, j, hmi, hij, hjb, rfl, rfl, HSR, HP⟩ := hrel
    by_cases hlt : i < j
    · have hlt' : (i : Int) < (j : Int) := by omega
      obtain ⟨hh, hhe⟩ : ∃ hh, hh = (i + j) / 2 := ⟨_, rfl⟩
      have hh1 : i ≤ hh ∧ hh < j := by omega
      obtain ⟨t, ht⟩ : ∃ t, hh = a + t := ⟨hh - a, by omega⟩
      have htV : t < U.length := by rw [HVL.out]; omega
      have ch := HSR.out.get (i := hh) (by rw [← HLL.out]; omega)
      rw [ht, G1.out t htV, ← ht] at ch
      have hD1 := HDV.out (U.getD t 0) (by rw [show U.getD t 0 = U[t] by simp [htV]]; exact List.getElem_mem htV)
      have HMO : Hid (∀ s, (s ≤ t → f (U.getD s 0) ≤ f (U.getD t 0)) ∧ (t ≤ s → s < U.length → f (U.getD t 0) ≤ f (U.getD s 0))) := fun s => ⟨fun h => mono_of HVS.out h htV, fun h h2 => mono_of HVS.out h h2⟩
      obtain ⟨x, HY⟩ : ∃ y, Hid (y = U.getD t 0) := ⟨_, rfl⟩
      rw [← HY.out] at ch hD1 HMO
      have HC : Hid (∀ n, Calls Try.prog 29 #[.int .i64 y, .int .i64 x, p] (wr.drewN n) fun e W' => e = .returned (.int .i64 (cmpv (f y) (f x))) ∧ ∃ k, W' = wr.drewN k) := fun n =>
        (HCM.out _ ((HSR.out.drewN n).only) y x HDX.out hD1).mono fun e W' ⟨he, k, hk⟩ => ⟨he, n + k, by rw [hk, World.drewN_drewN]⟩
      have cxr := HSR.out.get (i := m) (by rw [← HLL.out]; omega)
      rw [G0.out] at cxr
      have hcv := cmpv_lt (f y) (f x)
      obtain ⟨cv, HCV⟩ : ∃ cv, Hid (cv = cmpv (f y) (f x)) := ⟨_, rfl⟩
      rw [← HCV.out] at hcv HC
      have hq : ((i : Int) + (j : Int)) / 2 = (hh : Int) := by omega
      have hhL : (hh : Int) < (L : Int) := by omega
      have hmL' : (m : Int) < (L : Int) := by omega
      have HHT := hide ht
      clear hhe ht
      by_cases hlt2 : cv < 0
      · have HFL := hcv.1 hlt2
        have hnd : decide (cv < 0) = true := decide_eq_true hlt2
        have HPN : Hid ((∀ s, a + s < i → f (U.getD s 0) ≤ f y) ∧ ∀ s, hh ≤ a + s → s < U.length → f y < f (U.getD s 0)) := ⟨HP.out.1, fun s hs hs2 => by
          have := (HMO.out s).2 (by have := HHT.out; omega) hs2
          omega⟩
        clear hcv
        go_wp2
        go_quiet (first | (go_at_call 29; exact HC.out _))
        go_wp2
        go_roundw
        case rel => exact ⟨i, hh, hmi, by omega, by omega, rfl, by go_num, HSR.out.drewN _, HPN⟩
        case measure => simp [intOf]; omega
      · have HFL : ¬ f y < f x := fun q => hlt2 (hcv.2 q)
        have hnd : decide (cv < 0) = false := decide_eq_false hlt2
        have HPN : Hid ((∀ s, a + s < hh + 1 → f (U.getD s 0) ≤ f y) ∧ ∀ s, j ≤ a + s → s < U.length → f y < f (U.getD s 0)) := ⟨fun s hs => by
          have := (HMO.out s).1 (by have := HHT.out; omega)
          omega, HP.out.2⟩
        clear hcv
        go_wp2
        go_quiet (first | (go_at_call 29; exact HC.out _))
        go_wp2
        go_roundw
        case rel => exact ⟨hh + 1, j, by omega, by omega, hjb, by go_num, rfl, HSR.out.drewN _, HPN⟩
        case measure => simp [intOf]; omega
    · obtain rfl : i = j := by omega
      have hlt' : ¬ (i : Int) < (i : Int) := by omega
      have HS2 := HSR
      rw [HX.out] at HS2
      obtain ⟨r, hr⟩ : ∃ r, i = a + r := ⟨i - a, by omega⟩
      have hrV : r ≤ U.length := by rw [HVL.out]; omega
      have HPF : Hid ((∀ v ∈ U.take r, Lx f v y) ∧ ∀ v ∈ U.drop r, Lx f y v) := by
        refine ⟨take_all hrV fun t ht => lx_of (by have := HP.out.1 t (by omega); omega) (HXC.out _ ?_), drop_all fun t ht ht2 => .inl (HP.out.2 t (by omega) ht2)⟩
        have ht2 : t < U.length := by omega
        rw [show U.getD t 0 = U[t] by simp [ht2]]
        exact List.getElem_mem ht2
      have HRR := hide hr
      clear hr HP
      go_wp2
      go_loopw [17] (fun vk wr => ∃ k : Nat, i ≤ a + k ∧ a + k ≤ m ∧ vk = .int .i64 ((a : Int) + k) ∧ Hid (Srow w0 wr B c (lft A U Z y k))) (fun vk _ => (intOf vk).toNat)
      case atStart =>
        have hul : U.length = m - a := HVL.out
        exact ⟨U.length, by omega, by omega, by rw [hul]; go_num, HS2⟩
      case round =>
        obtain ⟨k, hk, hkm, rfl, HSK⟩ := hrel
        by_cases hlt3 : i < a + k
        · obtain ⟨k, rfl⟩ : ∃ k', k = k' + 1 := ⟨k - 1, by omega⟩
          have hkV : k < U.length := by rw [HVL.out]; omega
          have HST := hide (rgt_step A U Z y k hkV)
          rw [← HA.out] at HST
          have hkl : (lft A U Z y (k + 1)).length = L := by rw [HLL.out, HX.out, lft_len, lft_len]
          obtain ⟨X1, HX1⟩ : ∃ X1, Hid (X1 = lft A U Z y (k + 1)) := ⟨_, rfl⟩
          rw [← HX1.out] at HSK HST hkl
          have c1 := HSK.out.get (i := a + k) (by omega)
          have c2 := HSK.out.get (i := a + k + 1) (by omega)
          have f1 := HSK.out.fz (i := a + k) (by omega)
          have f2 := HSK.out.fz (i := a + k + 1) (by omega)
          have hsw := HSK.out.swap (i := a + k + 1) (j := a + k) (by omega) (by omega)
          rw [HST.out] at hsw
          obtain ⟨x1, hx1⟩ : ∃ x, X1.getD (a + k) 0 = x := ⟨_, rfl⟩
          obtain ⟨y1, hy1⟩ : ∃ x, X1.getD (a + k + 1) 0 = x := ⟨_, rfl⟩
          rw [hx1] at c1 hsw
          rw [hy1] at c2 hsw
          have HSW := hide hsw.drew
          obtain ⟨u, hu⟩ : ∃ u, a + k = u := ⟨_, rfl⟩
          rw [hu] at c1 c2 f1 f2 HSW
          obtain ⟨z, hz⟩ : ∃ z, u + 1 = z := ⟨_, rfl⟩
          rw [hz] at c2 f2 HSW
          have hau : (a : Int) + ((k + 1 : Nat) : Int) = (z : Int) := by omega
          have hzu : (z : Int) - 1 = (u : Int) := by omega
          have n1 : ¬ u = z := by omega
          have n2 : ¬ z = u := by omega
          have huL : (u : Int) < (L : Int) := by omega
          have hzL : (z : Int) < (L : Int) := by omega
          have hui : (i : Int) < (z : Int) := by omega
          rw [hau]
          clear hx1 hy1 hsw hkl hau
          go_wp2
          go_region
          go_wp2
          go_roundw
          case rel => exact ⟨k, by omega, by omega, by go_num, HSW⟩
          case measure => simp [intOf]; omega
        · have hlt3' : ¬ (i : Int) < (a : Int) + k := by omega
          have hkr : k = r := by have := HRR.out; omega
          have HF : Hid (Mrg w0 wr B c A (U ++ [y]) Z f) := mrg_rgt (mrg_lft HSK.out HVS.out (by rw [hkr]; exact HPF.out.1) (by rw [hkr]; exact HPF.out.2))
          clear hkr
          go_wp2
          (try simp only [Exit.inBlock, Exit.then])
          refine bodyPost_ret (results_none rfl _ _ _) rfl ?_
          exact ⟨rfl, HF.out⟩
end Go.Proofs.Ytncniahpglgkmaa

