import Derived.Test.YtkmefeihkmbngaaDoorG10Sm1
namespace Go.Proofs.YtkmefeihkmbngaaDoor
open Go.RowKit Go.Maps
set_option maxRecDepth 20000
set_option linter.unusedVariables false

theorem mrg_rgt {w0 w : World} {B c : Nat} {A U Z : List Int} {y : Int} {f : Int → Int} (h : Mrg w0 w B c A (y :: U) Z f) : Mrg w0 w B c A (U ++ [y]) Z f := by
  obtain ⟨Y, T, h1, h2, h3, h4⟩ := h
  refine ⟨Y, T, h1, h2.trans ?_, h3, h4⟩
  exact (List.perm_append_comm (l₁ := [y]) (l₂ := U))

set_option maxHeartbeats 2000000 in
theorem sym2_any {w0 w : World} {B c : Nat} {p : Value} {f : Int → Int} {D : Int → Prop} (A U Z X : List Int) (y : Int) (hX : X = lft A U Z y U.length) (h : Srow w0 w B c X) (hc : Cmp w0 B p f D) (hD : ∀ y ∈ X, D y) (hL : X.length ≤ 288)
    (a m b : Nat) (ha : a = A.length) (hm : m = A.length + U.length) (hb : b = m + 1) (hU : 2 ≤ U.length) (hs : U.Pairwise (Lx f)) (hx : ∀ u ∈ U, f u = f y → u < y) :
    Calls Tryd.prog 75 #[.slice (some ⟨B, 0, none⟩) X.length c, .int .i64 a, .int .i64 m, .int .i64 b, .func (.func 65) #[] #[p]] w fun e w' => e = .returned (.tuple #[]) ∧ Mrg w0 w' B c A (U ++ [y]) Z f := by
  have HS := hide h
  have hlen : A.length + 1 + U.length + Z.length = X.length := by rw [hX, lft_len]
  have HX := hide hX
  obtain ⟨L, HLL⟩ : ∃ L, Hid (L = X.length) := ⟨_, rfl⟩
  rw [← HLL.out] at hlen hL ⊢
  have hcap := h.cap
  rw [← HLL.out] at hcap
  have hbL : b ≤ L := by omega
  have hmL : m < L := by omega
  have HVS := hide hs
  have HXC := hide hx
  have HCM := hide hc
  have G0 : Hid (X.getD m 0 = y) := by show _ = _; rw [hX, hm]; exact (rgt_get A U Z y).1
  have G1 : Hid (∀ t, t < U.length → X.getD (a + t) 0 = U.getD t 0) := fun t ht => by rw [hX, ha]; exact (rgt_get A U Z y).2 t ht
  have HVL : Hid (U.length = m - a) := by show _ = _; omega
  have ham : a + 2 ≤ m := by omega
  have HA := hide ha
  have HDX : Hid (D y) := hD y (by rw [hX, lft_mem]; exact .inr (.inl rfl))
  have HDV : Hid (∀ v ∈ U, D v) := fun v hv => hD v (by rw [hX, lft_mem]; exact .inr (.inr (.inl hv)))
  have e1 : IntKind.i64.wrap ((m : Int) - a) = ((m - a : Nat) : Int) := by rw [IntKind.wrap_i64]; omega
  have e1n : (((m - a : Nat) : Int) == 1) = false := by simp; omega
  have e2 : IntKind.i64.wrap ((b : Int) - m) = 1 := by rw [IntKind.wrap_i64]; omega
  obtain ⟨d, hd⟩ : ∃ d, d = m - a := ⟨_, rfl⟩
  rw [← hd] at e1 e1n
  have hd1 : ¬ (d : Int) = 1 := by omega
  have HM := hide hm
  have hbm : b ≤ m + 1 ∧ m + 1 ≤ b := by omega
  clear h hX hs hx hc hD ha hb hlen hd hm
  go_enter Tryd.func75, Tryd.ntmps75
  go_wp2
  go_loopw [14, 15] (fun vi vj wr => ∃ i j : Nat, a ≤ i ∧ i ≤ j ∧ j ≤ m ∧ vi = .int .i64 i ∧ vj = .int .i64 j ∧ Hid (Srow w0 wr B c X) ∧ Hid ((∀ t, a + t < i → f (U.getD t 0) ≤ f y) ∧ ∀ t, j ≤ a + t → t < U.length → f y < f (U.getD t 0))) (fun vi vj _ => (intOf vj).toNat - (intOf vi).toNat)
  case atStart => exact ⟨a, m, Nat.le_refl _, by omega, Nat.le_refl _, rfl, rfl, HS, fun t ht => by omega, fun t ht ht2 => by have := HVL.out; omega⟩
  case round =>
    obtain ⟨i, j, hmi, hij, hjb, rfl, rfl, HSR, HP⟩ := hrel
    by_cases hlt : i < j
    · have hlt' : (i : Int) < (j : Int) := by omega
      obtain ⟨hh, hhe⟩ : ∃ hh, hh = (i + j) / 2 := ⟨_, rfl⟩
      have hh1 : i ≤ hh ∧ hh < j := by omega
      obtain ⟨t, ht⟩ : ∃ t, hh = a + t := ⟨hh - a, by omega⟩
      have htV : t < U.length := by rw [HVL.out]; omega
      have ch := HSR.out.get (i := hh) (by rw [← HLL.out]; omega)
      rw [ht, G1.out t htV, ← ht] at ch
      have hD1 := HDV.out (U.getD t 0) (by rw [show U.getD t 0 = U[t] by simp [htV]]; exact List.getElem_mem htV)
      have HMO : Hid (∀ s, (s ≤ t → f (U.getD s 0) ≤ f (U.getD t 0)) ∧ (t ≤ s → s < U.length → f (U.getD t 0) ≤ f (U.getD s 0))) := fun s => ⟨fun h => mono_of HVS.out h htV, fun h h2 => mono_of HVS.out h h2⟩
      obtain ⟨x, HY⟩ : ∃ y, Hid (y = U.getD t 0) := ⟨_, rfl⟩
      rw [← HY.out] at ch hD1 HMO
      have HC : Hid (∀ n, Calls Tryd.prog 65 #[.int .i64 y, .int .i64 x, p] (wr.drewN n) fun e W' => e = .returned (.int .i64 (cmpv (f y) (f x))) ∧ ∃ k, W' = wr.drewN k) := fun n =>
        (HCM.out _ ((HSR.out.drewN n).only) y x HDX.out hD1).mono fun e W' ⟨he, k, hk⟩ => ⟨he, n + k, by rw [hk, World.drewN_drewN]⟩
      have cxr := HSR.out.get (i := m) (by rw [← HLL.out]; omega)
      rw [G0.out] at cxr
      have hcv := cmpv_lt (f y) (f x)
      obtain ⟨cv, HCV⟩ : ∃ cv, Hid (cv = cmpv (f y) (f x)) := ⟨_, rfl⟩
      rw [← HCV.out] at hcv HC
      have hq : ((i : Int) + (j : Int)) / 2 = (hh : Int) := by omega
      have hhL : (hh : Int) < (L : Int) := by omega
      have hmL' : (m : Int) < (L : Int) := by omega
      have HHT := hide ht
      clear hhe ht
      by_cases hlt2 : cv < 0
      · have HFL := hcv.1 hlt2
        have hnd : decide (cv < 0) = true := decide_eq_true hlt2
        have HPN : Hid ((∀ s, a + s < i → f (U.getD s 0) ≤ f y) ∧ ∀ s, hh ≤ a + s → s < U.length → f y < f (U.getD s 0)) := ⟨HP.out.1, fun s hs hs2 => by
          have := (HMO.out s).2 (by have := HHT.out; omega) hs2
          omega⟩
        clear hcv
        go_wp2
        go_quiet (first | (go_at_call 65; exact HC.out _))
        go_wp2
        go_roundw
        case rel => exact ⟨i, hh, hmi, by omega, by omega, rfl, by go_num, HSR.out.drewN _, HPN⟩
        case measure => simp [intOf]; omega
      · have HFL : ¬ f y < f x := fun q => hlt2 (hcv.2 q)
        have hnd : decide (cv < 0) = false := decide_eq_false hlt2
        have HPN : Hid ((∀ s, a + s < hh + 1 → f (U.getD s 0) ≤ f y) ∧ ∀ s, j ≤ a + s → s < U.length → f y < f (U.getD s 0)) := ⟨fun s hs => by
          have := (HMO.out s).1 (by have := HHT.out; omega)
          omega, HP.out.2⟩
        clear hcv
        go_wp2
        go_quiet (first | (go_at_call 65; exact HC.out _))
        go_wp2
        go_roundw
        case rel => exact ⟨hh + 1, j, by omega, by omega, hjb, by go_num, rfl, HSR.out.drewN _, HPN⟩
        case measure => simp [intOf]; omega
    · obtain rfl : i = j := by omega
      have hlt' : ¬ (i : Int) < (i : Int) := by omega
      have HS2 := HSR
      rw [HX.out] at HS2
      obtain ⟨r, hr⟩ : ∃ r, i = a + r := ⟨i - a, by omega⟩
      have hrV : r ≤ U.length := by rw [HVL.out]; omega
      have HPF : Hid ((∀ v ∈ U.take r, Lx f v y) ∧ ∀ v ∈ U.drop r, Lx f y v) := by
        refine ⟨take_all hrV fun t ht => lx_of (by have := HP.out.1 t (by omega); omega) (HXC.out _ ?_), drop_all fun t ht ht2 => .inl (HP.out.2 t (by omega) ht2)⟩
        have ht2 : t < U.length := by omega
        rw [show U.getD t 0 = U[t] by simp [ht2]]
        exact List.getElem_mem ht2
      have HRR := hide hr
      clear hr HP
      go_wp2
      go_loopw [17] (fun vk wr => ∃ k : Nat, i ≤ a + k ∧ a + k ≤ m ∧ vk = .int .i64 ((a : Int) + k) ∧ Hid (Srow w0 wr B c (lft A U Z y k))) (fun vk _ => (intOf vk).toNat)
      case atStart =>
        have hul : U.length = m - a := HVL.out
        exact ⟨U.length, by omega, by omega, by rw [hul]; go_num, HS2⟩
      case round =>
        obtain ⟨k, hk, hkm, rfl, HSK⟩ := hrel
        by_cases hlt3 : i < a + k
        · obtain ⟨k, rfl⟩ : ∃ k', k = k' + 1 := ⟨k - 1, by omega⟩
          have hkV : k < U.length := by rw [HVL.out]; omega
          have HST := hide (rgt_step A U Z y k hkV)
          rw [← HA.out] at HST
          have hkl : (lft A U Z y (k + 1)).length = L := by rw [HLL.out, HX.out, lft_len, lft_len]
          obtain ⟨X1, HX1⟩ : ∃ X1, Hid (X1 = lft A U Z y (k + 1)) := ⟨_, rfl⟩
          rw [← HX1.out] at HSK HST hkl
          have c1 := HSK.out.get (i := a + k) (by omega)
          have c2 := HSK.out.get (i := a + k + 1) (by omega)
          have f1 := HSK.out.fz (i := a + k) (by omega)
          have f2 := HSK.out.fz (i := a + k + 1) (by omega)
          have hsw := HSK.out.swap (i := a + k + 1) (j := a + k) (by omega) (by omega)
          rw [HST.out] at hsw
          obtain ⟨x1, hx1⟩ : ∃ x, X1.getD (a + k) 0 = x := ⟨_, rfl⟩
          obtain ⟨y1, hy1⟩ : ∃ x, X1.getD (a + k + 1) 0 = x := ⟨_, rfl⟩
          rw [hx1] at c1 hsw
          rw [hy1] at c2 hsw
          have HSW := hide hsw.drew
          obtain ⟨u, hu⟩ : ∃ u, a + k = u := ⟨_, rfl⟩
          rw [hu] at c1 c2 f1 f2 HSW
          obtain ⟨z, hz⟩ : ∃ z, u + 1 = z := ⟨_, rfl⟩
          rw [hz] at c2 f2 HSW
          have hau : (a : Int) + ((k + 1 : Nat) : Int) = (z : Int) := by omega
          have hzu : (z : Int) - 1 = (u : Int) := by omega
          have n1 : ¬ u = z := by omega
          have n2 : ¬ z = u := by omega
          have huL : (u : Int) < (L : Int) := by omega
          have hzL : (z : Int) < (L : Int) := by omega
          have hui : (i : Int) < (z : Int) := by omega
          rw [hau]
          clear hx1 hy1 hsw hkl hau
          go_wp2
          go_region
          go_wp2
          go_roundw
          case rel => exact ⟨k, by omega, by omega, by go_num, HSW⟩
          case measure => simp [intOf]; omega
        · have hlt3' : ¬ (i : Int) < (a : Int) + k := by omega
          have hkr : k = r := by have := HRR.out; omega
          have HF : Hid (Mrg w0 wr B c A (U ++ [y]) Z f) := mrg_rgt (mrg_lft HSK.out HVS.out (by rw [hkr]; exact HPF.out.1) (by rw [hkr]; exact HPF.out.2))
          clear hkr
          go_wp2
          (try simp only [Exit.inBlock, Exit.then])
          refine bodyPost_ret (results_none rfl _ _ _) rfl ?_
          exact ⟨rfl, HF.out⟩
end Go.Proofs.YtkmefeihkmbngaaDoor

namespace Go.Proofs.YtkmefeihkmbngaaDoor
open Go.RowKit Go.Maps
set_option maxRecDepth 20000
set_option linter.unusedVariables false

structure Cut4 (f : Int → Int) (U V U1 U2 V1 V2 : List Int) : Prop where
  u : U = U1 ++ U2
  v : V = V1 ++ V2
  c1 : ∀ x ∈ U1, ∀ y ∈ V2, Lx f x y
  c2 : ∀ y ∈ V1, ∀ x ∈ U2, Lx f y x

theorem sym_split {f : Int → Int} {U V : List Int} (hU : U.Pairwise (Lx f)) (hV : V.Pairwise (Lx f)) (hx : ∀ u ∈ U, ∀ v ∈ V, f u = f v → u < v) {a m b mid lo hi st : Nat} (hm : m = a + U.length) (hb : b = m + V.length)
    (h1 : lo ≤ st) (h2 : st ≤ hi) (hal : a ≤ lo) (him : hi ≤ m) (hid : hi ≤ mid) (hn : mid + m ≤ lo + b) (flo : lo = a ∨ lo + b = mid + m) (fhi : hi = m ∨ hi = mid)
    (g1 : ∀ c, lo ≤ c → c < st → f (U.getD (c - a) 0) ≤ f (V.getD (mid - 1 - c) 0)) (g2 : ∀ c, st ≤ c → c < hi → f (V.getD (mid - 1 - c) 0) < f (U.getD (c - a) 0)) :
    Cut4 f U V (U.take (st - a)) (U.drop (st - a)) (V.take (mid - st)) (V.drop (mid - st)) := by
  have gm : ∀ {l : List Int} {i : Nat} (h : i < l.length), l.getD i 0 = l[i] := fun h => by simp [h]
  refine ⟨(List.take_append_drop _ _).symm, (List.take_append_drop _ _).symm, fun x hx1 y hy1 => ?_, fun y hy1 x hx1 => ?_⟩
  · obtain ⟨i, hi1, rfl⟩ := List.getElem_of_mem hx1
    obtain ⟨j, hj1, rfl⟩ := List.getElem_of_mem hy1
    rw [List.length_take] at hi1
    rw [List.length_drop] at hj1
    rw [List.getElem_take, List.getElem_drop]
    have hgt : lo < st := by
      rcases flo with e | e
      · omega
      · apply Classical.byContradiction
        intro c
        omega
    have k := g1 (st - 1) (by omega) (by omega)
    have m1 := mono_of hU (s := i) (t := st - 1 - a) (by omega) (by omega)
    have m2 := mono_of hV (s := mid - 1 - (st - 1)) (t := mid - st + j) (by omega) (by omega)
    rw [gm (l := U) (i := i) (by omega)] at m1
    rw [gm (l := V) (i := mid - st + j) (by omega)] at m2
    exact lx_of (by omega) (hx _ (List.getElem_mem _) _ (List.getElem_mem _))
  · obtain ⟨j, hj1, rfl⟩ := List.getElem_of_mem hy1
    obtain ⟨i, hi1, rfl⟩ := List.getElem_of_mem hx1
    rw [List.length_take] at hj1
    rw [List.length_drop] at hi1
    rw [List.getElem_take, List.getElem_drop]
    have hlt : st < hi := by
      rcases fhi with e | e
      · apply Classical.byContradiction
        intro c
        omega
      · apply Classical.byContradiction
        intro c
        omega
    have k := g2 st (by omega) (by omega)
    have m1 := mono_of hV (s := j) (t := mid - 1 - st) (by omega) (by omega)
    have m2 := mono_of hU (s := st - a) (t := st - a + i) (by omega) (by omega)
    rw [gm (l := V) (i := j) (by omega)] at m1
    rw [gm (l := U) (i := st - a + i) (by omega)] at m2
    exact .inl (by omega)

theorem mrg_self {w0 w : World} {B c : Nat} {A C Z : List Int} {f : Int → Int} (h : Srow w0 w B c (A ++ (C ++ Z))) (hs : C.Pairwise (Lx f)) : Mrg w0 w B c A C Z f := ⟨C, _, rfl, List.Perm.refl _, hs, h⟩

theorem pw_left {f : Int → Int} {U U1 U2 : List Int} (h : U.Pairwise (Lx f)) (e : U = U1 ++ U2) : U1.Pairwise (Lx f) ∧ U2.Pairwise (Lx f) ∧ ∀ x ∈ U1, ∀ y ∈ U2, Lx f x y := by
  rw [e, List.pairwise_append] at h
  exact h

theorem mrg_fin {w0 w : World} {B c : Nat} {A U V Z U1 U2 V1 V2 Y1 : List Int} {f : Int → Int} (hc : Cut4 f U V U1 U2 V1 V2) (hU : U.Pairwise (Lx f)) (hV : V.Pairwise (Lx f)) (hp : Y1.Perm (U1 ++ V1)) (hs : Y1.Pairwise (Lx f)) (h : Mrg w0 w B c (A ++ Y1) (U2 ++ V2) Z f) : Mrg w0 w B c A (U ++ V) Z f := by
  obtain ⟨Y2, T, e, p2, s2, hr⟩ := h
  obtain ⟨_, _, uu⟩ := pw_left hU hc.u
  obtain ⟨_, _, vv⟩ := pw_left hV hc.v
  refine ⟨Y1 ++ Y2, T, by rw [e]; simp, ?_, ?_, hr⟩
  · have h1 : (Y1 ++ Y2).Perm ((U1 ++ V1) ++ (U2 ++ V2)) := hp.append p2
    refine h1.trans ?_
    rw [hc.u, hc.v]
    have : (U1 ++ V1 ++ (U2 ++ V2)).Perm (U1 ++ (U2 ++ (V1 ++ V2))) := by
      rw [List.append_assoc]
      refine List.Perm.append_left _ ?_
      rw [← List.append_assoc, ← List.append_assoc]
      exact List.Perm.append_right _ List.perm_append_comm
    have e2 : U1 ++ U2 ++ (V1 ++ V2) = U1 ++ (U2 ++ (V1 ++ V2)) := by simp
    rw [e2]
    exact this
  · rw [List.pairwise_append]
    refine ⟨hs, s2, fun x hx y hy => ?_⟩
    rcases List.mem_append.1 (hp.subset hx) with hx | hx <;> rcases List.mem_append.1 (p2.subset hy) with hy | hy
    · exact uu x hx y hy
    · exact hc.c1 x hx y hy
    · exact hc.c2 x hx y hy
    · exact vv x hx y hy

def SymOk6 (w0 : World) (B c : Nat) (p : Value) (f : Int → Int) (D : Int → Prop) (N : Nat) : Prop :=
  ∀ (w : World) (A U V Z X : List Int) (a m b : Nat), U.length + V.length ≤ N → X = A ++ (U ++ (V ++ Z)) → Srow w0 w B c X → (∀ y ∈ X, D y) → X.length ≤ 288 → a = A.length → m = A.length + U.length → b = m + V.length → 1 ≤ U.length → 1 ≤ V.length →
    U.Pairwise (Lx f) → V.Pairwise (Lx f) → (∀ u ∈ U, ∀ v ∈ V, f u = f v → u < v) →
    Calls Tryd.prog 75 #[.slice (some ⟨B, 0, none⟩) X.length c, .int .i64 a, .int .i64 m, .int .i64 b, .func (.func 65) #[] #[p]] w fun e w' => e = .returned (.tuple #[]) ∧ Mrg w0 w' B c A (U ++ V) Z f

theorem cut_x2 {f : Int → Int} {U V U1 U2 V1 V2 : List Int} (hc : Cut4 f U V U1 U2 V1 V2) (A Z : List Int) : A ++ (U ++ (V ++ Z)) = (A ++ U1) ++ U2 ++ V1 ++ (V2 ++ Z) := by
  rw [hc.u, hc.v]; simp

theorem cut_no {f : Int → Int} {U V U1 U2 V1 V2 : List Int} (hc : Cut4 f U V U1 U2 V1 V2) (A Z : List Int) (h : U2 = [] ∨ V1 = []) : A ++ (U ++ (V ++ Z)) = A ++ (U1 ++ (V1 ++ (U2 ++ (V2 ++ Z)))) := by
  rw [hc.u, hc.v]
  rcases h with h | h <;> rw [h] <;> simp

theorem pw_one {f : Int → Int} {U V : List Int} (hU : U.Pairwise (Lx f)) (hV : V.Pairwise (Lx f)) (h : U = [] ∨ V = []) : (U ++ V).Pairwise (Lx f) := by
  rcases h with h | h
  · rw [h]; simpa using hV
  · rw [h]; simpa using hU

theorem get_u (A U V Z : List Int) {i : Nat} (h : i < U.length) : (A ++ (U ++ (V ++ Z))).getD (A.length + i) 0 = U.getD i 0 := by
  rw [List.getD_eq_getElem?_getD, List.getElem?_append_right (by omega), Nat.add_sub_cancel_left, List.getElem?_append_left h, ← List.getD_eq_getElem?_getD]

theorem get_v (A U V Z : List Int) {i : Nat} (h : i < V.length) : (A ++ (U ++ (V ++ Z))).getD (A.length + U.length + i) 0 = V.getD i 0 := by
  rw [List.getD_eq_getElem?_getD, List.getElem?_append_right (by omega), show A.length + U.length + i - A.length = U.length + i by omega, List.getElem?_append_right (by omega), Nat.add_sub_cancel_left, List.getElem?_append_left h, ← List.getD_eq_getElem?_getD]

theorem getD_mem6' {l : List Int} {i : Nat} (h : i < l.length) : l.getD i 0 ∈ l := by
  rw [show l.getD i 0 = l[i] by simp [h]]
  exact List.getElem_mem h
end Go.Proofs.YtkmefeihkmbngaaDoor

