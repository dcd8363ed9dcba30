import Derived.Test.YtncniahpglgkmaaG17Krf
namespace Go.Proofs.Ytncniahpglgkmaa
open Go.RowKit Go.Maps
set_option maxRecDepth 20000
set_option linter.unusedVariables false

theorem w64in {x : Int} (h : -9223372036854775808 ≤ x ∧ x ≤ 9223372036854775807) : wrap64 x = x := by unfold wrap64; omega

theorem w64add {s p : Nat} (hs : s ≤ 1152921504606846976) (hp : p ≤ 1152921504606846976) : wrap64 ((s : Int) + (p : Int)) = ((s + p : Nat) : Int) := by
  rw [w64in (by omega)]
  omega

theorem w64shl {m p : Nat} (hm : m ≤ 60) (hp : p ≤ 1152921504606846976) (HP : p = 2 ^ m) : wrap64 ((2 : Int) ^ min m 64) = (p : Int) := by
  rw [show min m 64 = m from Nat.min_eq_left (by omega), show ((2 : Int) ^ m) = (p : Int) by rw [HP]; simp]
  exact w64in (by omega)

theorem w64pow {m p : Nat} (hp : p ≤ 1152921504606846976) (HP : p = 2 ^ m) : wrap64 ((2 : Int) ^ m) = (p : Int) := by
  rw [show ((2 : Int) ^ m) = (p : Int) by rw [HP]; simp]
  exact w64in (by omega)

theorem kst_step {f n : List Int} {lim : Int} {k s : Nat} (h : kst f n lim k = some s) : kst f n lim (k + 1) = if f.getD k 0 = 0 then some s else if n.getD k 0 < 1 ∨ lim < n.getD k 0 ∨ 60 < n.getD k 0 then none else
        if 2 ^ 60 < s + 2 ^ (60 - (n.getD k 0).toNat) then none else some (s + 2 ^ (60 - (n.getD k 0).toNat)) := by
  simp only [kst, h]

set_option maxHeartbeats 1000000 in
theorem kraft_any (vf vn : Value) (f n : List Int) (lim : Int) (w : World) (hf : SI w vf f) (hn : SI w vn n) (h288 : f.length ≤ 288) (hlim : lim ≤ 9223372036854775807 ∧ -9223372036854775808 ≤ lim) (hn64 : ∀ i, -9223372036854775808 ≤ n.getD i 0 ∧ n.getD i 0 ≤ 9223372036854775807) :
    Calls Try.prog 11 #[vf, vn, .int .i64 lim] w fun e w' => e = .returned (.int .i64 (krV f n lim)) ∧ w' = w := by
  have HF := hide hf
  have HN := hide hn
  obtain ⟨af, cf, rfl, hlf, hmf⟩ := hf.open
  obtain ⟨an, cn, rfl, hln, hmn⟩ := hn.open
  clear hf hn
  by_cases h2 : n.length = f.length
  case neg =>
    have h2' : ((n.length : Int) != (f.length : Int)) = true := by simp; omega
    have HE : Hid (krV f n lim = -1) := if_pos h2
    rw [HE.out]
    clear h2
    go_enter Try.func11, Try.ntmps11
    go_wp2
    go_ret
    exact ⟨rfl, rfl⟩
  have h2' : ((n.length : Int) != (f.length : Int)) = false := by simp; omega
  have H2 := hide h2
  have HK : Hid (krV f n lim = match kst f n lim f.length with | none => -1 | some s => (s : Int)) := if_neg (fun q => q h2)
  have H64 := hide hn64
  clear h2 hn64
  go_enter Try.func11, Try.ntmps11
  go_wp2
  go_loopw [7, 8] (fun u i wr => ∃ k s : Nat, k ≤ f.length ∧ i = .int .i64 k ∧ u = .int .i64 s ∧ Hid (s ≤ 1152921504606846976) ∧ wr = w ∧ Hid (kst f n lim k = some s)) (fun _ i _ => f.length - (intOf i).toNat)
  case atStart => exact ⟨0, 0, Nat.zero_le _, rfl, rfl, Nat.zero_le _, rfl, rfl⟩
  case round =>
    obtain ⟨k, s, hk, rfl, rfl, hs, rfl, HS⟩ := hrel
    by_cases hlt : k < f.length
    · have hlt' : (k : Int) < (f.length : Int) := by omega
      have hkn : (k : Int) < (n.length : Int) := by have := H2.out; omega
      obtain ⟨b1, o1, rfl, hc1⟩ := HF.out.get (Below.refl _ _) hlt
      obtain ⟨b2, o2, rfl, hc2⟩ := HN.out.get (Below.refl _ _) (k := k) (by rw [H2.out]; exact hlt)
      have HT := hide (kst_step HS.out)
      have h64 := H64.out k
      have HDD : Hid (kst f n lim (k + 1) = none → krV f n lim = -1) := fun q => by rw [HK.out, kst_dead hlt q]
      obtain ⟨x, HX⟩ : ∃ x, Hid (x = f.getD k 0) := ⟨_, rfl⟩
      obtain ⟨y, HY⟩ : ∃ x, Hid (x = n.getD k 0) := ⟨_, rfl⟩
      rw [← HX.out] at hc1 HT
      rw [← HY.out] at hc2 HT h64
      by_cases hx : x = 0
      · have HT2 : Hid (kst f n lim (k + 1) = some s) := by show _ = _; rw [HT.out, if_pos hx]
        have hx' : (x == 0) = true := by simp [hx]
        clear hx
        go_wp2
        go_roundw
        case rel => exact ⟨k + 1, s, by omega, by go_num, rfl, hs, by trivial, HT2⟩
        case measure => simp [intOf]; omega
      · have hx' : (x == 0) = false := by simp [hx]
        by_cases h3 : y < 1 ∨ lim < y ∨ 60 < y
        · have HE : Hid (krV f n lim = -1) := HDD.out (by rw [HT.out, if_neg hx, if_pos h3])
          clear hx
          by_cases q1 : y < 1
          · clear h3
            go_wp2
            go_ret
            rw [HE.out]
            exact ⟨rfl, rfl⟩
          · by_cases q2 : lim < y
            · clear h3
              go_wp2
              go_ret
              rw [HE.out]
              exact ⟨rfl, rfl⟩
            · have q3 : 60 < y := by omega
              clear h3
              go_wp2
              go_ret
              rw [HE.out]
              exact ⟨rfl, rfl⟩
        · have q1 : ¬ y < 1 := by omega
          have q2 : ¬ lim < y := by omega
          have q3 : ¬ 60 < y := by omega
          obtain ⟨m, hm⟩ : ∃ m : Nat, m = 60 - y.toNat := ⟨_, rfl⟩
          have e1 : IntKind.i64.wrap (60 - y) = (m : Int) := by rw [IntKind.wrap_i64]; omega
          have e2 : IntKind.u64.wrap (m : Int) = (m : Int) := by rw [IntKind.wrap_u64]; omega
          have hp : (2 : Nat) ^ m ≤ 2 ^ 60 := Nat.pow_le_pow_right (by decide) (by omega)
          have HT3 : Hid (kst f n lim (k + 1) = if 2 ^ 60 < s + 2 ^ m then none else some (s + 2 ^ m)) := by show _ = _; rw [HT.out, if_neg hx, if_neg h3, hm]
          obtain ⟨p, HP⟩ : ∃ p : Nat, Hid (p = 2 ^ m) := ⟨_, rfl⟩
          rw [← HP.out] at hp HT3
          have hp' : Hid (p ≤ 1152921504606846976) := hp
          have hm60 : m ≤ 60 := by omega
          have e4 := w64shl hm60 hp'.out HP.out
          have e5 := w64pow hp'.out HP.out
          obtain ⟨t, ht⟩ : ∃ t, t = s + p := ⟨_, rfl⟩
          have e3 := w64add hs.out hp'.out
          rw [← ht] at e3
          rw [← ht] at HT3
          have HTT := hide ht
          clear hx h3 hm hp ht
          by_cases h4 : 1152921504606846976 < t
          · have HE : Hid (krV f n lim = -1) := HDD.out (by rw [HT3.out, if_pos h4])
            have h4' : (1152921504606846976 : Int) < (t : Int) := by omega
            clear h4
            go_wp2
            go_ret
            rw [HE.out]
            exact ⟨rfl, rfl⟩
          · have HT4 : Hid (kst f n lim (k + 1) = some t) := by show _ = _; rw [HT3.out, if_neg h4]
            have h4' : ¬ (1152921504606846976 : Int) < (t : Int) := by omega
            have H4 : Hid (t ≤ 1152921504606846976) := Nat.le_of_not_lt h4
            clear h4
            go_wp2
            go_roundw
            case rel => exact ⟨k + 1, t, by omega, by go_num, by first | rfl | rw [e3], H4, by trivial, HT4⟩
            case measure => simp [intOf]; omega
    · obtain rfl : k = f.length := by omega
      have hlt' : ¬ (f.length : Int) < (f.length : Int) := by omega
      have HE : Hid (krV f n lim = s) := by show _ = _; rw [HK.out, HS.out]
      go_wp2
      go_ret
      rw [HE.out]
      exact ⟨rfl, rfl⟩

set_option maxHeartbeats 1000000 in
/-- Where the list is good. -/
theorem good_any (vf vn : Value) (f n : List Int) (lim : Int) (w : World) (hf : SI w vf f) (hn : SI w vn n) (h288 : f.length ≤ 288) (hlim : lim ≤ 9223372036854775807 ∧ -9223372036854775808 ≤ lim) (hn64 : ∀ i, -9223372036854775808 ≤ n.getD i 0 ∧ n.getD i 0 ≤ 9223372036854775807)
    (hl : n.length = f.length) (h0 : ∀ s, s < f.length → f.getD s 0 = 0 → n.getD s 0 = 0) (h1 : (us6 f).length = 1 → ∀ s, s < f.length → 0 < f.getD s 0 → n.getD s 0 = 1) (h2 : (us6 f).length < 2 ∨ krV f n lim = 1152921504606846976) :
    Calls Try.prog 8 #[vf, vn, .int .i64 lim] w fun e w' => e = .returned (.bool true) ∧ w' = w := by
  have HF := hide hf
  have HN := hide hn
  have HKR := hide (kraft_any vf vn f n lim w hf hn h288 hlim hn64)
  obtain ⟨af, cf, rfl, hlf, hmf⟩ := hf.open
  obtain ⟨an, cn, rfl, hln, hmn⟩ := hn.open
  have h2' : ((n.length : Int) != (f.length : Int)) = false := by simp; omega
  have HL := hide hl
  have HZ := hide h0
  have HO := hide h1
  have HK := hide h2
  clear hf hn hl h0 h1 h2 hn64
  have hul := us_le6 (l := f)
  obtain ⟨u, HU⟩ : ∃ u, Hid (u = (us6 f).length) := ⟨_, rfl⟩
  rw [← HU.out] at HO HK hul
  have HUC := hide (uses_any _ f w HF.out h288)
  rw [← HU.out] at HUC
  go_enter Try.func8, Try.ntmps8
  go_wp2_with fail
  refine HUC.out.mono ?_
  rintro e w1 ⟨rfl, rfl⟩
  go_wp2
  go_loopw [8] (fun i wr => ∃ k : Nat, k ≤ f.length ∧ i = .int .i64 k ∧ wr = w1) (fun i _ => f.length - (intOf i).toNat)
  case atStart => exact ⟨0, Nat.zero_le _, rfl, rfl⟩
  case round =>
    obtain ⟨k, hk, rfl, rfl⟩ := hrel
    by_cases hlt : k < f.length
    · have hlt' : (k : Int) < (f.length : Int) := by omega
      have hkn : (k : Int) < (n.length : Int) := by have := HL.out; omega
      obtain ⟨b1, o1, rfl, hc1⟩ := HF.out.get (Below.refl _ _) hlt
      obtain ⟨b2, o2, rfl, hc2⟩ := HN.out.get (Below.refl _ _) (k := k) (by rw [HL.out]; exact hlt)
      have hz := HZ.out k hlt
      have ho := HO.out
      obtain ⟨x, HX⟩ : ∃ x, Hid (x = f.getD k 0) := ⟨_, rfl⟩
      obtain ⟨y, HY⟩ : ∃ x, Hid (x = n.getD k 0) := ⟨_, rfl⟩
      have ho' : u = 1 → 0 < x → y = 1 := fun a b => by rw [HY.out]; exact ho a k hlt (by rw [← HX.out]; exact b)
      rw [← HX.out] at hc1 hz
      rw [← HY.out] at hc2 hz
      clear ho
      by_cases hx : x = 0
      · have hy := hz hx
        have hx' : (x == 0) = true := by simp [hx]
        have hy' : (y != 0) = false := by simp [hy]
        have hxp : ¬ 0 < x := by omega
        have hd : decide (0 < x) = false := decide_eq_false hxp
        clear hx hy hz ho'
        go_wp2
        go_roundw
        case rel => exact ⟨k + 1, by omega, by go_num, by trivial⟩
        case measure => simp [intOf]; omega
      · have hx' : (x == 0) = false := by simp [hx]
        clear hz
        by_cases hxp : 0 < x
        · by_cases hu : u = 1
          · have hy := ho' hu hxp
            have hy' : (y != 1) = false := by simp [hy]
            have hu' : ((u : Int) == 1) = true := by simp; omega
            clear hx hy hu ho'
            go_wp2
            go_roundw
            case rel => exact ⟨k + 1, by omega, by go_num, by trivial⟩
            case measure => simp [intOf]; omega
          · have hu' : ((u : Int) == 1) = false := by simp; omega
            clear hx hu ho'
            go_wp2
            go_roundw
            case rel => exact ⟨k + 1, by omega, by go_num, by trivial⟩
            case measure => simp [intOf]; omega
        · clear hx ho'
          go_wp2
          go_roundw
          case rel => exact ⟨k + 1, by omega, by go_num, by trivial⟩
          case measure => simp [intOf]; omega
    · obtain rfl : k = f.length := by omega
      have hlt' : ¬ (f.length : Int) < (f.length : Int) := by omega
      by_cases h3 : u < 2
      · have h3' : (u : Int) < 2 := by omega
        go_wp2
        go_ret
        exact ⟨rfl, rfl⟩
      · have h3' : ¬ (u : Int) < 2 := by omega
        have HE : Hid (krV f n lim = 1152921504606846976) := by
          rcases HK.out with q | q
          · omega
          · exact q
        have HC := HKR
        rw [HE.out] at HC
        go_wp2_with fail
        refine HC.out.mono ?_
        rintro e w2 ⟨rfl, rfl⟩
        go_wp2
        go_ret
        exact ⟨rfl, rfl⟩
end Go.Proofs.Ytncniahpglgkmaa

namespace Go.Proofs.Ytncniahpglgkmaa
open Go.RowKit Go.Maps
set_option maxRecDepth 20000
set_option linter.unusedVariables false

/-- A good list of lengths. -/
structure Gd (f n : List Int) (lim : Int) : Prop where
  len : n.length = f.length
  zero : ∀ s, s < f.length → f.getD s 0 = 0 → n.getD s 0 = 0
  ok : LenOk f n lim f.length
  one : (us6 f).length = 1 → ∀ s ∈ us6 f, n.getD s 0 = 1
  all : 2 ≤ (us6 f).length → kr (nn n) (us6 f) = 2 ^ 60

structure Sound (f : List Int) : Prop where
  len : f.length ≤ 288
  ok : bnd f 4294967296 f.length

theorem Sound.nn {f : List Int} (h : Sound f) (i : Nat) : 0 ≤ f.getD i 0 := by
  by_cases c : i < f.length
  · exact (h.ok i c).1
  · rw [List.getD_eq_getElem?_getD, List.getElem?_eq_none (by omega)]; exact Int.le_refl _

theorem Gd.at {f n : List Int} {lim : Int} (h : Gd f n lim) (hs : Sound f) (i : Nat) : 0 ≤ n.getD i 0 ∧ n.getD i 0 ≤ 60 := by
  by_cases c : i < f.length
  · by_cases z : f.getD i 0 = 0
    · rw [h.zero i c z]; omega
    · have := h.ok i (mem_us.2 ⟨c, by have := hs.nn i; omega⟩)
      omega
  · rw [List.getD_eq_getElem?_getD, List.getElem?_eq_none (by rw [h.len]; omega)]
    exact ⟨Int.le_refl _, by decide⟩

theorem Gd.krv {f n : List Int} {lim : Int} (h : Gd f n lim) (hs : Sound f) (h2 : 2 ≤ (us6 f).length) : krV f n lim = 1152921504606846976 := by
  have e : kS f n f.length = 2 ^ 60 := h.all h2
  have := kst_ok hs.nn h.ok (by rw [e]; exact Nat.le_refl _)
  unfold krV
  rw [if_neg (fun q => q h.len), this, e]
  rfl

theorem good_gd (vf vn : Value) (f n : List Int) (lim : Int) (w : World) (hf : SI w vf f) (hn : SI w vn n) (hs : Sound f) (hg : Gd f n lim) (hlim : lim ≤ 9223372036854775807 ∧ -9223372036854775808 ≤ lim) :
    Calls Try.prog 8 #[vf, vn, .int .i64 lim] w fun e w' => e = .returned (.bool true) ∧ w' = w :=
  good_any vf vn f n lim w hf hn hs.len hlim (fun i => by have := hg.at hs i; omega) hg.len hg.zero (fun h s h1 h2 => hg.one h s (mem_us.2 ⟨h1, h2⟩)) (by
    by_cases c : (us6 f).length < 2
    · exact .inl c
    · exact .inr (hg.krv hs (by omega)))

theorem cs_fl {f n : List Int} (hs : Sound f) (k : Nat) (h : ∀ s ∈ usk f k, 0 ≤ n.getD s 0) : cs f n k = ((fl (fq f) (nn n) (usk f k) : Nat) : Int) := by
  induction k with
  | zero => rfl
  | succ k ih =>
    have ih' := ih fun s hs' => h s (usk_sub hs')
    have hk := hs.nn k
    simp only [cs]
    rw [ih', usk_succ]
    by_cases c : 0 < f.getD k 0
    · have hnk := h k (by rw [usk_succ, if_pos c]; simp)
      rw [if_pos c]
      unfold fl
      rw [List.map_append, List.sum_append]
      simp only [List.map_cons, List.map_nil, List.sum_cons, List.sum_nil, Nat.add_zero]
      rw [Int.natCast_add, Int.natCast_mul]
      have e1 : ((fq f k : Nat) : Int) = f.getD k 0 := by unfold fq; omega
      have e2 : ((nn n k : Nat) : Int) = n.getD k 0 := by unfold Go.Proofs.Ytncniahpglgkmaa.nn; omega
      rw [e1, e2]
    · rw [if_neg c, List.append_nil]
      have e0 : f.getD k 0 = 0 := by omega
      rw [e0, Int.zero_mul, Int.add_zero]

theorem cost_at {f n : List Int} {lim : Int} (hs : Sound f) (ho : LenOk f n lim f.length) (i : Nat) (hi : i < f.length) : 0 ≤ f.getD i 0 * n.getD i 0 ∧ f.getD i 0 * n.getD i 0 ≤ 1236950581248 := by
  have h1 := hs.ok i hi
  by_cases c : f.getD i 0 = 0
  · rw [c, Int.zero_mul]; omega
  · have h2 := ho i (mem_us.2 ⟨hi, by omega⟩)
    refine ⟨Int.mul_nonneg h1.1 (by omega), ?_⟩
    have := Int.mul_le_mul h1.2 h2.2.2 (show 0 ≤ n.getD i 0 by omega) (by omega)
    omega

theorem sum_map_le {f g : Nat → Nat} {l : List Nat} (h : ∀ s ∈ l, f s ≤ g s) : (l.map f).sum ≤ (l.map g).sum := by
  induction l with
  | nil => exact Nat.le_refl _
  | cons a r ih =>
    have h1 := ih fun s hs => h s (List.mem_cons_of_mem _ hs)
    have h2 := h a (by simp)
    simp only [List.map_cons, List.sum_cons]
    omega

theorem fb61 : 1236950581248 < fb 61 := by decide +kernel

theorem kr_pos {len : Nat → Nat} {l : List Nat} (h : l ≠ []) : 0 < kr len l := by
  cases l with
  | nil => exact absurd rfl h
  | cons a r =>
    have := Nat.two_pow_pos (60 - len a)
    simp only [kr, List.map_cons, List.sum_cons]
    omega

theorem kr_one {len : Nat → Nat} {l : List Nat} (hk : kr len l = 2 ^ 60) (h2 : 2 ≤ l.length) {s : Nat} (hs : s ∈ l) : 1 ≤ len s := by
  apply Classical.byContradiction
  intro c
  obtain ⟨a, b, rfl⟩ := List.append_of_mem hs
  have e : kr len (a ++ s :: b) = 2 ^ (60 - len s) + kr len (a ++ b) := by
    have := perm_sum (fun s => 2 ^ (60 - len s)) (List.perm_middle (a := s) (l₁ := a) (l₂ := b))
    unfold kr
    rw [this]
    simp
  have hne : a ++ b ≠ [] := fun e => by
    have : (a ++ b).length = 0 := by rw [e]; rfl
    simp at h2 this
    rw [this.1, this.2] at h2
    simp at h2
  have hp := kr_pos (len := len) hne
  have h0 : len s = 0 := by omega
  rw [e, h0, Nat.sub_zero] at hk
  omega

theorem dpt_get {f : List Int} {s : Nat} (h : s < f.length) : (dpt f).getD s 0 = (dp f s : Int) := by
  unfold dpt
  rw [List.getD_eq_getElem?_getD, List.getElem?_map, List.getElem?_range h]
  rfl

theorem kr_congr {a b : Nat → Nat} {l : List Nat} (h : ∀ s ∈ l, a s = b s) : kr a l = kr b l := map_sum_congr fun s hs => by rw [h s hs]
theorem fl_congr {f a b : Nat → Nat} {l : List Nat} (h : ∀ s ∈ l, a s = b s) : fl f a l = fl f b l := map_sum_congr fun s hs => by rw [h s hs]

theorem nn_dpt {f : List Int} {s : Nat} (h : s ∈ us6 f) : nn (dpt f) s = dp f s := by
  unfold nn
  rw [dpt_get (mem_us.1 h).1]
  rfl

theorem dp_facts {f : List Int} (hs : Sound f) (h2 : 2 ≤ (us6 f).length) : kr (dp f) (us6 f) = 2 ^ 60 ∧ (∀ s ∈ us6 f, dp f s ≤ 59) ∧ ∀ N o, (∀ s ∈ us6 f, o s ≤ N) → ((us6 f).map fun s => 2 ^ (N - o s)).sum ≤ 2 ^ N → fl (fq f) (dp f) (us6 f) ≤ fl (fq f) o (us6 f) := by
  have hd := hrun_done ((us6 f).length - 1) (leafs (fq f) (us6 f)) (fun _ => 0) (by rw [leafs_len]; omega)
  obtain ⟨a, b, _, d⟩ := depths_good (us_nodup f) (fun s h => (fq_le hs.ok h).1) (Nat.lt_of_le_of_lt (tot_le hs.ok hs.len) fb61) hd
  have e : ∀ s, dp f s = hrun ((us6 f).length - 1) (leafs (fq f) (us6 f)) (fun _ => 0) s := fun s => by unfold dp; rw [if_neg (by omega)]
  have e' : dp f = hrun ((us6 f).length - 1) (leafs (fq f) (us6 f)) (fun _ => 0) := funext e
  rw [e']
  exact ⟨a, b, d⟩

theorem gd_dpt {f : List Int} (hs : Sound f) : Gd f (dpt f) 60 := by
  have hone : (us6 f).length = 1 → ∀ s ∈ us6 f, (dpt f).getD s 0 = 1 := fun h s hm => by
    rw [dpt_get (mem_us.1 hm).1]
    unfold dp
    rw [if_pos h, if_pos hm]
    rfl
  refine ⟨dpt_len f, fun s h h0 => ?_, fun s hm => ?_, hone, fun h2 => ?_⟩
  · rw [dpt_get h, dp_out (fun hm => by have := (mem_us.1 hm).2; omega)]; rfl
  · have hm' : s ∈ us6 f := hm
    have hpos := List.length_pos_of_mem hm'
    by_cases h1 : (us6 f).length = 1
    · rw [hone h1 s hm]; omega
    · obtain ⟨a, b, _⟩ := dp_facts hs (by omega)
      rw [dpt_get (mem_us.1 hm').1]
      have h3 := kr_one a (by omega) hm'
      have h4 := b s hm'
      omega
  · rw [kr_congr (fun s h => nn_dpt h)]
    exact (dp_facts hs h2).1

/-- Nothing within Kraft's rule costs less. -/
theorem dp_best {f o : List Int} {lim : Int} (hs : Sound f) (ho : LenOk f o lim f.length) (hk : kr (nn o) (us6 f) ≤ 2 ^ 60) : fl (fq f) (nn (dpt f)) (us6 f) ≤ fl (fq f) (nn o) (us6 f) := by
  rw [fl_congr (fun s h => nn_dpt h)]
  by_cases h2 : 2 ≤ (us6 f).length
  · exact (dp_facts hs h2).2.2 60 (nn o) (fun s h => by have := ho s h; unfold nn; omega) hk
  · refine sum_map_le fun s h => ?_
    have hpos := List.length_pos_of_mem h
    have e : dp f s = 1 := by unfold dp; rw [if_pos (by omega), if_pos h]
    have := ho s h
    show fq f s * dp f s ≤ _
    rw [e]
    exact Nat.mul_le_mul_left _ (by unfold nn; omega)
end Go.Proofs.Ytncniahpglgkmaa

