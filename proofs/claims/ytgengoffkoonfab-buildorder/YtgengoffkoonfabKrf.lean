import Derived.Test.YtgengoffkoonfabDpt
namespace Go.Proofs.Ytgengoffkoonfab
open Go.RowKit Go.Maps
set_option maxRecDepth 20000
set_option linter.unusedVariables false

def P60 : Int := 1152921504606846976

theorem pow_i64 {k : Nat} (hk : k < 61) : IntKind.i64.wrap ((2 ^ k : Nat) : Int) = ((2 ^ k : Nat) : Int) := by
  have h1 : (2 : Nat) ^ k ≤ 2 ^ 60 := Nat.pow_le_pow_right (by decide) (by omega)
  obtain ⟨p, hp⟩ : ∃ p : Nat, p = 2 ^ k := ⟨_, rfl⟩
  rw [← hp] at h1 ⊢
  rw [IntKind.wrap_i64]
  omega

theorem shl_run (k : Nat) (hk : k < 61) (w : World) : (Op.shift BinOp.shl IntKind.i64 1 IntKind.u64 (k : Int)).run Try.prog w = .ok (.int .i64 ((2 ^ k : Nat) : Int)) w := by
  have e := pow_i64 hk
  simp
  exact e

/-- Kraft's sum, symbol by symbol; none: the rule is broken. -/
def kst (f n : List Int) (lim : Int) : Nat → Option Nat
  | 0 => some 0
  | k + 1 => match kst f n lim k with
    | none => none
    | some s => if f.getD k 0 = 0 then some s else if n.getD k 0 < 1 ∨ lim < n.getD k 0 ∨ 60 < n.getD k 0 then none else
        if 2 ^ 60 < s + 2 ^ (60 - (n.getD k 0).toNat) then none else some (s + 2 ^ (60 - (n.getD k 0).toNat))

def krV (f n : List Int) (lim : Int) : Int := if n.length ≠ f.length then -1 else match kst f n lim f.length with
  | none => -1
  | some s => s

/-- A list of lengths as a function. -/
def nn (n : List Int) (s : Nat) : Nat := (n.getD s 0).toNat

def kS (f n : List Int) (k : Nat) : Nat := kr (nn n) (usk f k)

theorem kS_succ (f n : List Int) (k : Nat) : kS f n (k + 1) = kS f n k + if 0 < f.getD k 0 then 2 ^ (60 - (n.getD k 0).toNat) else 0 := by
  unfold kS kr
  rw [usk_succ]
  by_cases h : 0 < f.getD k 0
  · rw [if_pos h, if_pos h]; simp [nn]
  · rw [if_neg h, if_neg h]; simp

theorem usk_sub {f : List Int} {k s : Nat} : s ∈ usk f k → s ∈ usk f (k + 1) := fun h => by rw [usk_succ]; exact List.mem_append_left _ h

def LenOk (f n : List Int) (lim : Int) (k : Nat) : Prop := ∀ s ∈ usk f k, 1 ≤ n.getD s 0 ∧ n.getD s 0 ≤ lim ∧ n.getD s 0 ≤ 60

theorem kst_some {f n : List Int} {lim : Int} {k s : Nat} (hf : ∀ i, 0 ≤ f.getD i 0) (h : kst f n lim k = some s) : s = kS f n k ∧ LenOk f n lim k ∧ s ≤ 2 ^ 60 := by
  induction k generalizing s with
  | zero =>
    simp only [kst, Option.some.injEq] at h
    subst h
    exact ⟨rfl, fun s hs => by simp [usk] at hs, by omega⟩
  | succ k ih =>
    simp only [kst] at h
    cases e : kst f n lim k with
    | none => rw [e] at h; cases h
    | some t =>
      rw [e] at h
      simp only at h
      obtain ⟨a, b, c⟩ := ih e
      have hk := hf k
      by_cases h0 : f.getD k 0 = 0
      · rw [if_pos h0, Option.some.injEq] at h
        have h1 : ¬ 0 < f.getD k 0 := by omega
        refine ⟨by rw [kS_succ, if_neg h1, ← h, a, Nat.add_zero], fun s hs => ?_, by omega⟩
        rw [usk_succ, if_neg h1, List.append_nil] at hs
        exact b s hs
      · rw [if_neg h0] at h
        have h1 : 0 < f.getD k 0 := by omega
        by_cases h2 : n.getD k 0 < 1 ∨ lim < n.getD k 0 ∨ 60 < n.getD k 0
        · rw [if_pos h2] at h; cases h
        · rw [if_neg h2] at h
          by_cases h3 : 2 ^ 60 < t + 2 ^ (60 - (n.getD k 0).toNat)
          · rw [if_pos h3] at h; cases h
          · rw [if_neg h3, Option.some.injEq] at h
            refine ⟨by rw [kS_succ, if_pos h1, ← h, a], fun s hs => ?_, by omega⟩
            rw [usk_succ, if_pos h1] at hs
            rcases List.mem_append.1 hs with hs | hs
            · exact b s hs
            · simp at hs; subst hs; omega

theorem kst_ok {f n : List Int} {lim : Int} {k : Nat} (hf : ∀ i, 0 ≤ f.getD i 0) (hl : LenOk f n lim k) (hs : kS f n k ≤ 2 ^ 60) : kst f n lim k = some (kS f n k) := by
  induction k with
  | zero => rfl
  | succ k ih =>
    have hk := hf k
    rw [kS_succ] at hs ⊢
    have ih' := ih (fun s h => hl s (usk_sub h)) (by omega)
    simp only [kst, ih']
    by_cases h0 : f.getD k 0 = 0
    · rw [if_pos h0, if_neg (by omega), Nat.add_zero]
    · have h1 : 0 < f.getD k 0 := by omega
      rw [if_pos h1] at hs
      have := hl k (by rw [usk_succ, if_pos h1]; simp)
      rw [if_neg h0, if_neg (by omega), if_neg (by omega), if_pos h1]

theorem kst_none {f n : List Int} {lim : Int} {k : Nat} (h : kst f n lim k = none) : ∀ j, kst f n lim (k + j) = none := fun j => by
  induction j with
  | zero => exact h
  | succ j ih =>
    show kst f n lim (k + j + 1) = none
    simp only [kst, ih]

theorem kst_dead {f n : List Int} {lim : Int} {k m : Nat} (hk : k ≤ m) (h : kst f n lim k = none) : kst f n lim m = none := by
  have := kst_none h (m - k)
  rwa [show k + (m - k) = m by omega] at this

theorem sound_any (v : Value) (l : List Int) (w : World) (h : SI w v l) :
    Calls Try.prog 9 #[v] w fun e w' => e = .returned (.bool (decide (l.length ≤ 288) && bnb l 4294967296)) ∧ w' = w := by
  have HS := hide h
  obtain ⟨ao, cap, rfl, hlc, hcm⟩ := h.open
  clear h
  by_cases h1 : 288 < l.length
  · have h1' : (288 : Int) < (l.length : Int) := by omega
    have HE : Hid ((decide (l.length ≤ 288) && bnb l 4294967296) = false) := by show _ = _; rw [decide_eq_false (by omega)]; rfl
    rw [HE.out]
    go_enter Try.func9, Try.ntmps9
    go_wp2
    go_ret
    exact ⟨rfl, rfl⟩
  have h1' : ¬ (288 : Int) < (l.length : Int) := by omega
  have HD : Hid ((decide (l.length ≤ 288) && bnb l 4294967296) = bnb l 4294967296) := by show _ = _; rw [decide_eq_true (by omega)]; rfl
  rw [HD.out]
  clear HD
  go_enter Try.func9, Try.ntmps9
  go_wp2
  go_loopw [3] (fun i wr => ∃ k : Nat, k ≤ l.length ∧ i = .int .i64 k ∧ wr = w ∧ Hid (bnd l 4294967296 k)) (fun i _ => l.length - (intOf i).toNat)
  case atStart => exact ⟨0, Nat.zero_le _, rfl, rfl, fun i hi => by omega⟩
  case round =>
    obtain ⟨k, hk, rfl, rfl, HT⟩ := hrel
    by_cases hlt : k < l.length
    · have hlt' : (k : Int) < (l.length : Int) := by omega
      obtain ⟨b, o, rfl, hc⟩ := HS.out.get (Below.refl _ _) hlt
      obtain ⟨x, HX⟩ : ∃ x, Hid (x = l.getD k 0) := ⟨_, rfl⟩
      rw [← HX.out] at hc
      by_cases hb : 0 ≤ x ∧ x ≤ 4294967296
      · have HN : Hid (bnd l 4294967296 (k + 1)) := bnd_succ HT.out (by rw [← HX.out]; exact hb)
        obtain ⟨b0, b1⟩ := hb
        have b0' : ¬ x < 0 := by omega
        have b1' : ¬ 4294967296 < x := by omega
        clear HT
        go_wp2
        go_roundw
        case rel => exact ⟨k + 1, by omega, by go_num, by trivial, HN⟩
        case measure => simp [intOf]; omega
      · have HE : Hid (bnb l 4294967296 = false) := bnb_no hlt (by rw [← HX.out]; exact hb)
        by_cases b0 : x < 0
        · clear hb
          go_wp2
          go_ret
          rw [HE.out]
          exact ⟨rfl, rfl⟩
        · have b1 : 4294967296 < x := by omega
          clear hb
          go_wp2
          go_ret
          rw [HE.out]
          exact ⟨rfl, rfl⟩
    · obtain rfl : k = l.length := by omega
      have hlt' : ¬ (l.length : Int) < (l.length : Int) := by omega
      have HE : Hid (bnb l 4294967296 = true) := bnb_iff.2 HT.out
      clear HT
      go_wp2
      go_ret
      rw [HE.out]
      exact ⟨rfl, rfl⟩

theorem uses_any (v : Value) (l : List Int) (w : World) (h : SI w v l) (hr : l.length ≤ 288) :
    Calls Try.prog 10 #[v] w fun e w' => e = .returned (.int .i64 (us l).length) ∧ w' = w := by
  have HS := hide h
  obtain ⟨ao, cap, rfl, hlc, hcm⟩ := h.open
  clear h
  go_enter Try.func10, Try.ntmps10
  go_wp2
  go_loopw [3, 4] (fun u i wr => ∃ k : Nat, k ≤ l.length ∧ i = .int .i64 k ∧ u = .int .i64 (usk l k).length ∧ wr = w) (fun _ i _ => l.length - (intOf i).toNat)
  case atStart => exact ⟨0, Nat.zero_le _, rfl, rfl, rfl⟩
  case round =>
    obtain ⟨k, hk, rfl, rfl, rfl⟩ := hrel
    by_cases hlt : k < l.length
    · have hlt' : (k : Int) < (l.length : Int) := by omega
      obtain ⟨b, o, rfl, hc⟩ := HS.out.get (Below.refl _ _) hlt
      have HD := hide (usk_succ l k)
      obtain ⟨x, HX⟩ : ∃ x, Hid (x = l.getD k 0) := ⟨_, rfl⟩
      rw [← HX.out] at hc HD
      have hul := usk_len l k
      obtain ⟨m, HM⟩ : ∃ m, Hid (m = (usk l k).length) := ⟨_, rfl⟩
      rw [← HM.out] at hul ⊢
      by_cases hx : 0 < x
      · have HE : Hid ((usk l (k + 1)).length = m + 1) := by show _ = _; rw [HD.out, if_pos hx, List.length_append, HM.out]; rfl
        go_wp2
        go_roundw
        case rel => exact ⟨k + 1, by omega, by go_num, by rw [HE.out]; rfl, by trivial⟩
        case measure => simp [intOf]; omega
      · have HE : Hid ((usk l (k + 1)).length = m) := by show _ = _; rw [HD.out, if_neg hx, List.append_nil, HM.out]
        go_wp2
        go_roundw
        case rel => exact ⟨k + 1, by omega, by go_num, by rw [HE.out], by trivial⟩
        case measure => simp [intOf]; omega
    · obtain rfl : k = l.length := by omega
      have hlt' : ¬ (l.length : Int) < (l.length : Int) := by omega
      go_wp2
      go_ret
      exact ⟨rfl, rfl⟩

theorem lcost_any (vf vn : Value) (f n : List Int) (w : World) (hf : SI w vf f) (hn : SI w vn n) (hl : n.length = f.length) (h288 : f.length ≤ 288) (hb : ∀ i, i < f.length → 0 ≤ f.getD i 0 * n.getD i 0 ∧ f.getD i 0 * n.getD i 0 ≤ 1236950581248) :
    Calls Try.prog 17 #[vf, vn] w fun e w' => e = .returned (.int .i64 (cs f n f.length)) ∧ ∃ q, w' = w.drewN q := by
  have HF := hide hf
  have HN := hide hn
  obtain ⟨af, cf, rfl, hlf, hmf⟩ := hf.open
  obtain ⟨an, cn, rfl, hln, hmn⟩ := hn.open
  have HB : Hid (∀ k, k ≤ f.length → 0 ≤ cs f n k ∧ cs f n k ≤ 1236950581248 * k) := fun k hk => by
    induction k with
    | zero => simp [cs]
    | succ k ih =>
      have := ih (by omega)
      have := hb k (by omega)
      simp only [cs]
      omega
  have HPB := hide hb
  have H2 := hide hl
  have hl1 : n.length ≤ 288 := by omega
  clear hf hn hb hl
  go_enter Try.func17, Try.ntmps17
  go_wp2
  go_loopw [5, 6] (fun s i wr => ∃ k q : Nat, k ≤ f.length ∧ i = .int .i64 k ∧ s = .int .i64 (cs f n k) ∧ wr = w.drewN q) (fun _ i _ => f.length - (intOf i).toNat)
  case atStart => exact ⟨0, 0, Nat.zero_le _, rfl, rfl, rfl⟩
  case round =>
    obtain ⟨k, q, hk, rfl, rfl, rfl⟩ := hrel
    by_cases hlt : k < f.length
    · have hlt' : (k : Int) < (f.length : Int) := by omega
      have hkn : (k : Int) < (n.length : Int) := by have := H2.out; omega
      have hbb := HB.out k hk
      have hbs := HB.out (k + 1) hlt
      have hpb := HPB.out k hlt
      have HC : Hid (cs f n (k + 1) = cs f n k + f.getD k 0 * n.getD k 0) := rfl
      rw [HC.out] at hbs
      obtain ⟨b1, o1, rfl, hc1⟩ := HF.out.get (w := w.drewN q) (below_drewN (Below.refl _ _) q) hlt
      obtain ⟨b2, o2, rfl, hc2⟩ := HN.out.get (w := w.drewN q) (below_drewN (Below.refl _ _) q) (k := k) (by rw [H2.out]; exact hlt)
      obtain ⟨x, HX⟩ : ∃ x, Hid (x = f.getD k 0) := ⟨_, rfl⟩
      obtain ⟨y, HY⟩ : ∃ x, Hid (x = n.getD k 0) := ⟨_, rfl⟩
      obtain ⟨s, HSS⟩ : ∃ x, Hid (x = cs f n k) := ⟨_, rfl⟩
      rw [← HX.out] at hc1 hpb hbs HC
      rw [← HY.out] at hc2 hpb hbs HC
      rw [← HSS.out] at hbb hbs HC ⊢
      obtain ⟨z, hz⟩ : ∃ z, x * y = z := ⟨_, rfl⟩
      rw [hz] at hbs HC hpb
      have hwz : IntKind.i64.wrap (x * y) = z := by rw [hz]; rw [IntKind.wrap_i64]; omega
      have hws : IntKind.i64.wrap (s + z) = s + z := by rw [IntKind.wrap_i64]; omega
      have hc1' : w.cell? ⟨b1, o1 + k, none⟩ = some (.int .i64 x) := hc1
      have hc2' : w.cell? ⟨b2, o2 + k, none⟩ = some (.int .i64 y) := hc2
      clear hz
      go_wp2
      go_quiet (fail)
      go_wp2
      go_roundw
      case rel => exact ⟨k + 1, _, by omega, by go_num, by rw [HC.out], by (try simp only [World.drewN_drewN]); rfl⟩
      case measure => simp [intOf]; omega
    · obtain rfl : k = f.length := by omega
      have hlt' : ¬ (f.length : Int) < (f.length : Int) := by omega
      go_wp2
      go_ret
      exact ⟨rfl, q, rfl⟩
end Go.Proofs.Ytgengoffkoonfab
