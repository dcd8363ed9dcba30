import Derived.Test.YtknjblgnjoocbaaDoorGDp
namespace Go.Proofs.YtknjblgnjoocbaaDoor
open Go.RowKit Go.Maps
set_option maxRecDepth 20000
set_option linter.unusedVariables false

def P60 : Int := 1152921504606846976

theorem pow_i64 {k : Nat} (hk : k < 61) : IntKind.i64.wrap ((2 ^ k : Nat) : Int) = ((2 ^ k : Nat) : Int) := by
  have h1 : (2 : Nat) ^ k ≤ 2 ^ 60 := Nat.pow_le_pow_right (by decide) (by omega)
  obtain ⟨p, hp⟩ : ∃ p : Nat, p = 2 ^ k := ⟨_, rfl⟩
  rw [← hp] at h1 ⊢
  rw [IntKind.wrap_i64]
  omega

theorem shl_run (k : Nat) (hk : k < 61) (w : World) : (Op.shift BinOp.shl IntKind.i64 1 IntKind.u64 (k : Int)).run Tryd.prog w = .ok (.int .i64 ((2 ^ k : Nat) : Int)) w := by
  have e := pow_i64 hk
  simp
  exact e

/-- Kraft's sum, symbol by symbol; none: the rule is broken. -/
def kst (f n : List Int) (lim : Int) : Nat → Option Nat
  | 0 => some 0
  | k + 1 => match kst f n lim k with
    | none => none
    | some s => if f.getD k 0 = 0 then some s else if n.getD k 0 < 1 ∨ lim < n.getD k 0 ∨ 60 < n.getD k 0 then none else
        if 2 ^ 60 < s + 2 ^ (60 - (n.getD k 0).toNat) then none else some (s + 2 ^ (60 - (n.getD k 0).toNat))

def krV (f n : List Int) (lim : Int) : Int := if n.length ≠ f.length then -1 else match kst f n lim f.length with
  | none => -1
  | some s => s

/-- A list of lengths as a function. -/
def nn (n : List Int) (s : Nat) : Nat := (n.getD s 0).toNat

def kS (f n : List Int) (k : Nat) : Nat := kr (nn n) (usk f k)

theorem kS_succ (f n : List Int) (k : Nat) : kS f n (k + 1) = kS f n k + if 0 < f.getD k 0 then 2 ^ (60 - (n.getD k 0).toNat) else 0 := by
  unfold kS kr
  rw [usk_succ]
  by_cases h : 0 < f.getD k 0
  · rw [if_pos h, if_pos h]; simp [nn]
  · rw [if_neg h, if_neg h]; simp

theorem usk_sub {f : List Int} {k s : Nat} : s ∈ usk f k → s ∈ usk f (k + 1) := fun h => by rw [usk_succ]; exact List.mem_append_left _ h

def LenOk (f n : List Int) (lim : Int) (k : Nat) : Prop := ∀ s ∈ usk f k, 1 ≤ n.getD s 0 ∧ n.getD s 0 ≤ lim ∧ n.getD s 0 ≤ 60

theorem kst_some {f n : List Int} {lim : Int} {k s : Nat} (hf : ∀ i, 0 ≤ f.getD i 0) (h : kst f n lim k = some s) : s = kS f n k ∧ LenOk f n lim k ∧ s ≤ 2 ^ 60 := by
  induction k generalizing s with
  | zero =>
    simp only [kst, Option.some.injEq] at h
    subst h
    exact ⟨rfl, fun s hs => by simp [usk] at hs, by omega⟩
  | succ k ih =>
    simp only [kst] at h
    cases e : kst f n lim k with
    | none => rw [e] at h; cases h
    | some t =>
      rw [e] at h
      simp only at h
      obtain ⟨a, b, c⟩ := ih e
      have hk := hf k
      by_cases h0 : f.getD k 0 = 0
      · rw [if_pos h0, Option.some.injEq] at h
        have h1 : ¬ 0 < f.getD k 0 := by omega
        refine ⟨by rw [kS_succ, if_neg h1, ← h, a, Nat.add_zero], fun s hs => ?_, by omega⟩
        rw [usk_succ, if_neg h1, List.append_nil] at hs
        exact b s hs
      · rw [if_neg h0] at h
        have h1 : 0 < f.getD k 0 := by omega
        by_cases h2 : n.getD k 0 < 1 ∨ lim < n.getD k 0 ∨ 60 < n.getD k 0
        · rw [if_pos h2] at h; cases h
        · rw [if_neg h2] at h
          by_cases h3 : 2 ^ 60 < t + 2 ^ (60 - (n.getD k 0).toNat)
          · rw [if_pos h3] at h; cases h
          · rw [if_neg h3, Option.some.injEq] at h
            refine ⟨by rw [kS_succ, if_pos h1, ← h, a], fun s hs => ?_, by omega⟩
            rw [usk_succ, if_pos h1] at hs
            rcases List.mem_append.1 hs with hs | hs
            · exact b s hs
            · simp at hs; subst hs; omega

theorem kst_ok {f n : List Int} {lim : Int} {k : Nat} (hf : ∀ i, 0 ≤ f.getD i 0) (hl : LenOk f n lim k) (hs : kS f n k ≤ 2 ^ 60) : kst f n lim k = some (kS f n k) := by
  induction k with
  | zero => rfl
  | succ k ih =>
    have hk := hf k
    rw [kS_succ] at hs ⊢
    have ih' := ih (fun s h => hl s (usk_sub h)) (by omega)
    simp only [kst, ih']
    by_cases h0 : f.getD k 0 = 0
    · rw [if_pos h0, if_neg (by omega), Nat.add_zero]
    · have h1 : 0 < f.getD k 0 := by omega
      rw [if_pos h1] at hs
      have := hl k (by rw [usk_succ, if_pos h1]; simp)
      rw [if_neg h0, if_neg (by omega), if_neg (by omega), if_pos h1]

theorem kst_none {f n : List Int} {lim : Int} {k : Nat} (h : kst f n lim k = none) : ∀ j, kst f n lim (k + j) = none := fun j => by
  induction j with
  | zero => exact h
  | succ j ih =>
    show kst f n lim (k + j + 1) = none
    simp only [kst, ih]

theorem kst_dead {f n : List Int} {lim : Int} {k m : Nat} (hk : k ≤ m) (h : kst f n lim k = none) : kst f n lim m = none := by
  have := kst_none h (m - k)
  rwa [show k + (m - k) = m by omega] at this

end Go.Proofs.YtknjblgnjoocbaaDoor

namespace Go.Proofs.YtknjblgnjoocbaaDoor
open Go.RowKit Go.Maps
set_option maxRecDepth 20000
set_option linter.unusedVariables false

theorem w64in {x : Int} (h : -9223372036854775808 ≤ x ∧ x ≤ 9223372036854775807) : wrap64 x = x := by unfold wrap64; omega

theorem w64add {s p : Nat} (hs : s ≤ 1152921504606846976) (hp : p ≤ 1152921504606846976) : wrap64 ((s : Int) + (p : Int)) = ((s + p : Nat) : Int) := by
  rw [w64in (by omega)]
  omega

theorem w64shl {m p : Nat} (hm : m ≤ 60) (hp : p ≤ 1152921504606846976) (HP : p = 2 ^ m) : wrap64 ((2 : Int) ^ min m 64) = (p : Int) := by
  rw [show min m 64 = m from Nat.min_eq_left (by omega), show ((2 : Int) ^ m) = (p : Int) by rw [HP]; simp]
  exact w64in (by omega)

theorem w64pow {m p : Nat} (hp : p ≤ 1152921504606846976) (HP : p = 2 ^ m) : wrap64 ((2 : Int) ^ m) = (p : Int) := by
  rw [show ((2 : Int) ^ m) = (p : Int) by rw [HP]; simp]
  exact w64in (by omega)

theorem kst_step {f n : List Int} {lim : Int} {k s : Nat} (h : kst f n lim k = some s) : kst f n lim (k + 1) = if f.getD k 0 = 0 then some s else if n.getD k 0 < 1 ∨ lim < n.getD k 0 ∨ 60 < n.getD k 0 then none else
        if 2 ^ 60 < s + 2 ^ (60 - (n.getD k 0).toNat) then none else some (s + 2 ^ (60 - (n.getD k 0).toNat)) := by
  simp only [kst, h]

end Go.Proofs.YtknjblgnjoocbaaDoor

namespace Go.Proofs.YtknjblgnjoocbaaDoor
open Go.RowKit Go.Maps
set_option maxRecDepth 20000
set_option linter.unusedVariables false

/-- A good list of lengths. -/
structure Gd (f n : List Int) (lim : Int) : Prop where
  len : n.length = f.length
  zero : ∀ s, s < f.length → f.getD s 0 = 0 → n.getD s 0 = 0
  ok : LenOk f n lim f.length
  one : (us6 f).length = 1 → ∀ s ∈ us6 f, n.getD s 0 = 1
  all : 2 ≤ (us6 f).length → kr (nn n) (us6 f) = 2 ^ 60

structure Sound (f : List Int) : Prop where
  len : f.length ≤ 288
  ok : bnd f 4294967296 f.length

theorem Sound.nn {f : List Int} (h : Sound f) (i : Nat) : 0 ≤ f.getD i 0 := by
  by_cases c : i < f.length
  · exact (h.ok i c).1
  · rw [List.getD_eq_getElem?_getD, List.getElem?_eq_none (by omega)]; exact Int.le_refl _

theorem Gd.at {f n : List Int} {lim : Int} (h : Gd f n lim) (hs : Sound f) (i : Nat) : 0 ≤ n.getD i 0 ∧ n.getD i 0 ≤ 60 := by
  by_cases c : i < f.length
  · by_cases z : f.getD i 0 = 0
    · rw [h.zero i c z]; omega
    · have := h.ok i (mem_us.2 ⟨c, by have := hs.nn i; omega⟩)
      omega
  · rw [List.getD_eq_getElem?_getD, List.getElem?_eq_none (by rw [h.len]; omega)]
    exact ⟨Int.le_refl _, by decide⟩

theorem Gd.krv {f n : List Int} {lim : Int} (h : Gd f n lim) (hs : Sound f) (h2 : 2 ≤ (us6 f).length) : krV f n lim = 1152921504606846976 := by
  have e : kS f n f.length = 2 ^ 60 := h.all h2
  have := kst_ok hs.nn h.ok (by rw [e]; exact Nat.le_refl _)
  unfold krV
  rw [if_neg (fun q => q h.len), this, e]
  rfl

theorem cs_fl {f n : List Int} (hs : Sound f) (k : Nat) (h : ∀ s ∈ usk f k, 0 ≤ n.getD s 0) : cs f n k = ((fl (fq f) (nn n) (usk f k) : Nat) : Int) := by
  induction k with
  | zero => rfl
  | succ k ih =>
    have ih' := ih fun s hs' => h s (usk_sub hs')
    have hk := hs.nn k
    simp only [cs]
    rw [ih', usk_succ]
    by_cases c : 0 < f.getD k 0
    · have hnk := h k (by rw [usk_succ, if_pos c]; simp)
      rw [if_pos c]
      unfold fl
      rw [List.map_append, List.sum_append]
      simp only [List.map_cons, List.map_nil, List.sum_cons, List.sum_nil, Nat.add_zero]
      rw [Int.natCast_add, Int.natCast_mul]
      have e1 : ((fq f k : Nat) : Int) = f.getD k 0 := by unfold fq; omega
      have e2 : ((nn n k : Nat) : Int) = n.getD k 0 := by unfold Go.Proofs.YtknjblgnjoocbaaDoor.nn; omega
      rw [e1, e2]
    · rw [if_neg c, List.append_nil]
      have e0 : f.getD k 0 = 0 := by omega
      rw [e0, Int.zero_mul, Int.add_zero]

theorem cost_at {f n : List Int} {lim : Int} (hs : Sound f) (ho : LenOk f n lim f.length) (i : Nat) (hi : i < f.length) : 0 ≤ f.getD i 0 * n.getD i 0 ∧ f.getD i 0 * n.getD i 0 ≤ 1236950581248 := by
  have h1 := hs.ok i hi
  by_cases c : f.getD i 0 = 0
  · rw [c, Int.zero_mul]; omega
  · have h2 := ho i (mem_us.2 ⟨hi, by omega⟩)
    refine ⟨Int.mul_nonneg h1.1 (by omega), ?_⟩
    have := Int.mul_le_mul h1.2 h2.2.2 (show 0 ≤ n.getD i 0 by omega) (by omega)
    omega

theorem sum_map_le {f g : Nat → Nat} {l : List Nat} (h : ∀ s ∈ l, f s ≤ g s) : (l.map f).sum ≤ (l.map g).sum := by
  induction l with
  | nil => exact Nat.le_refl _
  | cons a r ih =>
    have h1 := ih fun s hs => h s (List.mem_cons_of_mem _ hs)
    have h2 := h a (by simp)
    simp only [List.map_cons, List.sum_cons]
    omega

theorem fb61 : 1236950581248 < fb 61 := by decide +kernel

theorem kr_pos {len : Nat → Nat} {l : List Nat} (h : l ≠ []) : 0 < kr len l := by
  cases l with
  | nil => exact absurd rfl h
  | cons a r =>
    have := Nat.two_pow_pos (60 - len a)
    simp only [kr, List.map_cons, List.sum_cons]
    omega

theorem kr_one {len : Nat → Nat} {l : List Nat} (hk : kr len l = 2 ^ 60) (h2 : 2 ≤ l.length) {s : Nat} (hs : s ∈ l) : 1 ≤ len s := by
  apply Classical.byContradiction
  intro c
  obtain ⟨a, b, rfl⟩ := List.append_of_mem hs
  have e : kr len (a ++ s :: b) = 2 ^ (60 - len s) + kr len (a ++ b) := by
    have := perm_sum (fun s => 2 ^ (60 - len s)) (List.perm_middle (a := s) (l₁ := a) (l₂ := b))
    unfold kr
    rw [this]
    simp
  have hne : a ++ b ≠ [] := fun e => by
    have : (a ++ b).length = 0 := by rw [e]; rfl
    simp at h2 this
    rw [this.1, this.2] at h2
    simp at h2
  have hp := kr_pos (len := len) hne
  have h0 : len s = 0 := by omega
  rw [e, h0, Nat.sub_zero] at hk
  omega

theorem dpt_get {f : List Int} {s : Nat} (h : s < f.length) : (dpt f).getD s 0 = (dp f s : Int) := by
  unfold dpt
  rw [List.getD_eq_getElem?_getD, List.getElem?_map, List.getElem?_range h]
  rfl

theorem kr_congr {a b : Nat → Nat} {l : List Nat} (h : ∀ s ∈ l, a s = b s) : kr a l = kr b l := map_sum_congr fun s hs => by rw [h s hs]
theorem fl_congr {f a b : Nat → Nat} {l : List Nat} (h : ∀ s ∈ l, a s = b s) : fl f a l = fl f b l := map_sum_congr fun s hs => by rw [h s hs]

theorem nn_dpt {f : List Int} {s : Nat} (h : s ∈ us6 f) : nn (dpt f) s = dp f s := by
  unfold nn
  rw [dpt_get (mem_us.1 h).1]
  rfl

theorem dp_facts {f : List Int} (hs : Sound f) (h2 : 2 ≤ (us6 f).length) : kr (dp f) (us6 f) = 2 ^ 60 ∧ (∀ s ∈ us6 f, dp f s ≤ 59) ∧ ∀ N o, (∀ s ∈ us6 f, o s ≤ N) → ((us6 f).map fun s => 2 ^ (N - o s)).sum ≤ 2 ^ N → fl (fq f) (dp f) (us6 f) ≤ fl (fq f) o (us6 f) := by
  have hd := hrun_done ((us6 f).length - 1) (leafs (fq f) (us6 f)) (fun _ => 0) (by rw [leafs_len]; omega)
  obtain ⟨a, b, _, d⟩ := depths_good (us_nodup f) (fun s h => (fq_le hs.ok h).1) (Nat.lt_of_le_of_lt (tot_le hs.ok hs.len) fb61) hd
  have e : ∀ s, dp f s = hrun ((us6 f).length - 1) (leafs (fq f) (us6 f)) (fun _ => 0) s := fun s => by unfold dp; rw [if_neg (by omega)]
  have e' : dp f = hrun ((us6 f).length - 1) (leafs (fq f) (us6 f)) (fun _ => 0) := funext e
  rw [e']
  exact ⟨a, b, d⟩

theorem gd_dpt {f : List Int} (hs : Sound f) : Gd f (dpt f) 60 := by
  have hone : (us6 f).length = 1 → ∀ s ∈ us6 f, (dpt f).getD s 0 = 1 := fun h s hm => by
    rw [dpt_get (mem_us.1 hm).1]
    unfold dp
    rw [if_pos h, if_pos hm]
    rfl
  refine ⟨dpt_len f, fun s h h0 => ?_, fun s hm => ?_, hone, fun h2 => ?_⟩
  · rw [dpt_get h, dp_out (fun hm => by have := (mem_us.1 hm).2; omega)]; rfl
  · have hm' : s ∈ us6 f := hm
    have hpos := List.length_pos_of_mem hm'
    by_cases h1 : (us6 f).length = 1
    · rw [hone h1 s hm]; omega
    · obtain ⟨a, b, _⟩ := dp_facts hs (by omega)
      rw [dpt_get (mem_us.1 hm').1]
      have h3 := kr_one a (by omega) hm'
      have h4 := b s hm'
      omega
  · rw [kr_congr (fun s h => nn_dpt h)]
    exact (dp_facts hs h2).1

/-- Nothing within Kraft's rule costs less. -/
theorem dp_best {f o : List Int} {lim : Int} (hs : Sound f) (ho : LenOk f o lim f.length) (hk : kr (nn o) (us6 f) ≤ 2 ^ 60) : fl (fq f) (nn (dpt f)) (us6 f) ≤ fl (fq f) (nn o) (us6 f) := by
  rw [fl_congr (fun s h => nn_dpt h)]
  by_cases h2 : 2 ≤ (us6 f).length
  · exact (dp_facts hs h2).2.2 60 (nn o) (fun s h => by have := ho s h; unfold nn; omega) hk
  · refine sum_map_le fun s h => ?_
    have hpos := List.length_pos_of_mem h
    have e : dp f s = 1 := by unfold dp; rw [if_pos (by omega), if_pos h]
    have := ho s h
    show fq f s * dp f s ≤ _
    rw [e]
    exact Nat.mul_le_mul_left _ (by unfold nn; omega)
end Go.Proofs.YtknjblgnjoocbaaDoor

