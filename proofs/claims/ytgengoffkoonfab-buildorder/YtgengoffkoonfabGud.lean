import Derived.Test.YtgengoffkoonfabKrg
namespace Go.Proofs.Ytgengoffkoonfab
open Go.RowKit Go.Maps
set_option maxRecDepth 20000
set_option linter.unusedVariables false

/-- A good list of lengths. -/
structure Gd (f n : List Int) (lim : Int) : Prop where
  len : n.length = f.length
  zero : ∀ s, s < f.length → f.getD s 0 = 0 → n.getD s 0 = 0
  ok : LenOk f n lim f.length
  one : (us f).length = 1 → ∀ s ∈ us f, n.getD s 0 = 1
  all : 2 ≤ (us f).length → kr (nn n) (us f) = 2 ^ 60

structure Sound (f : List Int) : Prop where
  len : f.length ≤ 288
  ok : bnd f 4294967296 f.length

theorem Sound.nn {f : List Int} (h : Sound f) (i : Nat) : 0 ≤ f.getD i 0 := by
  by_cases c : i < f.length
  · exact (h.ok i c).1
  · rw [List.getD_eq_getElem?_getD, List.getElem?_eq_none (by omega)]; exact Int.le_refl _

theorem Gd.at {f n : List Int} {lim : Int} (h : Gd f n lim) (hs : Sound f) (i : Nat) : 0 ≤ n.getD i 0 ∧ n.getD i 0 ≤ 60 := by
  by_cases c : i < f.length
  · by_cases z : f.getD i 0 = 0
    · rw [h.zero i c z]; omega
    · have := h.ok i (mem_us.2 ⟨c, by have := hs.nn i; omega⟩)
      omega
  · rw [List.getD_eq_getElem?_getD, List.getElem?_eq_none (by rw [h.len]; omega)]
    exact ⟨Int.le_refl _, by decide⟩

theorem Gd.krv {f n : List Int} {lim : Int} (h : Gd f n lim) (hs : Sound f) (h2 : 2 ≤ (us f).length) : krV f n lim = 1152921504606846976 := by
  have e : kS f n f.length = 2 ^ 60 := h.all h2
  have := kst_ok hs.nn h.ok (by rw [e]; exact Nat.le_refl _)
  unfold krV
  rw [if_neg (fun q => q h.len), this, e]
  rfl

theorem good_gd (vf vn : Value) (f n : List Int) (lim : Int) (w : World) (hf : SI w vf f) (hn : SI w vn n) (hs : Sound f) (hg : Gd f n lim) (hlim : lim ≤ 9223372036854775807 ∧ -9223372036854775808 ≤ lim) :
    Calls Try.prog 14 #[vf, vn, .int .i64 lim] w fun e w' => e = .returned (.bool true) ∧ w' = w :=
  good_any vf vn f n lim w hf hn hs.len hlim (fun i => by have := hg.at hs i; omega) hg.len hg.zero (fun h s h1 h2 => hg.one h s (mem_us.2 ⟨h1, h2⟩)) (by
    by_cases c : (us f).length < 2
    · exact .inl c
    · exact .inr (hg.krv hs (by omega)))

theorem cs_fl {f n : List Int} (hs : Sound f) (k : Nat) (h : ∀ s ∈ usk f k, 0 ≤ n.getD s 0) : cs f n k = ((fl (fq f) (nn n) (usk f k) : Nat) : Int) := by
  induction k with
  | zero => rfl
  | succ k ih =>
    have ih' := ih fun s hs' => h s (usk_sub hs')
    have hk := hs.nn k
    simp only [cs]
    rw [ih', usk_succ]
    by_cases c : 0 < f.getD k 0
    · have hnk := h k (by rw [usk_succ, if_pos c]; simp)
      rw [if_pos c]
      unfold fl
      rw [List.map_append, List.sum_append]
      simp only [List.map_cons, List.map_nil, List.sum_cons, List.sum_nil, Nat.add_zero]
      rw [Int.natCast_add, Int.natCast_mul]
      have e1 : ((fq f k : Nat) : Int) = f.getD k 0 := by unfold fq; omega
      have e2 : ((nn n k : Nat) : Int) = n.getD k 0 := by unfold Go.Proofs.Ytgengoffkoonfab.nn; omega
      rw [e1, e2]
    · rw [if_neg c, List.append_nil]
      have e0 : f.getD k 0 = 0 := by omega
      rw [e0, Int.zero_mul, Int.add_zero]

theorem cost_at {f n : List Int} {lim : Int} (hs : Sound f) (ho : LenOk f n lim f.length) (i : Nat) (hi : i < f.length) : 0 ≤ f.getD i 0 * n.getD i 0 ∧ f.getD i 0 * n.getD i 0 ≤ 1236950581248 := by
  have h1 := hs.ok i hi
  by_cases c : f.getD i 0 = 0
  · rw [c, Int.zero_mul]; omega
  · have h2 := ho i (mem_us.2 ⟨hi, by omega⟩)
    refine ⟨Int.mul_nonneg h1.1 (by omega), ?_⟩
    have := Int.mul_le_mul h1.2 h2.2.2 (show 0 ≤ n.getD i 0 by omega) (by omega)
    omega

theorem lcost_ok (vf vn : Value) (f n : List Int) (lim : Int) (w : World) (hf : SI w vf f) (hn : SI w vn n) (hs : Sound f) (hl : n.length = f.length) (ho : LenOk f n lim f.length) :
    Calls Try.prog 17 #[vf, vn] w fun e w' => e = .returned (.int .i64 ((fl (fq f) (nn n) (us f) : Nat) : Int)) ∧ ∃ q, w' = w.drewN q := by
  have := lcost_any vf vn f n w hf hn hl hs.len (cost_at hs ho)
  rw [cs_fl hs f.length (fun s h => by have := ho s h; omega)] at this
  exact this

theorem sum_map_le {f g : Nat → Nat} {l : List Nat} (h : ∀ s ∈ l, f s ≤ g s) : (l.map f).sum ≤ (l.map g).sum := by
  induction l with
  | nil => exact Nat.le_refl _
  | cons a r ih =>
    have h1 := ih fun s hs => h s (List.mem_cons_of_mem _ hs)
    have h2 := h a (by simp)
    simp only [List.map_cons, List.sum_cons]
    omega

theorem fb61 : 1236950581248 < fb 61 := by decide +kernel

theorem kr_pos {len : Nat → Nat} {l : List Nat} (h : l ≠ []) : 0 < kr len l := by
  cases l with
  | nil => exact absurd rfl h
  | cons a r =>
    have := Nat.two_pow_pos (60 - len a)
    simp only [kr, List.map_cons, List.sum_cons]
    omega

theorem kr_one {len : Nat → Nat} {l : List Nat} (hk : kr len l = 2 ^ 60) (h2 : 2 ≤ l.length) {s : Nat} (hs : s ∈ l) : 1 ≤ len s := by
  apply Classical.byContradiction
  intro c
  obtain ⟨a, b, rfl⟩ := List.append_of_mem hs
  have e : kr len (a ++ s :: b) = 2 ^ (60 - len s) + kr len (a ++ b) := by
    have := perm_sum (fun s => 2 ^ (60 - len s)) (List.perm_middle (a := s) (l₁ := a) (l₂ := b))
    unfold kr
    rw [this]
    simp
  have hne : a ++ b ≠ [] := fun e => by
    have : (a ++ b).length = 0 := by rw [e]; rfl
    simp at h2 this
    rw [this.1, this.2] at h2
    simp at h2
  have hp := kr_pos (len := len) hne
  have h0 : len s = 0 := by omega
  rw [e, h0, Nat.sub_zero] at hk
  omega

theorem dpt_get {f : List Int} {s : Nat} (h : s < f.length) : (dpt f).getD s 0 = (dp f s : Int) := by
  unfold dpt
  rw [List.getD_eq_getElem?_getD, List.getElem?_map, List.getElem?_range h]
  rfl

theorem kr_congr {a b : Nat → Nat} {l : List Nat} (h : ∀ s ∈ l, a s = b s) : kr a l = kr b l := map_sum_congr fun s hs => by rw [h s hs]
theorem fl_congr {f a b : Nat → Nat} {l : List Nat} (h : ∀ s ∈ l, a s = b s) : fl f a l = fl f b l := map_sum_congr fun s hs => by rw [h s hs]

theorem nn_dpt {f : List Int} {s : Nat} (h : s ∈ us f) : nn (dpt f) s = dp f s := by
  unfold nn
  rw [dpt_get (mem_us.1 h).1]
  rfl

theorem dp_facts {f : List Int} (hs : Sound f) (h2 : 2 ≤ (us f).length) : kr (dp f) (us f) = 2 ^ 60 ∧ (∀ s ∈ us f, dp f s ≤ 59) ∧ ∀ N o, (∀ s ∈ us f, o s ≤ N) → ((us f).map fun s => 2 ^ (N - o s)).sum ≤ 2 ^ N → fl (fq f) (dp f) (us f) ≤ fl (fq f) o (us f) := by
  have hd := hrun_done ((us f).length - 1) (leafs (fq f) (us f)) (fun _ => 0) (by rw [leafs_len]; omega)
  obtain ⟨a, b, _, d⟩ := depths_good (us_nodup f) (fun s h => (fq_le hs.ok h).1) (Nat.lt_of_le_of_lt (tot_le hs.ok hs.len) fb61) hd
  have e : ∀ s, dp f s = hrun ((us f).length - 1) (leafs (fq f) (us f)) (fun _ => 0) s := fun s => by unfold dp; rw [if_neg (by omega)]
  have e' : dp f = hrun ((us f).length - 1) (leafs (fq f) (us f)) (fun _ => 0) := funext e
  rw [e']
  exact ⟨a, b, d⟩

theorem gd_dpt {f : List Int} (hs : Sound f) : Gd f (dpt f) 60 := by
  have hone : (us f).length = 1 → ∀ s ∈ us f, (dpt f).getD s 0 = 1 := fun h s hm => by
    rw [dpt_get (mem_us.1 hm).1]
    unfold dp
    rw [if_pos h, if_pos hm]
    rfl
  refine ⟨dpt_len f, fun s h h0 => ?_, fun s hm => ?_, hone, fun h2 => ?_⟩
  · rw [dpt_get h, dp_out (fun hm => by have := (mem_us.1 hm).2; omega)]; rfl
  · have hm' : s ∈ us f := hm
    have hpos := List.length_pos_of_mem hm'
    by_cases h1 : (us f).length = 1
    · rw [hone h1 s hm]; omega
    · obtain ⟨a, b, _⟩ := dp_facts hs (by omega)
      rw [dpt_get (mem_us.1 hm').1]
      have h3 := kr_one a (by omega) hm'
      have h4 := b s hm'
      omega
  · rw [kr_congr (fun s h => nn_dpt h)]
    exact (dp_facts hs h2).1

/-- Nothing within Kraft's rule costs less. -/
theorem dp_best {f o : List Int} {lim : Int} (hs : Sound f) (ho : LenOk f o lim f.length) (hk : kr (nn o) (us f) ≤ 2 ^ 60) : fl (fq f) (nn (dpt f)) (us f) ≤ fl (fq f) (nn o) (us f) := by
  rw [fl_congr (fun s h => nn_dpt h)]
  by_cases h2 : 2 ≤ (us f).length
  · exact (dp_facts hs h2).2.2 60 (nn o) (fun s h => by have := ho s h; unfold nn; omega) hk
  · refine sum_map_le fun s h => ?_
    have hpos := List.length_pos_of_mem h
    have e : dp f s = 1 := by unfold dp; rw [if_pos (by omega), if_pos h]
    have := ho s h
    show fq f s * dp f s ≤ _
    rw [e]
    exact Nat.mul_le_mul_left _ (by unfold nn; omega)
end Go.Proofs.Ytgengoffkoonfab
