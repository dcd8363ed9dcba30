import Derived.Test.YtknjblgnjoocbaaDoorGTrw
import Derived.Test.YtknjblgnjoocbaaDoorGLsd
namespace Go.Proofs.YtknjblgnjoocbaaDoor
set_option maxRecDepth 20000
set_option linter.unusedVariables false

/-- Counts can be weighed. -/
theorem cnt_sound {l : List Int} {m : Nat} (hl : l.length ≤ 288) (h : Bd l m) (hm : m ≤ 16777217) : Sound l := ⟨hl, fun i hi => by have := h i; omega⟩

theorem cnt_lmE {l : List Int} {m : Nat} (hl : l.length ≤ 288) (h : Bd l m) (hm : m ≤ 16777217) : lmE l 15 = 0 ∧ (us6 l).length ≤ 2 ^ 15 := by
  have h1 : (us6 l).length ≤ 2 ^ 15 := by have := usk_len l l.length; show (usk l l.length).length ≤ _; omega
  refine ⟨?_, h1⟩
  unfold lmE
  rw [if_neg (by omega)]
  have hb : bnb l 4294967296 = true := by
    have := (cnt_sound hl h hm).ok
    exact bnb_iff.2 this
  rw [hb, if_neg (by simp), if_neg (by show ¬ 2 ^ 15 < (us6 l).length; omega)]

theorem ctl_facts {R : List Tk} (hn : R.length ≤ 16777216) (ha : asnd R = true) : ctE R = 0 ∧ (ctL R).length = 286 ∧ (ctD R).length = 30 ∧ Bd (ctL R) 16777217 ∧ Bd (ctD R) 16777217 := by
  have hE : ctE R = 0 := by unfold ctE; rw [if_neg (by omega), if_pos ha]
  have hL : ctL R = (cls (List.replicate 286 0) R).set 256 1 := by unfold ctL; rw [if_pos hE]
  have hD : ctD R = cdt (List.replicate 30 0) R := by unfold ctD; rw [if_pos hE]
  have b1 := bd_cls R (List.replicate 286 0) 0 (bd_zeros 286)
  have b2 := bd_cdt R (List.replicate 30 0) 0 (bd_zeros 30)
  refine ⟨hE, by rw [hL]; simp [cls_len], by rw [hD]; simp [cdt_len], fun i => ?_, bd_more (by rw [hD]; exact b2) (by omega)⟩
  rw [hL]
  by_cases e : i = 256
  · subst e
    have : ((cls (List.replicate 286 0) R).set 256 1).getD 256 0 = 1 := by rw [List.getD_eq_getElem?_getD, List.getElem?_set_self (by rw [cls_len]; simp)]; rfl
    rw [this]; omega
  · have : ((cls (List.replicate 286 0) R).set 256 1).getD i 0 = (cls (List.replicate 286 0) R).getD i 0 := by
      rw [List.getD_eq_getElem?_getD, List.getElem?_set_ne (fun q => e q.symm), ← List.getD_eq_getElem?_getD]
    rw [this]
    have := b1 i
    omega

theorem trl_facts {R : List Tk} (hn : R.length ≤ 16777216) (ha : asnd R = true) : trL R = lmt (ctL R) 15 ∧ (trL R).length = 286 ∧ (trD R).length = 30 ∧ Gd (ctL R) (lmt (ctL R) 15) 15 ∧ Sound (ctL R) := by
  obtain ⟨hE, h1, h2, b1, b2⟩ := ctl_facts hn ha
  have e1 := cnt_lmE (by omega) b1 (by omega)
  have e2 := cnt_lmE (by omega) b2 (by omega)
  have q1 : trL R = lmt (ctL R) 15 := by unfold trL lmL; rw [if_pos hE, if_pos e1.1]; rfl
  have q2 : trD R = lmt (ctD R) 15 := by unfold trD lmL; rw [if_pos hE, if_pos e2.1]; rfl
  have hs := cnt_sound (l := ctL R) (by omega) b1 (by omega)
  exact ⟨q1, by rw [q1, lmt_len, h1], by rw [q2, lmt_len, h2], gd_lmt hs (by omega) e1.2, hs⟩

/-- The sums of the law, behind k symbols. -/
def sK (f o : List Int) (k : Nat) : Nat := ((usk f k).map fun s => 2 ^ (15 - nn o s)).sum
def fK (f o : List Int) (k : Nat) : Nat := fl (fq f) (nn o) (usk f k)

theorem sK_succ (f o : List Int) (k : Nat) : sK f o (k + 1) = sK f o k + if 0 < f.getD k 0 then 2 ^ (15 - nn o k) else 0 := by
  unfold sK
  rw [usk_succ]
  by_cases h : 0 < f.getD k 0
  · rw [if_pos h, if_pos h]; simp
  · rw [if_neg h, if_neg h]; simp

theorem fK_succ (f o : List Int) (k : Nat) : fK f o (k + 1) = fK f o k + if 0 < f.getD k 0 then fq f k * nn o k else 0 := by
  unfold fK fl
  rw [usk_succ]
  by_cases h : 0 < f.getD k 0
  · rw [if_pos h, if_pos h]; simp
  · rw [if_neg h, if_neg h]; simp

theorem kr_sK (f o : List Int) (k : Nat) (h : LenOk f o 15 k) : kr (nn o) (usk f k) = 2 ^ 45 * sK f o k := by
  induction k with
  | zero => simp [kr, sK, usk]
  | succ k ih =>
    have h1 : LenOk f o 15 k := fun s hs => h s (by rw [usk_succ]; exact List.mem_append_left _ hs)
    rw [sK_succ, Nat.mul_add, ← ih h1]
    unfold kr
    rw [usk_succ]
    by_cases hp : 0 < f.getD k 0
    · rw [if_pos hp, if_pos hp]
      have := h k (by rw [usk_succ, if_pos hp]; simp)
      have e : 60 - nn o k = 45 + (15 - nn o k) := by unfold nn; omega
      simp only [List.map_append, List.map_cons, List.map_nil, List.sum_append, List.sum_cons, List.sum_nil, Nat.add_zero]
      rw [e, Nat.pow_add]
    · rw [if_neg hp, if_neg hp]; simp

theorem lok_succ {f o : List Int} {k : Nat} (h : LenOk f o 15 k) (h1 : 0 < f.getD k 0 → 1 ≤ o.getD k 0 ∧ o.getD k 0 ≤ 15) : LenOk f o 15 (k + 1) := by
  intro s hs
  rw [usk_succ] at hs
  rcases List.mem_append.1 hs with hs | hs
  · exact h s hs
  · by_cases hp : 0 < f.getD k 0
    · rw [if_pos hp] at hs
      obtain rfl : s = k := by simpa using hs
      have := h1 hp
      exact ⟨this.1, this.2, by omega⟩
    · rw [if_neg hp] at hs; cases hs

theorem sums_small {f o : List Int} {k : Nat} (h : LenOk f o 15 k) (hb : Bd f 16777217) : sK f o k ≤ k * 16384 ∧ fK f o k ≤ k * 251658255 := by
  induction k with
  | zero => simp [sK, fK, fl, usk]
  | succ k ih =>
    have h1 : LenOk f o 15 k := fun s hs => h s (by rw [usk_succ]; exact List.mem_append_left _ hs)
    have h2 := ih h1
    rw [sK_succ, fK_succ]
    by_cases hp : 0 < f.getD k 0
    · rw [if_pos hp, if_pos hp]
      have h3 := h k (by rw [usk_succ, if_pos hp]; simp)
      have h4 : 2 ^ (15 - nn o k) ≤ 2 ^ 14 := Nat.pow_le_pow_right (by omega) (by unfold nn; omega)
      have h5 : fq f k * nn o k ≤ 16777217 * 15 := Nat.mul_le_mul (by have := hb k; unfold fq; omega) (by unfold nn; omega)
      have h6 : (2 : Nat) ^ 14 = 16384 := by decide
      rw [h6] at h4
      rw [Nat.add_mul, Nat.add_mul]
      constructor
      · exact Nat.add_le_add h2.1 (by omega)
      · exact Nat.add_le_add h2.2 (by omega)
    · rw [if_neg hp, if_neg hp, Nat.add_mul, Nat.add_mul]
      exact ⟨Nat.add_le_add h2.1 (Nat.zero_le _), Nat.add_le_add h2.2 (Nat.zero_le _)⟩

/-- No other code takes fewer bits. -/
theorem best_law {f o : List Int} (hs : Sound f) (hu : (us6 f).length ≤ 2 ^ 15) (ho : LenOk f o 15 f.length) (hk : sK f o f.length ≤ 32768) : fK f (lmt f 15) f.length ≤ fK f o f.length := by
  refine lm_best hs (by omega) hu ho ?_
  show kr (nn o) (usk f f.length) ≤ 2 ^ 60
  rw [kr_sK f o _ ho]
  have e : (2 : Nat) ^ 60 = 2 ^ 45 * 32768 := by decide
  rw [e]
  exact Nat.mul_le_mul_left _ hk
end Go.Proofs.YtknjblgnjoocbaaDoor

