import Derived.Test.YtijmmfimkibgbaaGGcd
import Derived.Test.YtijmmfimkibgbaaGGlo
import Derived.Test.YtijmmfimkibgbaaGGen
namespace Go.Proofs.Ytijmmfimkibgbaa
open Go.RowKit Go.Maps
set_option maxRecDepth 20000
set_option linter.unusedVariables false
set_option linter.unusedSimpArgs false

theorem bytesLE_le : ∀ (l : List Int), Byt l → bytesLE (le l) l.length = l
  | [], _ => rfl
  | b :: r, h => by
    have h0 := h 0
    simp at h0
    have hr := bytesLE_le r (fun i => by have := h (i + 1); simpa using this)
    simp only [le, List.length_cons, bytesLE]
    rw [show (b + 256 * le r) % 256 = b by omega, show (b + 256 * le r) / 256 = le r by omega, hr]

theorem put_fld {d : List Int} (h : Byt d) {k n : Nat} (hk : k + n ≤ d.length) : bytesLE (fld d k n) n = sub d k n := by
  have := bytesLE_le (sub d k n) (byt_sub h k n)
  rw [sub_len hk] at this
  exact this

theorem strL_nums {l : List Int} (h : Byt l) : strL (strOfNums l) = l := by
  unfold strL strOfNums
  simp only [List.map_map]
  have e : ∀ x ∈ l, ((fun b : UInt8 => (b.toNat : Int)) ∘ fun n : Int => UInt8.ofNat n.toNat) x = x := by
    intro x hx
    obtain ⟨i, hi, rfl⟩ := List.mem_iff_getElem.1 hx
    have hb := h i
    rw [show l.getD i 0 = l[i] by simp [hi]] at hb
    simp only [Function.comp, UInt8.toNat_ofNat']
    omega
  exact (List.map_congr_left e).trans (List.map_id' l)

theorem size_nums (l : List Int) : (strOfNums l).size = l.length := by simp [strOfNums, ByteArray.size]

theorem sub_join (d : List Int) (k n m : Nat) : sub d k n ++ sub d (k + n) m = sub d k (n + m) := by
  unfold sub; rw [List.take_add, List.drop_drop]

theorem sub_hd {d : List Int} {k n M : Nat} {t : List Int} (hM : n ≤ M) (ht : t = sub d (k + n) (M - n)) : sub d k n ++ t = sub d k M := by
  rw [ht, sub_join, Nat.add_sub_cancel' hM]

theorem sub_eq {d : List Int} {k k' n n' : Nat} (hk : k = k') (hn : n = n') : sub d k n = sub d k' n' := by rw [hk, hn]

theorem nw2 {d : List Int} (h : Byt d) (k : Nat) : ¬ wide (fld d k 2) 2 := by have := fld2 h k; unfold wide; omega
theorem nw4 {d : List Int} (h : Byt d) (k : Nat) : ¬ wide (fld d k 4) 4 := by have := fld4 h k; unfold wide; omega

theorem fitI_cons {i : Itm} {its : List Itm} (h : ¬ itW i) (hs : fitI its) : fitI (i :: its) := fun j hj => by
  rcases List.mem_cons.1 hj with rfl | hj
  · exact h
  · exact hs j hj

theorem fitI_nil : fitI [] := fun _ h => by cases h

theorem fit_txt (s : ByteArray) : ¬ itW (.txt s) := fun h => h

theorem loN_eq {d : List Int} (h : Byt d) (k : Nat) : (loN d k : Int) = fld d (k + 26) 2 := Int.toNat_of_nonneg (fld2 h _).1
theorem loX_eq {d : List Int} (h : Byt d) (k : Nat) : (loX d k : Int) = fld d (k + 28) 2 := Int.toNat_of_nonneg (fld2 h _).1
theorem ceN_eq {d : List Int} (h : Byt d) (k : Nat) : (ceN d k : Int) = fld d (k + 28) 2 := Int.toNat_of_nonneg (fld2 h _).1
theorem ceX_eq {d : List Int} (h : Byt d) (k : Nat) : (ceX d k : Int) = fld d (k + 30) 2 := Int.toNat_of_nonneg (fld2 h _).1
theorem ceM_eq {d : List Int} (h : Byt d) (k : Nat) : (ceM d k : Int) = fld d (k + 32) 2 := Int.toNat_of_nonneg (fld2 h _).1

/-- What is got is put: a local header. -/
theorem lo_row {d : List Int} (h : Byt d) {k : Nat} (hk : k + 30 + loN d k + loX d k ≤ d.length) (hs : fld d k 4 = 67324752) : rowI (loI (loG d k)) = sub d k (30 + loN d k + loX d k) := by
  have sN : ((strOfNums (sub d (k + 30) (loN d k))).size : Int) = fld d (k + 26) 2 := by rw [size_nums, sub_len (by omega), loN_eq h]
  have sX : ((strOfNums (sub d (k + 30 + loN d k) (loX d k))).size : Int) = fld d (k + 28) 2 := by rw [size_nums, sub_len (by omega), loX_eq h]
  simp only [loI, lcI, rowI, loG, rdG, itB, List.flatMap_cons, List.flatMap_nil, List.cons_append, List.nil_append, List.append_nil, sN, sX]
  rw [strL_nums (byt_sub h _ _), strL_nums (byt_sub h _ _), ← hs]
  repeat rw [put_fld h (by omega)]
  iterate 12 refine sub_hd (by omega) ?_
  exact sub_eq rfl (by omega)

theorem lo_fit {d : List Int} (h : Byt d) {k : Nat} (hk : k + 30 + loN d k + loX d k ≤ d.length) : fitI (loI (loG d k)) := by
  have sN : ((strOfNums (sub d (k + 30) (loN d k))).size : Int) = fld d (k + 26) 2 := by rw [size_nums, sub_len (by omega), loN_eq h]
  have sX : ((strOfNums (sub d (k + 30 + loN d k) (loX d k))).size : Int) = fld d (k + 28) 2 := by rw [size_nums, sub_len (by omega), loX_eq h]
  simp only [loI, lcI, loG, rdG, List.cons_append, List.nil_append, sN, sX]
  refine fitI_cons (by show ¬ wide _ _; unfold wide; omega) ?_
  iterate 10 refine fitI_cons (by first | exact nw2 h _ | exact nw4 h _) ?_
  exact fitI_cons (fit_txt _) (fitI_cons (fit_txt _) fitI_nil)

/-- A directory record. -/
theorem ce_row {d : List Int} (h : Byt d) {k : Nat} (hk : k + 46 + ceN d k + ceX d k + ceM d k ≤ d.length) (hs : fld d k 4 = 33639248) : rowI (ceI (ceR d k)) = sub d k (46 + ceN d k + ceX d k + ceM d k) := by
  have sN : ((strOfNums (sub d (k + 46) (ceN d k))).size : Int) = fld d (k + 28) 2 := by rw [size_nums, sub_len (by omega), ceN_eq h]
  have sX : ((strOfNums (sub d (k + 46 + ceN d k) (ceX d k))).size : Int) = fld d (k + 30) 2 := by rw [size_nums, sub_len (by omega), ceX_eq h]
  have sM : ((strOfNums (sub d (k + 46 + ceN d k + ceX d k) (ceM d k))).size : Int) = fld d (k + 32) 2 := by rw [size_nums, sub_len (by omega), ceM_eq h]
  simp only [ceI, lcI, rowI, ceR, rdG, itB, List.flatMap_cons, List.flatMap_nil, List.cons_append, List.nil_append, List.append_nil, sN, sX, sM]
  rw [strL_nums (byt_sub h _ _), strL_nums (byt_sub h _ _), strL_nums (byt_sub h _ _), ← hs]
  repeat rw [put_fld h (by omega)]
  iterate 19 refine sub_hd (by omega) ?_
  exact sub_eq rfl (by omega)

theorem ce_fit {d : List Int} (h : Byt d) {k : Nat} (hk : k + 46 + ceN d k + ceX d k + ceM d k ≤ d.length) : fitI (ceI (ceR d k)) := by
  have sN : ((strOfNums (sub d (k + 46) (ceN d k))).size : Int) = fld d (k + 28) 2 := by rw [size_nums, sub_len (by omega), ceN_eq h]
  have sX : ((strOfNums (sub d (k + 46 + ceN d k) (ceX d k))).size : Int) = fld d (k + 30) 2 := by rw [size_nums, sub_len (by omega), ceX_eq h]
  have sM : ((strOfNums (sub d (k + 46 + ceN d k + ceX d k) (ceM d k))).size : Int) = fld d (k + 32) 2 := by rw [size_nums, sub_len (by omega), ceM_eq h]
  simp only [ceI, lcI, ceR, rdG, List.cons_append, List.nil_append, sN, sX, sM]
  refine fitI_cons (by show ¬ wide _ _; unfold wide; omega) ?_
  iterate 16 refine fitI_cons (by first | exact nw2 h _ | exact nw4 h _) ?_
  exact fitI_cons (fit_txt _) (fitI_cons (fit_txt _) (fitI_cons (fit_txt _) fitI_nil))

/-- The end record. -/
theorem en_row {d : List Int} (h : Byt d) {k : Nat} (hk : (k : Int) + 22 + fld d (k + 20) 2 ≤ d.length) (hs : fld d k 4 = 101010256) : rowI (enI (enG d k)) = sub d k (22 + (fld d (k + 20) 2).toNat) := by
  have hb := fld2 h (k + 20)
  have hN : ((fld d (k + 20) 2).toNat : Int) = fld d (k + 20) 2 := Int.toNat_of_nonneg hb.1
  have sN : ((strOfNums (sub d (k + 22) (fld d (k + 20) 2).toNat)).size : Int) = fld d (k + 20) 2 := by rw [size_nums, sub_len (by omega), hN]
  simp only [enI, rowI, enG, itB, List.flatMap_cons, List.flatMap_nil, List.append_nil, sN]
  rw [strL_nums (byt_sub h _ _), ← hs]
  repeat rw [put_fld h (by omega)]
  iterate 8 refine sub_hd (by omega) ?_
  exact sub_eq rfl (by omega)

theorem en_fit {d : List Int} (h : Byt d) {k : Nat} (hk : (k : Int) + 22 + fld d (k + 20) 2 ≤ d.length) : fitI (enI (enG d k)) := by
  have hb := fld2 h (k + 20)
  have hN : ((fld d (k + 20) 2).toNat : Int) = fld d (k + 20) 2 := Int.toNat_of_nonneg hb.1
  have sN : ((strOfNums (sub d (k + 22) (fld d (k + 20) 2).toNat)).size : Int) = fld d (k + 20) 2 := by rw [size_nums, sub_len (by omega), hN]
  simp only [enI, enG, sN]
  refine fitI_cons (by show ¬ wide _ _; unfold wide; omega) ?_
  iterate 7 refine fitI_cons (by first | exact nw2 h _ | exact nw4 h _) ?_
  exact fitI_cons (fit_txt _) fitI_nil

/-- What a Get that is OK says of its place. -/
theorem lo_at {d : List Int} {at' : Int} (h : loE d at' = 0) : ∃ k : Nat, at' = k ∧ k + 30 + loN d k + loX d k ≤ d.length ∧ fld d k 4 = 67324752 := by
  unfold loE at h
  by_cases h0 : beE d at' 30 67324752 = 0
  · rw [if_neg (by simp [h0])] at h
    obtain ⟨k, rfl, hk, hs⟩ := beE_ok h0
    refine ⟨k, rfl, ?_, hs⟩
    simp only [Int.toNat_natCast] at h
    by_cases h1 : (d.length : Int) - k - 30 < (loN d k : Int) + loX d k
    · rw [if_pos h1] at h; omega
    · omega
  · rw [if_pos h0] at h; exact absurd h h0

theorem ce_at {d : List Int} {at' : Int} (h : ceE d at' = 0) : ∃ k : Nat, at' = k ∧ k + 46 + ceN d k + ceX d k + ceM d k ≤ d.length ∧ fld d k 4 = 33639248 := by
  unfold ceE at h
  by_cases h0 : beE d at' 46 33639248 = 0
  · rw [if_neg (by simp [h0])] at h
    obtain ⟨k, rfl, hk, hs⟩ := beE_ok h0
    refine ⟨k, rfl, ?_, hs⟩
    simp only [Int.toNat_natCast] at h
    by_cases h1 : (d.length : Int) - k - 46 < (ceN d k : Int) + ceX d k + ceM d k
    · rw [if_pos h1] at h; omega
    · omega
  · rw [if_pos h0] at h; exact absurd h h0

theorem en_at {d : List Int} {at' : Int} (h : enE d at' = 0) : ∃ k : Nat, at' = k ∧ (k : Int) + 22 + fld d (k + 20) 2 ≤ d.length ∧ fld d k 4 = 101010256 := by
  unfold enE at h
  by_cases h0 : beE d at' 22 101010256 = 0
  · rw [if_neg (by simp [h0])] at h
    obtain ⟨k, rfl, hk, hs⟩ := beE_ok h0
    refine ⟨k, rfl, ?_, hs⟩
    simp only [Int.toNat_natCast] at h
    by_cases h1 : (d.length : Int) - k - 22 < fld d (k + 20) 2
    · rw [if_pos h1] at h; omega
    · omega
  · rw [if_pos h0] at h; exact absurd h h0

/-- In one: what is put of what was got is the bytes between the two places. -/
theorem lo_canon {d : List Int} (h : Byt d) {at' : Int} (he : loE d at' = 0) : puE (loI (loA d at')) = 0 ∧ 0 ≤ at' ∧ at' ≤ loP d at' ∧ loP d at' ≤ d.length ∧ puL (loI (loA d at')) = sub d at'.toNat (loP d at' - at').toNat := by
  obtain ⟨k, rfl, hk, hs⟩ := lo_at he
  obtain ⟨g1, g2⟩ := lo_good he
  have hf := lo_fit h hk
  rw [g1, g2]
  refine ⟨if_pos hf, by omega, by omega, by omega, ?_⟩
  rw [show puL (loI (loG d k)) = rowI (loI (loG d k)) from if_pos hf, lo_row h hk hs]
  exact sub_eq (by omega) (by omega)

theorem ce_canon {d : List Int} (h : Byt d) {at' : Int} (he : ceE d at' = 0) : puE (ceI (ceA d at')) = 0 ∧ 0 ≤ at' ∧ at' ≤ ceP d at' ∧ ceP d at' ≤ d.length ∧ puL (ceI (ceA d at')) = sub d at'.toNat (ceP d at' - at').toNat := by
  obtain ⟨k, rfl, hk, hs⟩ := ce_at he
  obtain ⟨g1, g2⟩ := ce_good he
  have hf := ce_fit h hk
  rw [g1, g2]
  refine ⟨if_pos hf, by omega, by omega, by omega, ?_⟩
  rw [show puL (ceI (ceR d k)) = rowI (ceI (ceR d k)) from if_pos hf, ce_row h hk hs]
  exact sub_eq (by omega) (by omega)

theorem en_canon {d : List Int} (h : Byt d) {at' : Int} (he : enE d at' = 0) : puE (enI (enA d at')) = 0 ∧ 0 ≤ at' ∧ at' ≤ enP d at' ∧ enP d at' ≤ d.length ∧ puL (enI (enA d at')) = sub d at'.toNat (enP d at' - at').toNat := by
  obtain ⟨k, rfl, hk, hs⟩ := en_at he
  obtain ⟨g1, g2⟩ := en_good he
  have hf := en_fit h hk
  have hb := fld2 h (k + 20)
  rw [g1, g2]
  refine ⟨if_pos hf, by omega, by omega, by omega, ?_⟩
  rw [show puL (enI (enG d k)) = rowI (enI (enG d k)) from if_pos hf, en_row h hk hs]
  exact sub_eq (by omega) (by omega)

/-- At most one of the three is got. -/
theorem one_only {d : List Int} {at' : Int} : (loE d at' = 0 → ceE d at' ≠ 0 ∧ enE d at' ≠ 0) ∧ (ceE d at' = 0 → enE d at' ≠ 0) := by
  refine ⟨fun h => ⟨fun h2 => ?_, fun h2 => ?_⟩, fun h h2 => ?_⟩
  · obtain ⟨k, rfl, -, hs⟩ := lo_at h
    obtain ⟨j, hj, -, hs2⟩ := ce_at h2
    obtain rfl : k = j := by omega
    omega
  · obtain ⟨k, rfl, -, hs⟩ := lo_at h
    obtain ⟨j, hj, -, hs2⟩ := en_at h2
    obtain rfl : k = j := by omega
    omega
  · obtain ⟨k, rfl, -, hs⟩ := ce_at h
    obtain ⟨j, hj, -, hs2⟩ := en_at h2
    obtain rfl : k = j := by omega
    omega

/-- What is got is within bounds. -/
theorem str_small (l : List Int) (h : l.length ≤ 140737488351232) : (strOfNums l).size ≤ 140737488351232 := by rw [size_nums]; exact h

theorem o64_2 {d : List Int} (h : Byt d) (k : Nat) : Ok64 (fld d k 2) := by have := fld2 h k; unfold Ok64; omega
theorem o64_4 {d : List Int} (h : Byt d) (k : Nat) : Ok64 (fld d k 4) := by have := fld4 h k; unfold Ok64; omega

theorem sub_small {d : List Int} (hd : d.length ≤ 140737488351232) (k n : Nat) : (sub d k n).length ≤ 140737488351232 := by
  unfold sub; rw [List.length_take, List.length_drop]; omega

theorem Loc.zero_ok : Loc.zero.Ok := ⟨by unfold Ok64; decide, by unfold Ok64; decide, by unfold Ok64; decide, by unfold Ok64; decide, by unfold Ok64; decide, by decide, by decide, by unfold Ok64; decide, by unfold Ok64; decide, by decide, by decide⟩

theorem loA_ok {d : List Int} (h : Byt d) (hd : d.length ≤ 140737488351232) (at' : Int) : (loA d at').Ok := by
  unfold loA
  split
  · have hs := fld4 h (at'.toNat + 4 + 10)
    exact ⟨o64_2 h _, o64_2 h _, o64_2 h _, o64_2 h _, o64_2 h _, hs.1, by show fld _ _ _ < _; omega, o64_4 h _, o64_4 h _, str_small _ (sub_small hd _ _), str_small _ (sub_small hd _ _)⟩
  · exact Loc.zero_ok

theorem ceA_ok {d : List Int} (h : Byt d) (hd : d.length ≤ 140737488351232) (at' : Int) : (ceA d at').Ok := by
  unfold ceA
  split
  · have hs := fld4 h (at'.toNat + 6 + 10)
    exact ⟨⟨o64_2 h _, o64_2 h _, o64_2 h _, o64_2 h _, o64_2 h _, hs.1, by show fld _ _ _ < _; omega, o64_4 h _, o64_4 h _, str_small _ (sub_small hd _ _), str_small _ (sub_small hd _ _)⟩, o64_2 h _, o64_2 h _, o64_2 h _, o64_4 h _, o64_4 h _, str_small _ (sub_small hd _ _)⟩
  · exact ⟨Loc.zero_ok, by unfold Ok64; decide, by unfold Ok64; decide, by unfold Ok64; decide, by unfold Ok64; decide, by unfold Ok64; decide, by decide⟩

theorem enA_ok {d : List Int} (h : Byt d) (hd : d.length ≤ 140737488351232) (at' : Int) : (enA d at').Ok := by
  unfold enA
  split
  · exact ⟨o64_2 h _, o64_2 h _, o64_2 h _, o64_2 h _, o64_4 h _, o64_4 h _, str_small _ (sub_small hd _ _)⟩
  · exact ⟨by unfold Ok64; decide, by unfold Ok64; decide, by unfold Ok64; decide, by unfold Ok64; decide, by unfold Ok64; decide, by unfold Ok64; decide, by decide⟩

/-- The empty end record. -/
def e22 : List Int := [80, 75, 5, 6, 0, 0, 0, 0, 0, 0, 0, 0, 0, 0, 0, 0, 0, 0, 0, 0, 0, 0]

theorem e22_byt : Byt e22 := by
  intro i
  by_cases h : i < 22
  · have : ∀ i : Fin 22, 0 ≤ e22.getD i.1 0 ∧ e22.getD i.1 0 < 256 := by decide
    exact this ⟨i, h⟩
  · rw [show e22.getD i 0 = 0 by simp [List.getD, List.getElem?_eq_none (show e22.length ≤ i by show 22 ≤ i; omega)]]; omega

theorem e22_get : enE e22 0 = 0 ∧ enP e22 0 = 22 ∧ enA e22 0 = Enr.zero := by
  have h0 : enE e22 0 = 0 := by decide
  refine ⟨h0, ?_, ?_⟩
  · rw [show enP e22 0 = 0 + 22 + fld e22 (0 + 20) 2 from if_pos h0]; decide
  · rw [show enA e22 0 = enG e22 0 from if_pos h0]; rfl
end Go.Proofs.Ytijmmfimkibgbaa

