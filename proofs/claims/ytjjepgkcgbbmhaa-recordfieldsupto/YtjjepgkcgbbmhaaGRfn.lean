import Derived.Test.YtjjepgkcgbbmhaaGJxn
import Derived.Test.YtjjepgkcgbbmhaaGBkn
namespace Go.Proofs.Ytjjepgkcgbbmhaa
open Go.RowKit Go.Maps
set_option maxRecDepth 20000
set_option linter.unusedVariables false
set_option linter.unusedSimpArgs false

/-- A field that fits. -/
def okX (r : Xf) : Prop := ¬ wide r.1 2 ∧ r.2.size ≤ 65535

def szX : List Xf → Nat
  | [] => 0
  | r :: R => 4 + r.2.size + szX R

theorem szX_app (a b : List Xf) : szX (a ++ b) = szX a + szX b := by
  induction a with
  | nil => simp [szX]
  | cons x r ih => simp only [List.cons_append, szX, ih]; omega

theorem jnI_cons (r : Xf) (R : List Xf) : jnI (r :: R) = .num r.1 2 :: .num (r.2.size : Int) 2 :: .txt r.2 :: jnI R := by simp [jnI]

theorem jnI_len (R : List Xf) : (rowI (jnI R)).length = szX R := by
  induction R with
  | nil => rfl
  | cons r R ih =>
    rw [jnI_cons, rowI_cons, rowI_cons, rowI_cons, List.length_append, List.length_append, List.length_append, ih]
    simp only [itB, length_bytesLE, length_strL, szX]
    omega

theorem jnI_fit {R : List Xf} (h : ∀ r ∈ R, okX r) : fitI (jnI R) := by
  intro i hi
  obtain ⟨r, hr, hi⟩ := List.mem_flatMap.1 hi
  have ho := h r hr
  simp only [List.mem_cons, List.not_mem_nil, or_false] at hi
  rcases hi with rfl | rfl | rfl
  · exact ho.1
  · show ¬ wide _ _
    have := ho.2
    unfold wide
    omega
  · exact fun hh => hh

/-- Joined: all that fits. -/
theorem jst_ok {R : List Xf} (h : ∀ r ∈ R, okX r) (hs : szX R ≤ 65535) : jst R = ⟨rowI (jnI R), 65535, 0⟩ := by
  unfold jst
  rw [runI_ok _ _ rfl (jnI_fit h) (by rw [jnI_len]; simp; omega)]
  simp

/-- What is joined is split. -/
theorem spl_join : ∀ (R : List Xf) (f : Nat) (acc : List Xf), (∀ r ∈ R, okX r) → szX R < f → spl f acc (rowI (jnI R)) = (acc ++ R, 0)
  | [], f, acc, _, hf => by
    cases f with
    | zero => simp [spl]
    | succ f => simp [spl, jnI, rowI]
  | r :: R, f, acc, h, hf => by
    obtain ⟨f', rfl⟩ : ∃ f', f = f' + 1 := ⟨f - 1, by simp only [szX] at hf; omega⟩
    have ho := h r (List.mem_cons_self ..)
    obtain ⟨D, hD⟩ : ∃ D, D = rowI (jnI (r :: R)) := ⟨_, rfl⟩
    have hl : D.length = 4 + r.2.size + szX R := by rw [hD, jnI_len]; rfl
    have h0 : D.drop 0 = rowI (.num r.1 2 :: .num (r.2.size : Int) 2 :: .txt r.2 :: jnI R) ++ [] := by rw [List.drop_zero, List.append_nil, hD, jnI_cons]
    obtain ⟨e1, h1⟩ := drop_num h0 ho.1
    obtain ⟨e2, h2⟩ := drop_num h1 (by have := ho.2; unfold wide; omega)
    obtain ⟨e3, h3⟩ := drop_txt h2
    have e2' : fld D 2 2 = (r.2.size : Int) := e2
    have e3' : sub D 4 r.2.size = strL r.2 := e3
    have h3' : D.drop (4 + r.2.size) = rowI (jnI R) := by
      have : D.drop (0 + 2 + 2 + r.2.size) = rowI (jnI R) ++ [] := h3
      rwa [List.append_nil, show 0 + 2 + 2 + r.2.size = 4 + r.2.size by omega] at this
    have hN : splN D = r.2.size := by unfold splN; rw [e2']; simp
    rw [← hD, spl, if_neg (by omega), hN, if_neg (by omega), e1, e3', h3', nums_str, spl_join R f' _ (fun x hx => h x (List.mem_cons_of_mem _ hx)) (by simp only [szX] at hf; omega)]
    simp

/-- What is split is joined. -/
theorem join_spl : ∀ (f : Nat) (acc : List Xf) (r : List Int) (M : List Xf), Byt r → r.length < f → (∀ x ∈ acc, okX x) → spl f acc r = (M, 0) → rowI (jnI M) = rowI (jnI acc) ++ r ∧ ∀ x ∈ M, okX x
  | 0, acc, r, M, _, hf, _, _ => absurd hf (by omega)
  | f + 1, acc, r, M, hB, hf, ha, h => by
    rw [spl] at h
    by_cases h0 : r.length = 0
    · rw [if_pos h0] at h
      obtain rfl : r = [] := List.eq_nil_of_length_eq_zero h0
      simp only [Prod.mk.injEq] at h
      rw [← h.1]
      exact ⟨by simp, ha⟩
    rw [if_neg h0] at h
    by_cases h1 : r.length < 4 ∨ r.length - 4 < splN r
    · rw [if_pos h1] at h
      simp at h
    rw [if_neg h1] at h
    have hb0 := fld2 hB 0
    have hb2 := fld2 hB 2
    have hN : (splN r : Int) = fld r 2 2 := Int.toNat_of_nonneg hb2.1
    obtain ⟨n, hn⟩ : ∃ n, n = splN r := ⟨_, rfl⟩
    rw [← hn] at h h1 hN
    have hsz : (strOfNums (sub r 4 n)).size = n := by rw [size_nums, sub_len (by omega)]
    have hok : okX (fld r 0 2, strOfNums (sub r 4 n)) := ⟨nw2 hB 0, by show (strOfNums (sub r 4 n)).size ≤ 65535; omega⟩
    obtain ⟨k1, k2⟩ := join_spl f _ _ M (byt_drop hB _) (by rw [List.length_drop]; omega) (fun x hx => by
      rcases List.mem_append.1 hx with hx | hx
      · exact ha x hx
      · rw [List.mem_singleton.1 hx]; exact hok) h
    refine ⟨?_, k2⟩
    rw [k1, jnI_app]
    have e : rowI (jnI acc ++ jnI [(fld r 0 2, strOfNums (sub r 4 n))]) = rowI (jnI acc) ++ (sub r 0 2 ++ (sub r 2 2 ++ sub r 4 n)) := by
      have e1 : rowI (jnI acc ++ jnI [(fld r 0 2, strOfNums (sub r 4 n))]) = rowI (jnI acc) ++ rowI (jnI [(fld r 0 2, strOfNums (sub r 4 n))]) := by simp [rowI]
      rw [e1, jnI_cons, rowI_cons, rowI_cons, rowI_cons]
      simp only [itB, hsz]
      rw [hN, put_fld hB (by omega), put_fld hB (by omega), strL_nums (byt_sub hB _ _)]
      simp [jnI, rowI]
    rw [e, List.append_assoc]
    congr 1
    have e2 : sub r 0 2 ++ (sub r 2 2 ++ sub r 4 n) = sub r 0 (4 + n) := by
      rw [show sub r 2 2 ++ sub r 4 n = sub r 2 (2 + n) from sub_join r 2 2 n]
      rw [show sub r 0 2 ++ sub r 2 (2 + n) = sub r 0 (2 + (2 + n)) from sub_join r 0 2 (2 + n)]
      exact sub_eq rfl (by omega)
    rw [e2]
    unfold sub
    rw [List.drop_zero]
    exact List.take_append_drop _ _

/-- A text that splits: its fields are joined to it. -/
theorem split_join {d : List Int} {M : List Xf} (hB : Byt d) (h : spA d = (M, 0)) : jst M = ⟨d, 65535, 0⟩ := by
  unfold spA at h
  by_cases hb : 65535 < d.length
  · rw [if_pos hb] at h
    simp at h
  rw [if_neg hb] at h
  obtain ⟨h1, h2⟩ := join_spl _ [] d M hB (by omega) (fun x hx => absurd hx (by simp)) h
  have h3 : rowI (jnI M) = d := by rw [h1]; simp [jnI, rowI]
  have := jst_ok h2 (by rw [← jnI_len, h3]; omega)
  rwa [h3] at this

theorem spl_err : ∀ (f : Nat) (acc : List Xf) (r : List Int), (spl f acc r).2 ≠ 0 → spl f acc r = ([], 122)
  | 0, acc, r, h => absurd rfl h
  | f + 1, acc, r, h => by
    rw [spl] at h ⊢
    by_cases h0 : r.length = 0
    · rw [if_pos h0] at h
      exact absurd rfl h
    rw [if_neg h0] at h ⊢
    by_cases h1 : r.length < 4 ∨ r.length - 4 < splN r
    · rw [if_pos h1]
    · rw [if_neg h1] at h ⊢
      exact spl_err f _ _ h

theorem split_err {d : List Int} (h : (spA d).2 ≠ 0) : (spA d).1 = [] ∧ ((spA d).2 = 122 ∨ (spA d).2 = 124) := by
  unfold spA at h ⊢
  by_cases hb : 65535 < d.length
  · rw [if_pos hb]
    exact ⟨rfl, .inr rfl⟩
  rw [if_neg hb] at h ⊢
  rw [spl_err _ _ _ h]
  exact ⟨rfl, .inl rfl⟩

theorem strL_app (a b : ByteArray) : strL (a ++ b) = strL a ++ strL b := by
  unfold strL
  rw [ByteArray.data_append, Array.toList_append, List.map_append]

/-- Two texts of fields. -/
theorem two_join {A B : List Xf} (ha : ∀ r ∈ A, okX r) (hb : ∀ r ∈ B, okX r) (hs : szX A + szX B ≤ 65535) :
    (jE A = 0 ∧ jE B = 0) ∧ (jS A).size = szX A ∧ (jS B).size = szX B ∧ spA (strL (jS A ++ jS B)) = (A ++ B, 0) := by
  have k1 := jst_ok ha (by omega)
  have k2 := jst_ok hb (by omega)
  have j1 := j_yes (R := A) (by rw [k1])
  have j2 := j_yes (R := B) (by rw [k2])
  rw [k1] at j1
  rw [k2] at j2
  have s1 : strL (jS A) = rowI (jnI A) := by rw [j1.2]; exact strL_nums (byt_rowI _)
  have s2 : strL (jS B) = rowI (jnI B) := by rw [j2.2]; exact strL_nums (byt_rowI _)
  refine ⟨⟨j1.1, j2.1⟩, by rw [← length_strL, s1, jnI_len], by rw [← length_strL, s2, jnI_len], ?_⟩
  have s3 : strL (jS A ++ jS B) = rowI (jnI (A ++ B)) := by rw [strL_app, s1, s2, jnI_app]; simp [rowI]
  have hl : (rowI (jnI (A ++ B))).length = szX A + szX B := by rw [jnI_len, szX_app]
  rw [s3]
  unfold spA
  rw [if_neg (by omega), spl_join (A ++ B) _ [] (fun r hr => by
    rcases List.mem_append.1 hr with hr | hr
    · exact ha r hr
    · exact hb r hr) (by rw [szX_app, hl]; omega)]
  simp
end Go.Proofs.Ytjjepgkcgbbmhaa

