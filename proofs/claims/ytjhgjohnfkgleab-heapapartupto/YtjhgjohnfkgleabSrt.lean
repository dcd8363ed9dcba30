import Derived.Test.YtjhgjohnfkgleabDrm
namespace Go.Proofs.Ytjhgjohnfkgleab
set_option maxRecDepth 20000

theorem first_lt {R : List (It Int)} (h : Asc R) (hn : R ≠ []) : ∀ y ∈ rest R, Lt (pt R (fstTo R R.length)) y := by
  intro y hy
  have hpos : 0 < R.length := List.length_pos_iff.2 hn
  have hf := fstTo_lt R R.length hpos
  unfold rest at hy
  obtain ⟨k, hk, rfl⟩ := List.getElem_of_mem hy
  have hk' : k + 1 ≤ R.length - 1 + 0 := by
    rw [List.length_eraseIdx, if_pos hf] at hk; omega
  obtain ⟨j, hj, hjf, e⟩ : ∃ j, j < R.length ∧ j ≠ fstTo R R.length ∧ (R.eraseIdx (fstTo R R.length))[k] = pt R j := by
    rw [List.getElem_eraseIdx]
    split
    · rename_i hlt; exact ⟨k, by omega, by omega, (pt_eq (by omega)).symm⟩
    · rename_i hlt; exact ⟨k + 1, by omega, by omega, (pt_eq (by omega)).symm⟩
  rw [e]
  have hle := fstTo_least h R.length (Nat.le_refl _) j hj
  have hne : (pt R j).turn ≠ (pt R (fstTo R R.length)).turn := fun q => hjf (h.inj hj hf q)
  unfold Lt at *
  omega

theorem drain_sorted (R : List (It Int)) (h : Asc R) : (drainAll R).Pairwise Lt := by
  suffices hh : ∀ n (R : List (It Int)), R.length = n → Asc R → (drainAll R).Pairwise Lt from hh _ R rfl h
  intro n
  induction n with
  | zero => intro R hl _; rw [List.eq_nil_of_length_eq_zero hl]; exact List.Pairwise.nil
  | succ n ih =>
    intro R hl ha
    have hn : R ≠ [] := fun e => by subst e; simp at hl
    have hrl := rest_len hn
    rw [drainAll_step hn]
    refine List.Pairwise.cons (fun y hy => first_lt ha hn y ((drainAll_perm _).mem_iff.1 hy)) (ih (rest R) (by omega) (ha.erase _))

theorem its_pt {keys : List Int} {i : Nat} (h : i < keys.length) : pt (its keys) i = ⟨keys.getD i 0, i, i⟩ := by
  rw [pt_eq (by rw [its_len]; exact h)]
  simp [its]

theorem its_asc (keys : List Int) : Asc (its keys) := by
  intro i j hij hj
  rw [its_len] at hj
  rw [its_pt (by omega), its_pt hj]
  show (i : Int) < j
  omega

theorem its_mem {keys : List Int} {x : It Int} (h : x ∈ its keys) : ∃ i : Nat, i < keys.length ∧ x = ⟨keys.getD i 0, i, i⟩ := by
  obtain ⟨i, hi, e⟩ := exists_pt h
  rw [its_len] at hi
  exact ⟨i, hi, by rw [← e, its_pt hi]⟩

/-- The place a stands ahead of the place b. -/
def Ah (keys : List Int) (a b : Int) : Prop := keys.getD a.toNat 0 < keys.getD b.toNat 0 ∨ keys.getD a.toNat 0 = keys.getD b.toNat 0 ∧ a < b

instance (keys : List Int) (a b : Int) : Decidable (Ah keys a b) := by unfold Ah; infer_instance

theorem Ah.asymm {keys : List Int} {a b : Int} (h : Ah keys a b) : ¬ Ah keys b a := by unfold Ah at *; omega

theorem Ah.trans {keys : List Int} {a b c : Int} (h : Ah keys a b) (k : Ah keys b c) : Ah keys a c := by unfold Ah at *; omega

theorem Ah.total {keys : List Int} {a b : Int} (h : ¬ Ah keys a b) (hne : a ≠ b) : Ah keys b a := by unfold Ah at *; omega

/-- The places from lo on, n of them. -/
def places (lo n : Nat) : List Int := (List.range n).map fun i => ((lo + i : Nat) : Int)

theorem orderOf_perm (keys : List Int) : (orderOf keys).Perm (places 0 keys.length) := by
  unfold orderOf
  refine ((drainAll_perm _).map _).trans ?_
  have : (its keys).map (·.val) = places 0 keys.length := by
    unfold its places
    rw [List.map_map]
    apply List.map_congr_left
    intro i _
    simp
  rw [this]

theorem orderOf_sorted (keys : List Int) : (orderOf keys).Pairwise (Ah keys) := by
  unfold orderOf
  rw [List.pairwise_map]
  refine (drain_sorted _ (its_asc keys)).imp_of_mem ?_
  intro a b ha hb h
  obtain ⟨i, hi, rfl⟩ := its_mem ((drainAll_perm _).mem_iff.1 ha)
  obtain ⟨j, hj, rfl⟩ := its_mem ((drainAll_perm _).mem_iff.1 hb)
  unfold Lt at h
  unfold Ah
  simpa using h

theorem sorted_unique {keys l l' : List Int} (h : l.Pairwise (Ah keys)) (h' : l'.Pairwise (Ah keys)) (hp : l.Perm l') : l = l' :=
  List.Perm.eq_of_pairwise (le := Ah keys) (fun _ _ _ _ x y => absurd y x.asymm) h h' hp

theorem order_unique {keys l : List Int} (h : l.Pairwise (Ah keys)) (hp : l.Perm (places 0 keys.length)) : l = orderOf keys :=
  sorted_unique h (orderOf_sorted keys) (hp.trans (orderOf_perm keys).symm)

theorem places_mem {lo n : Nat} {x : Int} (h : x ∈ places lo n) : (lo : Int) ≤ x ∧ x < (lo : Int) + n := by
  unfold places at h
  obtain ⟨i, hi, rfl⟩ := List.mem_map.1 h
  have := List.mem_range.1 hi
  omega

theorem places_split (lo n m : Nat) : places lo (n + m) = places lo n ++ places (lo + n) m := by
  unfold places
  rw [List.range_add, List.map_append, List.map_map]
  congr 1
  apply List.map_congr_left
  intro i _
  simp only [Function.comp]
  omega

theorem places_len (lo n : Nat) : (places lo n).length = n := by simp [places]

theorem order_mem {keys : List Int} {x : Int} (h : x ∈ orderOf keys) : 0 ≤ x ∧ x < keys.length := by
  have := places_mem ((orderOf_perm keys).mem_iff.1 h)
  omega

def mrgL (keys : List Int) : List Int → List Int → List Int
  | [], ds => ds
  | a :: cs, [] => a :: cs
  | a :: cs, b :: ds => if Ah keys a b then a :: mrgL keys cs (b :: ds) else b :: mrgL keys (a :: cs) ds
termination_by cs ds => cs.length + ds.length

theorem mrgL_nil (keys cs : List Int) : mrgL keys cs [] = cs := by cases cs <;> simp [mrgL]

theorem mrgL_perm (keys : List Int) : ∀ cs ds : List Int, (mrgL keys cs ds).Perm (cs ++ ds)
  | [], ds => by simp [mrgL]
  | a :: cs, [] => by simp [mrgL]
  | a :: cs, b :: ds => by
    rw [mrgL]
    split
    · exact (mrgL_perm keys cs (b :: ds)).cons a
    · refine ((mrgL_perm keys (a :: cs) ds).cons b).trans ?_
      exact (List.perm_middle (a := b) (l₁ := a :: cs) (l₂ := ds)).symm
termination_by cs ds => cs.length + ds.length

theorem mrgL_sorted (keys : List Int) : ∀ cs ds : List Int, cs.Pairwise (Ah keys) → ds.Pairwise (Ah keys) → (∀ a ∈ cs, ∀ b ∈ ds, a ≠ b) → (mrgL keys cs ds).Pairwise (Ah keys)
  | [], ds, _, h, _ => by simpa [mrgL] using h
  | a :: cs, [], h, _, _ => by simpa [mrgL] using h
  | a :: cs, b :: ds, ha, hb, hne => by
    rw [mrgL]
    have ha' := List.pairwise_cons.1 ha
    have hb' := List.pairwise_cons.1 hb
    split
    · rename_i hab
      refine List.Pairwise.cons (fun y hy => ?_) (mrgL_sorted keys cs (b :: ds) ha'.2 hb fun x hx y hy => hne x (List.mem_cons_of_mem _ hx) y hy)
      rcases List.mem_append.1 ((mrgL_perm keys _ _).mem_iff.1 hy) with h1 | h1
      · exact ha'.1 y h1
      · rcases List.mem_cons.1 h1 with rfl | h2
        · exact hab
        · exact hab.trans (hb'.1 y h2)
    · rename_i hab
      have hba : Ah keys b a := Ah.total hab (hne a List.mem_cons_self b List.mem_cons_self)
      refine List.Pairwise.cons (fun y hy => ?_) (mrgL_sorted keys (a :: cs) ds ha hb'.2 fun x hx y hy => hne x hx y (List.mem_cons_of_mem _ hy))
      rcases List.mem_append.1 ((mrgL_perm keys _ _).mem_iff.1 hy) with h1 | h1
      · rcases List.mem_cons.1 h1 with rfl | h2
        · exact hba
        · exact hba.trans (ha'.1 y h2)
      · exact hb'.1 y h1
termination_by cs ds => cs.length + ds.length

/-- What is still to be merged begins with. -/
theorem mrgL_a {keys cs ds : List Int} {i j : Nat} (hi : i < cs.length) (h : j = ds.length ∨ (j < ds.length ∧ Ah keys (cs.getD i 0) (ds.getD j 0))) : mrgL keys (cs.drop i) (ds.drop j) = cs.getD i 0 :: mrgL keys (cs.drop (i + 1)) (ds.drop j) := by
  have e1 : cs.drop i = cs.getD i 0 :: cs.drop (i + 1) := by rw [List.drop_eq_getElem_cons hi]; simp [hi]
  rcases h with h | ⟨hj, hab⟩
  · rw [h, List.drop_length, mrgL_nil, mrgL_nil, e1]
  · have e2 : ds.drop j = ds.getD j 0 :: ds.drop (j + 1) := by rw [List.drop_eq_getElem_cons hj]; simp [hj]
    rw [e1, e2, mrgL, if_pos hab]

theorem mrgL_b {keys cs ds : List Int} {i j : Nat} (hj : j < ds.length) (h : cs.length ≤ i ∨ (i < cs.length ∧ ¬ Ah keys (cs.getD i 0) (ds.getD j 0))) : mrgL keys (cs.drop i) (ds.drop j) = ds.getD j 0 :: mrgL keys (cs.drop i) (ds.drop (j + 1)) := by
  have e2 : ds.drop j = ds.getD j 0 :: ds.drop (j + 1) := by rw [List.drop_eq_getElem_cons hj]; simp [hj]
  rcases h with h | ⟨hi, hab⟩
  · rw [List.drop_eq_nil_of_le h, e2]; simp [mrgL]
  · have e1 : cs.drop i = cs.getD i 0 :: cs.drop (i + 1) := by rw [List.drop_eq_getElem_cons hi]; simp [hi]
    rw [e1, e2, mrgL, if_neg hab]

end Go.Proofs.Ytjhgjohnfkgleab
