import Derived.Test.YtmbgjkghcpkoiaaGQc
namespace Go.Proofs.Ytmbgjkghcpkoiaa.H4
set_option maxRecDepth 20000

def drainL : Nat → List (It Int) → List (It Int)
  | 0, _ => []
  | k + 1, R => if R = [] then [] else pt R (fstTo R R.length) :: drainL k (rest R)

def drainAll (R : List (It Int)) : List (It Int) := drainL R.length R

theorem drainAll_nil : drainAll [] = [] := rfl

theorem drainAll_step {R : List (It Int)} (h : R ≠ []) : drainAll R = pt R (fstTo R R.length) :: drainAll (rest R) := by
  have := rest_len h
  unfold drainAll
  obtain ⟨k, hk⟩ : ∃ k, R.length = k + 1 := ⟨R.length - 1, by have := List.length_pos_iff.2 h; omega⟩
  have e : (rest R).length = k := by omega
  rw [e]
  conv => lhs; rw [show drainL R.length R = drainL (k + 1) R by rw [hk]]
  show (if R = [] then [] else _) = _
  rw [if_neg h]

theorem drainAll_perm (R : List (It Int)) : (drainAll R).Perm R := by
  suffices h : ∀ n (R : List (It Int)), R.length = n → (drainAll R).Perm R from h _ R rfl
  intro n
  induction n with
  | zero => intro R h; rw [List.eq_nil_of_length_eq_zero h]; exact List.Perm.refl _
  | succ n ih =>
    intro R h
    have hn : R ≠ [] := fun e => by subst e; simp at h
    have hl := rest_len hn
    rw [drainAll_step hn]
    refine ((ih (rest R) (by omega)).cons _).trans ?_
    exact erase_perm (fstTo_lt R R.length (by omega))

/-- The places, each under its key. -/
def its (keys : List Int) : List (It Int) := (List.range keys.length).map fun i => ⟨keys.getD i 0, i, i⟩

theorem its_len (keys : List Int) : (its keys).length = keys.length := by simp [its]

theorem its_take {keys : List Int} {k : Nat} (h : k < keys.length) : (its keys).take (k + 1) = (its keys).take k ++ [It.mk (keys.getD k 0) (k : Int) (k : Int)] := by
  rw [List.take_succ_eq_append_getElem (by rw [its_len]; exact h)]
  simp [its]

def orderOf (keys : List Int) : List Int := (drainAll (its keys)).map (·.val)

theorem orderOf_len (keys : List Int) : (orderOf keys).length = keys.length := by
  unfold orderOf
  rw [List.length_map, (drainAll_perm _).length_eq, its_len]

theorem take_len (keys : List Int) {k : Nat} (h : k ≤ keys.length) : ((its keys).take k).length = k := by rw [List.length_take, its_len]; omega

theorem its_all (keys : List Int) : (its keys).take keys.length = its keys := List.take_of_length_le (by rw [its_len]; exact Nat.le_refl _)

theorem pkV_eq {R : List (It Int)} (h : R ≠ []) : pkV R = (pt R (fstTo R R.length)).val := by unfold pkV; rw [if_neg h]
theorem pkK_eq {R : List (It Int)} (h : R ≠ []) : pkK R = (pt R (fstTo R R.length)).key := by unfold pkK; rw [if_neg h]

end Go.Proofs.Ytmbgjkghcpkoiaa.H4

namespace Go.Proofs.Ytmbgjkghcpkoiaa.H4
set_option maxRecDepth 20000

theorem first_lt {R : List (It Int)} (h : Asc R) (hn : R ≠ []) : ∀ y ∈ rest R, Lt (pt R (fstTo R R.length)) y := by
  intro y hy
  have hpos : 0 < R.length := List.length_pos_iff.2 hn
  have hf := fstTo_lt R R.length hpos
  unfold rest at hy
  obtain ⟨k, hk, rfl⟩ := List.getElem_of_mem hy
  have hk' : k + 1 ≤ R.length - 1 + 0 := by
    rw [List.length_eraseIdx, if_pos hf] at hk; omega
  obtain ⟨j, hj, hjf, e⟩ : ∃ j, j < R.length ∧ j ≠ fstTo R R.length ∧ (R.eraseIdx (fstTo R R.length))[k] = pt R j := by
    rw [List.getElem_eraseIdx]
    split
    · rename_i hlt; exact ⟨k, by omega, by omega, (pt_eq (by omega)).symm⟩
    · rename_i hlt; exact ⟨k + 1, by omega, by omega, (pt_eq (by omega)).symm⟩
  rw [e]
  have hle := fstTo_least h R.length (Nat.le_refl _) j hj
  have hne : (pt R j).turn ≠ (pt R (fstTo R R.length)).turn := fun q => hjf (h.inj hj hf q)
  unfold Lt at *
  omega

theorem drain_sorted (R : List (It Int)) (h : Asc R) : (drainAll R).Pairwise Lt := by
  suffices hh : ∀ n (R : List (It Int)), R.length = n → Asc R → (drainAll R).Pairwise Lt from hh _ R rfl h
  intro n
  induction n with
  | zero => intro R hl _; rw [List.eq_nil_of_length_eq_zero hl]; exact List.Pairwise.nil
  | succ n ih =>
    intro R hl ha
    have hn : R ≠ [] := fun e => by subst e; simp at hl
    have hrl := rest_len hn
    rw [drainAll_step hn]
    refine List.Pairwise.cons (fun y hy => first_lt ha hn y ((drainAll_perm _).mem_iff.1 hy)) (ih (rest R) (by omega) (ha.erase _))

theorem its_pt {keys : List Int} {i : Nat} (h : i < keys.length) : pt (its keys) i = ⟨keys.getD i 0, i, i⟩ := by
  rw [pt_eq (by rw [its_len]; exact h)]
  simp [its]

theorem its_asc (keys : List Int) : Asc (its keys) := by
  intro i j hij hj
  rw [its_len] at hj
  rw [its_pt (by omega), its_pt hj]
  show (i : Int) < j
  omega

theorem its_mem {keys : List Int} {x : It Int} (h : x ∈ its keys) : ∃ i : Nat, i < keys.length ∧ x = ⟨keys.getD i 0, i, i⟩ := by
  obtain ⟨i, hi, e⟩ := exists_pt h
  rw [its_len] at hi
  exact ⟨i, hi, by rw [← e, its_pt hi]⟩

/-- The place a stands ahead of the place b. -/
def Ah (keys : List Int) (a b : Int) : Prop := keys.getD a.toNat 0 < keys.getD b.toNat 0 ∨ keys.getD a.toNat 0 = keys.getD b.toNat 0 ∧ a < b

instance (keys : List Int) (a b : Int) : Decidable (Ah keys a b) := by unfold Ah; infer_instance

theorem Ah.asymm {keys : List Int} {a b : Int} (h : Ah keys a b) : ¬ Ah keys b a := by unfold Ah at *; omega

theorem Ah.trans {keys : List Int} {a b c : Int} (h : Ah keys a b) (k : Ah keys b c) : Ah keys a c := by unfold Ah at *; omega

theorem Ah.total {keys : List Int} {a b : Int} (h : ¬ Ah keys a b) (hne : a ≠ b) : Ah keys b a := by unfold Ah at *; omega

/-- The places from lo on, n of them. -/
def places (lo n : Nat) : List Int := (List.range n).map fun i => ((lo + i : Nat) : Int)

theorem orderOf_perm (keys : List Int) : (orderOf keys).Perm (places 0 keys.length) := by
  unfold orderOf
  refine ((drainAll_perm _).map _).trans ?_
  have : (its keys).map (·.val) = places 0 keys.length := by
    unfold its places
    rw [List.map_map]
    apply List.map_congr_left
    intro i _
    simp
  rw [this]

theorem orderOf_sorted (keys : List Int) : (orderOf keys).Pairwise (Ah keys) := by
  unfold orderOf
  rw [List.pairwise_map]
  refine (drain_sorted _ (its_asc keys)).imp_of_mem ?_
  intro a b ha hb h
  obtain ⟨i, hi, rfl⟩ := its_mem ((drainAll_perm _).mem_iff.1 ha)
  obtain ⟨j, hj, rfl⟩ := its_mem ((drainAll_perm _).mem_iff.1 hb)
  unfold Lt at h
  unfold Ah
  simpa using h

theorem sorted_unique {keys l l' : List Int} (h : l.Pairwise (Ah keys)) (h' : l'.Pairwise (Ah keys)) (hp : l.Perm l') : l = l' :=
  List.Perm.eq_of_pairwise (le := Ah keys) (fun _ _ _ _ x y => absurd y x.asymm) h h' hp

theorem order_unique {keys l : List Int} (h : l.Pairwise (Ah keys)) (hp : l.Perm (places 0 keys.length)) : l = orderOf keys :=
  sorted_unique h (orderOf_sorted keys) (hp.trans (orderOf_perm keys).symm)

theorem places_mem {lo n : Nat} {x : Int} (h : x ∈ places lo n) : (lo : Int) ≤ x ∧ x < (lo : Int) + n := by
  unfold places at h
  obtain ⟨i, hi, rfl⟩ := List.mem_map.1 h
  have := List.mem_range.1 hi
  omega

theorem places_split (lo n m : Nat) : places lo (n + m) = places lo n ++ places (lo + n) m := by
  unfold places
  rw [List.range_add, List.map_append, List.map_map]
  congr 1
  apply List.map_congr_left
  intro i _
  simp only [Function.comp]
  omega

theorem places_len (lo n : Nat) : (places lo n).length = n := by simp [places]

theorem order_mem {keys : List Int} {x : Int} (h : x ∈ orderOf keys) : 0 ≤ x ∧ x < keys.length := by
  have := places_mem ((orderOf_perm keys).mem_iff.1 h)
  omega

def mrgL (keys : List Int) : List Int → List Int → List Int
  | [], ds => ds
  | a :: cs, [] => a :: cs
  | a :: cs, b :: ds => if Ah keys a b then a :: mrgL keys cs (b :: ds) else b :: mrgL keys (a :: cs) ds
termination_by cs ds => cs.length + ds.length

theorem mrgL_nil (keys cs : List Int) : mrgL keys cs [] = cs := by cases cs <;> simp [mrgL]

theorem mrgL_perm (keys : List Int) : ∀ cs ds : List Int, (mrgL keys cs ds).Perm (cs ++ ds)
  | [], ds => by simp [mrgL]
  | a :: cs, [] => by simp [mrgL]
  | a :: cs, b :: ds => by
    rw [mrgL]
    split
    · exact (mrgL_perm keys cs (b :: ds)).cons a
    · refine ((mrgL_perm keys (a :: cs) ds).cons b).trans ?_
      exact (List.perm_middle (a := b) (l₁ := a :: cs) (l₂ := ds)).symm
termination_by cs ds => cs.length + ds.length

theorem mrgL_sorted (keys : List Int) : ∀ cs ds : List Int, cs.Pairwise (Ah keys) → ds.Pairwise (Ah keys) → (∀ a ∈ cs, ∀ b ∈ ds, a ≠ b) → (mrgL keys cs ds).Pairwise (Ah keys)
  | [], ds, _, h, _ => by simpa [mrgL] using h
  | a :: cs, [], h, _, _ => by simpa [mrgL] using h
  | a :: cs, b :: ds, ha, hb, hne => by
    rw [mrgL]
    have ha' := List.pairwise_cons.1 ha
    have hb' := List.pairwise_cons.1 hb
    split
    · rename_i hab
      refine List.Pairwise.cons (fun y hy => ?_) (mrgL_sorted keys cs (b :: ds) ha'.2 hb fun x hx y hy => hne x (List.mem_cons_of_mem _ hx) y hy)
      rcases List.mem_append.1 ((mrgL_perm keys _ _).mem_iff.1 hy) with h1 | h1
      · exact ha'.1 y h1
      · rcases List.mem_cons.1 h1 with rfl | h2
        · exact hab
        · exact hab.trans (hb'.1 y h2)
    · rename_i hab
      have hba : Ah keys b a := Ah.total hab (hne a List.mem_cons_self b List.mem_cons_self)
      refine List.Pairwise.cons (fun y hy => ?_) (mrgL_sorted keys (a :: cs) ds ha hb'.2 fun x hx y hy => hne x hx y (List.mem_cons_of_mem _ hy))
      rcases List.mem_append.1 ((mrgL_perm keys _ _).mem_iff.1 hy) with h1 | h1
      · rcases List.mem_cons.1 h1 with rfl | h2
        · exact hba
        · exact hba.trans (ha'.1 y h2)
      · exact hb'.1 y h1
termination_by cs ds => cs.length + ds.length

/-- What is still to be merged begins with. -/
theorem mrgL_a {keys cs ds : List Int} {i j : Nat} (hi : i < cs.length) (h : j = ds.length ∨ (j < ds.length ∧ Ah keys (cs.getD i 0) (ds.getD j 0))) : mrgL keys (cs.drop i) (ds.drop j) = cs.getD i 0 :: mrgL keys (cs.drop (i + 1)) (ds.drop j) := by
  have e1 : cs.drop i = cs.getD i 0 :: cs.drop (i + 1) := by rw [List.drop_eq_getElem_cons hi]; simp [hi]
  rcases h with h | ⟨hj, hab⟩
  · rw [h, List.drop_length, mrgL_nil, mrgL_nil, e1]
  · have e2 : ds.drop j = ds.getD j 0 :: ds.drop (j + 1) := by rw [List.drop_eq_getElem_cons hj]; simp [hj]
    rw [e1, e2, mrgL, if_pos hab]

theorem mrgL_b {keys cs ds : List Int} {i j : Nat} (hj : j < ds.length) (h : cs.length ≤ i ∨ (i < cs.length ∧ ¬ Ah keys (cs.getD i 0) (ds.getD j 0))) : mrgL keys (cs.drop i) (ds.drop j) = ds.getD j 0 :: mrgL keys (cs.drop i) (ds.drop (j + 1)) := by
  have e2 : ds.drop j = ds.getD j 0 :: ds.drop (j + 1) := by rw [List.drop_eq_getElem_cons hj]; simp [hj]
  rcases h with h | ⟨hi, hab⟩
  · rw [List.drop_eq_nil_of_le h, e2]; simp [mrgL]
  · have e1 : cs.drop i = cs.getD i 0 :: cs.drop (i + 1) := by rw [List.drop_eq_getElem_cons hi]; simp [hi]
    rw [e1, e2, mrgL, if_neg hab]

end Go.Proofs.Ytmbgjkghcpkoiaa.H4

namespace Go.Proofs.Ytmbgjkghcpkoiaa.H4
open Go.RowKit Go.Maps
set_option maxRecDepth 20000

def cellsR (x : It Int) : List Value := [.int .i64 x.key, .int .i64 x.val]

def flatR (xs : List (It Int)) : List Value := xs.flatMap cellsR

theorem flatR_length (xs : List (It Int)) : (flatR xs).length = xs.length * 2 := by
  induction xs with
  | nil => rfl
  | cons a r ih => unfold flatR at ih ⊢; rw [List.flatMap_cons, List.length_append, ih]; simp [cellsR]; omega

theorem flatR_snoc (xs : List (It Int)) (x : It Int) : flatR (xs ++ [x]) = flatR xs ++ cellsR x := by simp [flatR]

theorem flatR_get : ∀ {xs : List (It Int)} {i : Nat} {x : It Int}, xs[i]? = some x → ∀ j, j < 2 → (flatR xs)[i * 2 + j]? = (cellsR x)[j]?
  | a :: r, 0, x, h, j, hj => by
    simp only [List.getElem?_cons_zero, Option.some.injEq] at h
    subst h
    unfold flatR
    rw [List.flatMap_cons, List.getElem?_append_left (by simp [cellsR]; omega)]
    simp
  | a :: r, i + 1, x, h, j, hj => by
    simp only [List.getElem?_cons_succ] at h
    have ih := flatR_get (xs := r) h j hj
    unfold flatR at ih ⊢
    rw [List.flatMap_cons, List.getElem?_append_right (by simp [cellsR]; omega)]
    rw [show (i + 1) * 2 + j - (cellsR a).length = i * 2 + j by simp [cellsR]; omega]
    exact ih

theorem fst_step {R : List (It Int)} (k : Nat) : fstTo R (k + 1) = if (pt R k).key < (pt R (fstTo R k)).key then k else fstTo R k := rfl

end Go.Proofs.Ytmbgjkghcpkoiaa.H4

namespace Go.Proofs.Ytmbgjkghcpkoiaa.H4
open Go.RowKit Go.Maps
set_option maxRecDepth 20000

def skip (R : List (It Int)) (f k : Nat) : List (It Int) := (R.take k).eraseIdx f

theorem skip_at {R : List (It Int)} {f k : Nat} (h : k < R.length) (hk : k = f) : skip R f (k + 1) = skip R f k := by
  subst hk
  unfold skip
  have hl : (R.take k).length = k := by simp; omega
  rw [List.take_succ_eq_append_getElem h, List.eraseIdx_append_of_length_le (by omega), hl, Nat.sub_self, List.eraseIdx_of_length_le (l := R.take k) (by omega)]
  simp

theorem skip_on {R : List (It Int)} {f k : Nat} (h : k < R.length) (hk : k ≠ f) : skip R f (k + 1) = skip R f k ++ [pt R k] := by
  unfold skip
  rw [List.take_succ_eq_append_getElem h, pt_eq h]
  by_cases hl : f < k
  · rw [List.eraseIdx_append_of_lt_length (by simp; omega)]
  · rw [List.eraseIdx_of_length_le (by simp; omega), List.eraseIdx_of_length_le (by simp; omega)]

theorem skip_all (R : List (It Int)) (f : Nat) : skip R f R.length = R.eraseIdx f := by unfold skip; rw [List.take_length]

theorem skip_len (R : List (It Int)) (f k : Nat) : (skip R f k).length ≤ R.length := by
  unfold skip
  exact Nat.le_trans (List.length_eraseIdx_le ..) (by simp; omega)

end Go.Proofs.Ytmbgjkghcpkoiaa.H4

namespace Go.Proofs.Ytmbgjkghcpkoiaa.H4
open Go.RowKit Go.Maps
set_option maxRecDepth 20000

theorem World.ownsRow.base0 {w : World} {base : Nat} {e : TypeId} {size : Nat} {v : Value} {n : Nat} {xs : List Value} (h : w.ownsRow base e size v n xs) : w.ownsRow 0 e size v n xs := by
  refine ⟨h.1, ?_⟩
  rcases h.2 with h2 | ⟨g, cap, cur, rfl, h1, r⟩
  · exact .inl h2
  · exact .inr ⟨g, cap, cur, rfl, Nat.zero_le _, r⟩

end Go.Proofs.Ytmbgjkghcpkoiaa.H4

namespace Go.Proofs.Ytmbgjkghcpkoiaa.H4
open Go.RowKit Go.Maps
set_option maxRecDepth 20000

/-- Something in memory, with the blocks that are its own. -/
structure Thing where
  P : World → (Nat → Nat) → Prop
  far : ∀ {w w' : World} {K : Nat → Nat}, P w K → w.heap.size ≤ w'.heap.size → (∀ k, K k ≠ 0 → w'.heap[k]? = w.heap[k]?) → P w' K
  sup : ∀ {w : World} {K : Nat → Nat}, P w K → ∀ k, K k ≠ 0 → k < w.heap.size

/-- A block. -/
def tb (g : Nat) (o : Obj) : Thing :=
  ⟨fun w K => w.heap[g]? = some o ∧ K g ≠ 0 ∧ ∀ k, K k ≠ 0 → k < w.heap.size,
   fun h a b => ⟨(b g h.2.1).trans h.1, h.2.1, fun k hk => Nat.lt_of_lt_of_le (h.2.2 k hk) a⟩, fun h => h.2.2⟩

structure Herd (W w : World) (xs : List ((Nat → Nat) × Thing)) : Prop where
  bel : Below W.heap.size W w
  rep : ∀ (i : Nat) (d : (Nat → Nat) × Thing), xs[i]? = some d → d.2.P w d.1
  up : ∀ (i : Nat) (d : (Nat → Nat) × Thing), xs[i]? = some d → ∀ k, d.1 k ≠ 0 → W.heap.size ≤ k
  sep : ∀ (i j : Nat) (d e : (Nat → Nat) × Thing), xs[i]? = some d → xs[j]? = some e → i ≠ j → ∀ k, d.1 k ≠ 0 → e.1 k = 0

theorem Thing.zero {x : Thing} {w : World} {K : Nat → Nat} (h : x.P w K) {k : Nat} (hk : w.heap.size ≤ k) : K k = 0 := by
  by_cases e : K k = 0
  · exact e
  · have := x.sup h k e; omega

theorem get_set {α : Type} {l : List α} {x y : α} {i j : Nat} (h : (l.set j x)[i]? = some y) : (i ≠ j ∧ l[i]? = some y) ∨ (i = j ∧ y = x) := by
  by_cases e : j = i
  · subst e
    rw [List.getElem?_set_self'] at h
    obtain ⟨u, hu, e⟩ := Option.map_eq_some_iff.1 h
    exact .inr ⟨rfl, e.symm⟩
  · rw [List.getElem?_set_ne e] at h
    exact .inl ⟨fun e2 => e e2.symm, h⟩

theorem Herd.nil (W : World) : Herd W W [] := ⟨Below.refl _ _, (fun i d hd => by simp at hd), (fun i d hd => by simp at hd), (fun i j d e hd => by simp at hd)⟩

theorem Herd.below {W w w' : World} {xs : List ((Nat → Nat) × Thing)} (h : Herd W w xs) (hb : Below w.heap.size w w') : Herd W w' xs :=
  ⟨h.bel.trans (hb.mono h.bel.size), fun i d hd => d.2.far (h.rep i d hd) hb.size fun k hk => hb.block k (d.2.sup (h.rep i d hd) k hk), h.up, h.sep⟩

theorem Herd.drewN {W w : World} {xs : List ((Nat → Nat) × Thing)} (h : Herd W w xs) (n : Nat) : Herd W (w.drewN n) xs := h.below (below_drewN (Below.refl _ _) n)

theorem Herd.op {W w w' : World} {xs : List ((Nat → Nat) × Thing)} (h : Herd W w xs) (n : Nat) {K K' : Nat → Nat} {x x' : Thing} (hn : xs[n]? = some (K, x)) (hr : x'.P w' K') (hF : Fr K K' w w') : Herd W w' (xs.set n (K', x')) := by
  have hs := h.bel.size
  have hup := h.up n _ hn
  refine ⟨h.bel.trans (hF.below hup hs), fun i d hd => ?_, fun i d hd k hk => ?_, fun i j d e hd he hne k hk => ?_⟩
  · rcases get_set hd with ⟨hne, hd⟩ | ⟨_, rfl⟩
    · exact d.2.far (h.rep i d hd) hF.size fun k hk => hF.block k (d.2.sup (h.rep i d hd) k hk) (h.sep i n d _ hd hn hne k hk)
    · exact hr
  · rcases get_set hd with ⟨hne, hd⟩ | ⟨_, rfl⟩
    · exact h.up i d hd k hk
    · exact hF.up hup hs k hk
  · rcases get_set hd with ⟨hn1, hd⟩ | ⟨e1, rfl⟩
    · rcases get_set he with ⟨hn2, he⟩ | ⟨e2, rfl⟩
      · exact h.sep i j d e hd he hne k hk
      · exact (hF.role k (d.2.sup (h.rep i d hd) k hk)).trans (h.sep i n d _ hd hn hn1 k hk)
    · rcases get_set he with ⟨hn2, he⟩ | ⟨e2, rfl⟩
      · by_cases hl : k < w.heap.size
        · exact h.sep n j _ e hn he (fun e3 => hn2 e3.symm) k (fun e0 => hk ((hF.role k hl).trans e0))
        · exact Thing.zero (h.rep j e he) (by omega)
      · omega

theorem get_snoc {α : Type} {l : List α} {x y : α} {i : Nat} (h : (l ++ [x])[i]? = some y) : (l[i]? = some y) ∨ (i = l.length ∧ y = x) := by
  by_cases hi : i < l.length
  · rw [List.getElem?_append_left hi] at h
    exact .inl h
  · rw [List.getElem?_append_right (by omega)] at h
    have := (List.getElem?_eq_some_iff.1 h).1
    simp at this
    have e : i = l.length := by omega
    subst e
    simp at h
    exact .inr ⟨rfl, h.symm⟩

theorem Herd.push {W w w' : World} {xs : List ((Nat → Nat) × Thing)} (h : Herd W w xs) (hb : Below w.heap.size w w') {K : Nat → Nat} {x : Thing} (hr : x.P w' K) (hu : ∀ k, K k ≠ 0 → w.heap.size ≤ k) : Herd W w' (xs ++ [(K, x)]) := by
  have h' := h.below hb
  have hs := h.bel.size
  refine ⟨h'.bel, fun i d hd => ?_, fun i d hd k hk => ?_, fun i j d e hd he hne k hk => ?_⟩
  · rcases get_snoc hd with hd | ⟨_, rfl⟩
    · exact h'.rep i d hd
    · exact hr
  · rcases get_snoc hd with hd | ⟨_, rfl⟩
    · exact h.up i d hd k hk
    · have := hu k hk; omega
  · rcases get_snoc hd with hd | ⟨e1, rfl⟩
    · rcases get_snoc he with he | ⟨e2, rfl⟩
      · exact h.sep i j d e hd he hne k hk
      · by_cases e0 : K k = 0
        · exact e0
        · exact absurd (Thing.zero (h.rep i d hd) (hu k e0)) hk
    · rcases get_snoc he with he | ⟨e2, rfl⟩
      · exact Thing.zero (h.rep j e he) (hu k hk)
      · omega

/-- What owns nothing may stand in front. -/
theorem Herd.front {W w : World} {xs : List ((Nat → Nat) × Thing)} (H : Herd W w xs) {x : Thing} (hx : x.P w fun _ => 0) : Herd W w ((fun _ => 0, x) :: xs) := by
  refine ⟨H.bel, fun i d hd => ?_, fun i d hd => ?_, fun i j d e hd he hne k hk => ?_⟩
  · cases i with
    | zero => simp at hd; subst hd; exact hx
    | succ i => exact H.rep i d (by simpa using hd)
  · cases i with
    | zero => simp at hd; subst hd; intro k hk; exact absurd rfl hk
    | succ i => exact H.up i d (by simpa using hd)
  · cases i with
    | zero => simp at hd; subst hd; exact absurd rfl hk
    | succ i =>
      cases j with
      | zero => simp at he; subst he; rfl
      | succ j => exact H.sep i j d e (by simpa using hd) (by simpa using he) (by omega) k hk

/-- A herd without its last ones. -/
theorem Herd.cut {W w : World} {xs ys : List ((Nat → Nat) × Thing)} (h : Herd W w (xs ++ ys)) : Herd W w xs := by
  have e : ∀ (i : Nat) (d : (Nat → Nat) × Thing), xs[i]? = some d → (xs ++ ys)[i]? = some d := fun i d hd => by
    rw [List.getElem?_append_left (List.getElem?_eq_some_iff.1 hd).1]; exact hd
  exact ⟨h.bel, fun i d hd => h.rep i d (e i d hd), fun i d hd => h.up i d (e i d hd), fun i j d d' hd hd' => h.sep i j d d' (e i d hd) (e j d' hd')⟩

/-- A herd without its first. -/
theorem Herd.rest {W w : World} {xs : List ((Nat → Nat) × Thing)} {y : (Nat → Nat) × Thing} (h : Herd W w (y :: xs)) : Herd W w xs :=
  ⟨h.bel, fun i d hd => h.rep (i + 1) d (by simpa using hd), fun i d hd => h.up (i + 1) d (by simpa using hd), fun i j d d' hd hd' hne => h.sep (i + 1) (j + 1) d d' (by simpa using hd) (by simpa using hd') (by omega)⟩

theorem set_at {α : Type} (xs : List α) (y z : α) (ys : List α) : (xs ++ y :: ys).set xs.length z = xs ++ z :: ys := by
  induction xs with
  | nil => rfl
  | cons a r ih => simp only [List.cons_append, List.length_cons, List.set_cons_succ, ih]

theorem get_at {α : Type} (xs : List α) (y : α) (ys : List α) : (xs ++ y :: ys)[xs.length]? = some y := by simp

/-- A heap of the program. -/
def tq (g : Nat) (R : List (It Int)) (n : Nat) : Thing := ⟨fun w K => Hq w K g R n, fun h a b => h.far a b, fun h => h.sup⟩

/-- A list of ints. -/
def tl (v : Value) (l : List Int) : Thing :=
  ⟨fun w K => OI w 0 v l ∧ (∀ k, v.ownBlock = some k → K k ≠ 0) ∧ ∀ k, K k ≠ 0 → k < w.heap.size,
   fun h a b => ⟨h.1.move fun k hk => b k (h.2.1 k hk), h.2.1, fun k hk => Nat.lt_of_lt_of_le (h.2.2 k hk) a⟩, fun h => h.2.2⟩

theorem one_K (k g : Nat) : (if k = g then 1 else 0) ≠ 0 ↔ k = g := by by_cases h : k = g <;> simp [h]

theorem hnew {W w : World} {xs : List ((Nat → Nat) × Thing)} (H : Herd W w xs) : Calls Try.prog 20 #[] w fun e w' => ∃ g K, e = .returned (.pointer (some ⟨g, 0, none⟩)) ∧ Herd W w' (xs ++ [(K, tq g [] 0)]) := by
  refine (new_any w).mono ?_
  rintro e w1 ⟨rfl, rfl⟩
  refine ⟨_, fun k => if k = w.heap.size then 1 else 0, rfl, H.push ((Below.refl _ _).alloc (Nat.le_refl _) _) ⟨.inl ⟨rfl, rfl, heap_alloc_new w _⟩, ?_, fun k hk => ?_⟩ fun k hk => ?_⟩
  · simp
  · have := (one_K k _).1 hk
    rw [size_alloc']; omega
  · have := (one_K k _).1 hk
    omega

theorem hlen {W w : World} {xs : List ((Nat → Nat) × Thing)} (H : Herd W w xs) (i : Nat) {K : Nat → Nat} {g : Nat} {R : List (It Int)} {n : Nat} (hi : xs[i]? = some (K, tq g R n)) :
    Calls Try.prog 32 #[.pointer (some ⟨g, 0, none⟩)] w fun e w' => e = .returned (.int .i64 R.length) ∧ w' = w := len_any (H.rep i _ hi)

theorem hpush {W w : World} {xs : List ((Nat → Nat) × Thing)} (H : Herd W w xs) (i : Nat) {K : Nat → Nat} {g : Nat} {R : List (It Int)} {n : Nat} (hi : xs[i]? = some (K, tq g R n)) (key val : Int) (hR : R.length ≤ 5864062014804) (hn : n ≤ 10000000000000) :
    Calls Try.prog 21 #[.pointer (some ⟨g, 0, none⟩), .int .i64 key, .int .i64 val] w fun e w' => e = .returned (.tuple #[]) ∧ ∃ K', Herd W w' (xs.set i (K', tq g (R ++ [It.mk key (n : Int) val]) (n + 1))) := by
  refine (push_any (H.rep i _ hi) key val hR hn).mono ?_
  rintro e w1 ⟨rfl, K', h1, h2⟩
  exact ⟨rfl, K', H.op i hi (x' := tq g (R ++ [It.mk key (n : Int) val]) (n + 1)) h1 h2⟩

theorem hpeek {W w : World} {xs : List ((Nat → Nat) × Thing)} (H : Herd W w xs) (i : Nat) {K : Nat → Nat} {g : Nat} {R : List (It Int)} {n : Nat} (hi : xs[i]? = some (K, tq g R n)) :
    Calls Try.prog 30 #[.pointer (some ⟨g, 0, none⟩)] w fun e w' => e = .returned (.tuple #[.int .i64 (pkK R), .int .i64 (pkV R), .bool (pkB R)]) ∧ Herd W w' xs := by
  refine (peek_any (H.rep i _ hi)).mono ?_
  rintro e w1 ⟨rfl, q, rfl⟩
  exact ⟨rfl, H.drewN q⟩

theorem hpop {W w : World} {xs : List ((Nat → Nat) × Thing)} (H : Herd W w xs) (i : Nat) {K : Nat → Nat} {g : Nat} {R : List (It Int)} {n : Nat} (hi : xs[i]? = some (K, tq g R n)) (hR : R.length ≤ 6000000000000) :
    Calls Try.prog 26 #[.pointer (some ⟨g, 0, none⟩)] w fun e w' => e = .returned (.tuple #[.int .i64 (pkK R), .int .i64 (pkV R), .bool (pkB R)]) ∧ Herd W w' (xs.set i (K, tq g (rest R) n)) := by
  refine (pop_any (H.rep i _ hi) hR).mono ?_
  rintro e w1 ⟨rfl, h1, h2⟩
  exact ⟨rfl, H.op i hi (x' := tq g (rest R) n) h1 h2⟩

end Go.Proofs.Ytmbgjkghcpkoiaa.H4

