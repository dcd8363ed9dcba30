import Derived.Test.YtjhgjohnfkgleabApv
import Derived.Test.YtjhgjohnfkgleabHor
namespace Go.Proofs.Ytjhgjohnfkgleab
open Go.RowKit Go.Maps
set_option maxRecDepth 20000

theorem Spare.keep {w w' : World} {v : Value} {n : Nat} (h : Spare w v n) (hb : ∀ k, v.ownBlock = some k → w'.heap[k]? = w.heap[k]?) : Spare w' v n := by
  obtain ⟨g, rfl, h⟩ := h
  refine ⟨g, rfl, fun j hj => ?_⟩
  rw [← h j hj]
  unfold World.cell?
  rw [hb g rfl]

/-- A list with marked room behind it. -/
def troom (v : Value) (l : List Int) : Thing :=
  ⟨fun w K => OI w 0 v l ∧ Spare w v l.length ∧ (∀ k, v.ownBlock = some k → K k ≠ 0) ∧ ∀ k, K k ≠ 0 → k < w.heap.size,
   fun h a b => ⟨h.1.move fun k hk => b k (h.2.2.1 k hk), h.2.1.keep fun k hk => b k (h.2.2.1 k hk), h.2.2.1, fun k hk => Nat.lt_of_lt_of_le (h.2.2.2 k hk) a⟩, fun h => h.2.2.2⟩

theorem Herd.room {W w w' : World} {xs : List ((Nat → Nat) × Thing)} (h : Herd W w xs) (hb : Below w.heap.size w w') {v : Value} {l : List Int} (ho : OI w' w.heap.size v l) (hs : Spare w' v l.length) : ∃ K, Herd W w' (xs ++ [(K, troom v l)]) := by
  refine ⟨fun k => if v.ownBlock = some k then 1 else 0, h.push hb ⟨ho.base (Nat.zero_le _), hs, fun k hk => by simp [hk], fun k hk => ?_⟩ fun k hk => ?_⟩
  · by_cases e : v.ownBlock = some k
    · exact (ho.lt k e).2
    · simp [e] at hk
  · by_cases e : v.ownBlock = some k
    · exact (ho.lt k e).1
    · simp [e] at hk

theorem Herd.at_room {W w : World} {xs : List ((Nat → Nat) × Thing)} (H : Herd W w xs) (i : Nat) {K : Nat → Nat} {v : Value} {l : List Int} (hi : xs[i]? = some (K, troom v l)) : SI w v l ∧ Spare w v l.length := by
  have h : (troom v l).P w K := H.rep i _ hi
  exact ⟨h.1.sb, h.2.1⟩

theorem Herd.unroom {W w : World} {xs : List ((Nat → Nat) × Thing)} (H : Herd W w xs) (i : Nat) {K : Nat → Nat} {v : Value} {l : List Int} (hi : xs[i]? = some (K, troom v l)) : Herd W w (xs.set i (K, tl v l)) := by
  have h : (troom v l).P w K := H.rep i _ hi
  exact H.op i hi (x' := tl v l) ⟨h.1, h.2.2.1, h.2.2.2⟩ (Fr.refl _ _)

theorem Herd.putR {W w : World} {xs : List ((Nat → Nat) × Thing)} (H : Herd W w xs) (i : Nat) {K : Nat → Nat} {a : Option Addr} {n c : Nat} {l : List Int} (hi : xs[i]? = some (K, troom (.slice a n c) l)) {k : Nat} (hk : k < l.length) (m : Int) :
    ∃ g, a = some ⟨g, 0, none⟩ ∧ (∃ u, w.cell? ⟨g, k, none⟩ = some u) ∧ w.frozen? ⟨g, k, none⟩ = false ∧ Herd W (w.setCell ⟨g, k, none⟩ (.int .i64 m)) (xs.set i (K, troom (.slice a n c) (l.set k m))) := by
  have h : (troom (.slice a n c) l).P w K := H.rep i _ hi
  obtain ⟨g, rfl, h1, h2, h3⟩ := h.1.put hk m
  have hg : K g ≠ 0 := h.2.2.1 g rfl
  have hsp : Spare (w.setCell ⟨g, k, none⟩ (.int .i64 m)) (.slice (some ⟨g, 0, none⟩) n c) (l.set k m).length := by
    obtain ⟨g', hv, hs⟩ := h.2.1
    simp only [Value.slice.injEq, Option.some.injEq, Addr.mk.injEq] at hv
    obtain ⟨⟨rfl, -, -⟩, rfl, rfl⟩ := hv
    refine ⟨g, by rw [List.length_set], fun j hj => ?_⟩
    rw [List.length_set, ← hs j hj]
    rcases h.1.2 with ⟨hv, h0⟩ | ⟨g2, cap, cur, hv, _, q2, _⟩
    · cases hv
    · simp only [Value.slice.injEq, Option.some.injEq, Addr.mk.injEq] at hv
      obtain ⟨⟨rfl, -, -⟩, -, -⟩ := hv
      have e := heap_setCell_at (k := k) (.int .i64 m) q2
      unfold World.cell?
      rw [e, q2]
      simp only []
      rw [Array.getElem?_setIfInBounds_ne (by omega)]
  refine ⟨g, rfl, h1, h2, H.op i hi (x' := troom (.slice (some ⟨g, 0, none⟩) n c) (l.set k m)) ⟨h3, hsp, h.2.2.1, fun k hk => by rw [size_setCell]; exact h.2.2.2 k hk⟩ ⟨rfl, rfl, rfl, by rw [size_setCell]; exact Nat.le_refl _, fun b _ h0 => setCell_others _ _ _ _ _ (fun e => hg (by rw [← e]; exact h0)), fun _ _ => rfl⟩⟩

theorem Herd.pick {W w : World} {xs ys : List ((Nat → Nat) × Thing)} (H : Herd W w xs) (f : Nat → Nat) (hf : ∀ (i : Nat) (d : (Nat → Nat) × Thing), ys[i]? = some d → xs[f i]? = some d) (hinj : ∀ i j, i < ys.length → j < ys.length → f i = f j → i = j) : Herd W w ys :=
  ⟨H.bel, fun i d hd => H.rep _ d (hf i d hd), fun i d hd => H.up _ d (hf i d hd), fun i j d e hd he hne => H.sep _ _ d e (hf i d hd) (hf j e he) fun q => hne (hinj i j (get_lt hd) (get_lt he) q)⟩

/-- n, n-1, .. 1. -/
def down (n : Nat) : List Int := (List.range n).map fun (i : Nat) => (n : Int) - (i : Int)

theorem down_len (n : Nat) : (down n).length = n := by simp [down]

theorem down_get {n i : Nat} (h : i < n) : (down n).getD i 0 = (n : Int) - (i : Int) := by simp [down, List.getD, h]

def upd (n : Nat) (l : List Int) (k : Nat) : List Int := (down n).take k ++ l.drop k

theorem upd_len {n : Nat} {l : List Int} (h : l.length = n) {k : Nat} (hk : k ≤ n) : (upd n l k).length = n := by simp [upd, down_len]; omega

theorem upd_set {n : Nat} {l : List Int} (h : l.length = n) {k : Nat} (hk : k < n) : (upd n l k).set k ((n : Int) - (k : Int)) = upd n l (k + 1) := by
  unfold upd
  have hk1 : k < (down n).length := by rw [down_len]; exact hk
  have e1 : ((down n).take k).length = k := by rw [List.length_take, down_len]; omega
  have e2 : l.drop k = l[k]'(by omega) :: l.drop (k + 1) := List.drop_eq_getElem_cons (by omega)
  rw [List.set_append_right _ _ (by omega), e1, Nat.sub_self, e2, List.set_cons_zero, List.take_succ_eq_append_getElem hk1, List.append_assoc]
  simp [down]

theorem upd_end {n : Nat} {l : List Int} (h : l.length = n) : upd n l n = down n := by
  unfold upd
  rw [List.take_of_length_le (by rw [down_len]; exact Nat.le_refl _), List.drop_of_length_le (by omega), List.append_nil]

theorem order_down (n : Nat) : orderOf (down n) = (places 0 n).reverse := by
  symm
  refine order_unique ?_ (by rw [down_len]; exact List.reverse_perm _)
  rw [List.pairwise_reverse]
  unfold places
  rw [List.pairwise_map]
  refine (List.pairwise_lt_range (n := n)).imp_of_mem ?_
  intro a b ha hb hab
  have h1 := List.mem_range.1 ha
  have h2 := List.mem_range.1 hb
  unfold Ah
  refine .inl ?_
  rw [Nat.zero_add, Nat.zero_add, Int.toNat_natCast, Int.toNat_natCast, down_get h1, down_get h2]
  omega

theorem order_down_get {n k : Nat} (h : k < n) : (orderOf (down n)).getD k 0 = (n : Int) - 1 - (k : Int) := by
  rw [order_down]
  unfold places
  simp [List.getD, h]
  omega

theorem Fam.of {W w : World} {ls : List (Value × List Int)} {xs : List ((Nat → Nat) × Thing)} (H : Herd W w xs) (hl : xs.length = ls.length) (hx : ∀ (j : Nat) (p : Value × List Int), ls[j]? = some p → ∃ K, xs[j]? = some (K, tl p.1 p.2)) :
    ∃ xs, Fam W (w.alloc (.cells (ls.map (·.1)).toArray 22)) ls w.heap.size (fun _ p => tl p.1 p.2) (.slice none 0 0) [] xs := by
  obtain ⟨B, H1⟩ := H.box (.cells (ls.map (·.1)).toArray 22)
  have H2 := H1.push (Below.refl _ _) (K := fun _ => 0) (x := trow (.slice none 0 0) []) ⟨World.ownsRow_nil _ _ _ _, fun k hk => by simp [Value.ownBlock] at hk, fun k hk => absurd rfl hk⟩ (fun k hk => absurd rfl hk)
  refine ⟨_, H2, fun j p hp => ?_, ⟨B, ?_⟩, ⟨fun _ => 0, ?_⟩⟩
  · have := get_lt hp
    rw [List.getElem?_append_left (by simp; omega), List.getElem?_append_left (by omega)]
    exact hx j p hp
  · rw [List.getElem?_append_left (by simp; omega), List.getElem?_append_right (by omega), hl]; simp
  · rw [List.getElem?_append_right (by simp; omega)]; simp [hl]

end Go.Proofs.Ytjhgjohnfkgleab
