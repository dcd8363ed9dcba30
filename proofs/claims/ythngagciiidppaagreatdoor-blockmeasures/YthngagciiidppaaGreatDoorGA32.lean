import Derived.Test.YthngagciiidppaaGreatDoorGA31
import Derived.Test.YthngagciiidppaaGreatDoorGA00
import Derived.Test.YthngagciiidppaaGreatDoorGA30
namespace Go.Proofs.YthngagciiidppaaGreatDoor
open Go.RowKit Go.Maps
set_option maxRecDepth 20000

theorem tmod_pos {k n : Int} (h : 0 ≤ k) : k.tmod n = k % n := Int.tmod_eq_emod_of_nonneg h

theorem tmod_neg {k n : Int} (hn : 0 < n) (h : k < 0) : (k.tmod n < 0 → k.tmod n + n = k % n) ∧ (¬ k.tmod n < 0 → k.tmod n = k % n) := by
  have h1 := Int.emod_nonneg k (show n ≠ 0 by omega)
  have h2 := Int.emod_lt_of_pos k hn
  have e : k.tmod n = -((-k) % n) := by
    have h5 := Int.tmod_eq_emod_of_nonneg (a := -k) (b := n) (by omega)
    have := Int.neg_tmod (-k) n
    rw [Int.neg_neg, h5] at this
    exact this
  have h3 := Int.emod_nonneg (-k) (show n ≠ 0 by omega)
  have h4 := Int.emod_lt_of_pos (-k) hn
  have d1 := Int.mul_ediv_add_emod k n
  have d2 := Int.mul_ediv_add_emod (-k) n
  have key : k % n = (if (-k) % n = 0 then 0 else n - (-k) % n) := by
    by_cases hz : (-k) % n = 0
    · rw [if_pos hz]
      have : k = n * (-((-k) / n)) := by rw [Int.mul_neg]; omega
      rw [this, Int.mul_emod_right]
    · rw [if_neg hz]
      have : k = (n - (-k) % n) + n * (-((-k) / n) - 1) := by rw [Int.mul_sub, Int.mul_neg]; omega
      conv => lhs; rw [this]
      rw [Int.add_mul_emod_self_left, Int.emod_eq_of_lt (by omega) (by omega)]
  rw [e, key]
  refine ⟨fun h => ?_, fun h => ?_⟩
  · rw [if_neg (by omega)]; omega
  · rw [if_pos (by omega)]; omega

end Go.Proofs.YthngagciiidppaaGreatDoor

namespace Go.Proofs.YthngagciiidppaaGreatDoor
open Go.RowKit Go.Maps
set_option maxRecDepth 20000

theorem zeroCells_byte (n : Nat) : (Builtin.zeroCells #[Value.int .u8 0] n) = (List.replicate n (Value.int .u8 0)).toArray := by
  have e : ∀ k : Nat, [Value.int IntKind.u8 0][k % 1]?.getD default = Value.int .u8 0 := fun k => by simp [Nat.mod_one]
  apply Array.ext'
  simp [Builtin.zeroCells, e, List.map_const']

end Go.Proofs.YthngagciiidppaaGreatDoor

namespace Go.Proofs.YthngagciiidppaaGreatDoor
open Go.RowKit Go.Maps
set_option maxRecDepth 20000

/-- Something in memory, with the blocks that are its own. -/
structure Thing where
  P : World → (Nat → Nat) → Prop
  far : ∀ {w w' : World} {K : Nat → Nat}, P w K → w.heap.size ≤ w'.heap.size → (∀ k, K k ≠ 0 → w'.heap[k]? = w.heap[k]?) → P w' K
  sup : ∀ {w : World} {K : Nat → Nat}, P w K → ∀ k, K k ≠ 0 → k < w.heap.size

/-- A list of bytes. -/
def tl (v : Value) (l : List Int) : Thing :=
  ⟨fun w K => OB w 0 v l ∧ (∀ k, v.ownBlock = some k → K k ≠ 0) ∧ ∀ k, K k ≠ 0 → k < w.heap.size,
   fun h a b => ⟨h.1.move fun k hk => b k (h.2.1 k hk), h.2.1, fun k hk => Nat.lt_of_lt_of_le (h.2.2 k hk) a⟩, fun h => h.2.2⟩

/-- A block. -/
def tb (g : Nat) (o : Obj) : Thing :=
  ⟨fun w K => w.heap[g]? = some o ∧ K g ≠ 0 ∧ ∀ k, K k ≠ 0 → k < w.heap.size,
   fun h a b => ⟨(b g h.2.1).trans h.1, h.2.1, fun k hk => Nat.lt_of_lt_of_le (h.2.2 k hk) a⟩, fun h => h.2.2⟩

structure Herd (W w : World) (xs : List ((Nat → Nat) × Thing)) : Prop where
  bel : Below W.heap.size W w
  rep : ∀ (i : Nat) (d : (Nat → Nat) × Thing), xs[i]? = some d → d.2.P w d.1
  up : ∀ (i : Nat) (d : (Nat → Nat) × Thing), xs[i]? = some d → ∀ k, d.1 k ≠ 0 → W.heap.size ≤ k
  sep : ∀ (i j : Nat) (d e : (Nat → Nat) × Thing), xs[i]? = some d → xs[j]? = some e → i ≠ j → ∀ k, d.1 k ≠ 0 → e.1 k = 0

theorem Thing.zero {x : Thing} {w : World} {K : Nat → Nat} (h : x.P w K) {k : Nat} (hk : w.heap.size ≤ k) : K k = 0 := by
  by_cases e : K k = 0
  · exact e
  · have := x.sup h k e; omega

theorem get_set {α : Type} {l : List α} {x y : α} {i j : Nat} (h : (l.set j x)[i]? = some y) : (i ≠ j ∧ l[i]? = some y) ∨ (i = j ∧ y = x) := by
  by_cases e : j = i
  · subst e
    rw [List.getElem?_set_self'] at h
    obtain ⟨u, hu, e⟩ := Option.map_eq_some_iff.1 h
    exact .inr ⟨rfl, e.symm⟩
  · rw [List.getElem?_set_ne e] at h
    exact .inl ⟨fun e2 => e e2.symm, h⟩

theorem Herd.nil (W : World) : Herd W W [] := ⟨Below.refl _ _, (fun i d hd => by simp at hd), (fun i d hd => by simp at hd), (fun i j d e hd => by simp at hd)⟩

theorem Herd.below {W w w' : World} {xs : List ((Nat → Nat) × Thing)} (h : Herd W w xs) (hb : Below w.heap.size w w') : Herd W w' xs :=
  ⟨h.bel.trans (hb.mono h.bel.size), fun i d hd => d.2.far (h.rep i d hd) hb.size fun k hk => hb.block k (d.2.sup (h.rep i d hd) k hk), h.up, h.sep⟩

theorem Herd.drewN {W w : World} {xs : List ((Nat → Nat) × Thing)} (h : Herd W w xs) (n : Nat) : Herd W (w.drewN n) xs := h.below (below_drewN (Below.refl _ _) n)

theorem Herd.op {W w w' : World} {xs : List ((Nat → Nat) × Thing)} (h : Herd W w xs) (n : Nat) {K K' : Nat → Nat} {x x' : Thing} (hn : xs[n]? = some (K, x)) (hr : x'.P w' K') (hF : Fr K K' w w') : Herd W w' (xs.set n (K', x')) := by
  have hs := h.bel.size
  have hup := h.up n _ hn
  refine ⟨h.bel.trans (hF.below hup hs), fun i d hd => ?_, fun i d hd k hk => ?_, fun i j d e hd he hne k hk => ?_⟩
  · rcases get_set hd with ⟨hne, hd⟩ | ⟨_, rfl⟩
    · exact d.2.far (h.rep i d hd) hF.size fun k hk => hF.block k (d.2.sup (h.rep i d hd) k hk) (h.sep i n d _ hd hn hne k hk)
    · exact hr
  · rcases get_set hd with ⟨hne, hd⟩ | ⟨_, rfl⟩
    · exact h.up i d hd k hk
    · exact hF.up hup hs k hk
  · rcases get_set hd with ⟨hn1, hd⟩ | ⟨e1, rfl⟩
    · rcases get_set he with ⟨hn2, he⟩ | ⟨e2, rfl⟩
      · exact h.sep i j d e hd he hne k hk
      · exact (hF.role k (d.2.sup (h.rep i d hd) k hk)).trans (h.sep i n d _ hd hn hn1 k hk)
    · rcases get_set he with ⟨hn2, he⟩ | ⟨e2, rfl⟩
      · by_cases hl : k < w.heap.size
        · exact h.sep n j _ e hn he (fun e3 => hn2 e3.symm) k (fun e0 => hk ((hF.role k hl).trans e0))
        · exact Thing.zero (h.rep j e he) (by omega)
      · omega

theorem get_snoc {α : Type} {l : List α} {x y : α} {i : Nat} (h : (l ++ [x])[i]? = some y) : (l[i]? = some y) ∨ (i = l.length ∧ y = x) := by
  by_cases hi : i < l.length
  · rw [List.getElem?_append_left hi] at h
    exact .inl h
  · rw [List.getElem?_append_right (by omega)] at h
    have := (List.getElem?_eq_some_iff.1 h).1
    simp at this
    have e : i = l.length := by omega
    subst e
    simp at h
    exact .inr ⟨rfl, h.symm⟩

theorem Herd.push {W w w' : World} {xs : List ((Nat → Nat) × Thing)} (h : Herd W w xs) (hb : Below w.heap.size w w') {K : Nat → Nat} {x : Thing} (hr : x.P w' K) (hu : ∀ k, K k ≠ 0 → w.heap.size ≤ k) : Herd W w' (xs ++ [(K, x)]) := by
  have h' := h.below hb
  have hs := h.bel.size
  refine ⟨h'.bel, fun i d hd => ?_, fun i d hd k hk => ?_, fun i j d e hd he hne k hk => ?_⟩
  · rcases get_snoc hd with hd | ⟨_, rfl⟩
    · exact h'.rep i d hd
    · exact hr
  · rcases get_snoc hd with hd | ⟨_, rfl⟩
    · exact h.up i d hd k hk
    · have := hu k hk; omega
  · rcases get_snoc hd with hd | ⟨e1, rfl⟩
    · rcases get_snoc he with he | ⟨e2, rfl⟩
      · exact h.sep i j d e hd he hne k hk
      · by_cases e0 : K k = 0
        · exact e0
        · exact absurd (Thing.zero (h.rep i d hd) (hu k e0)) hk
    · rcases get_snoc he with he | ⟨e2, rfl⟩
      · exact Thing.zero (h.rep j e he) (hu k hk)
      · omega

/-- A list just made comes in. -/
theorem Herd.list {W w w' : World} {xs : List ((Nat → Nat) × Thing)} (h : Herd W w xs) (hb : Below w.heap.size w w') {v : Value} {l : List Int} (ho : OB w' w.heap.size v l) : ∃ K, Herd W w' (xs ++ [(K, tl v l)]) := by
  refine ⟨fun k => if v.ownBlock = some k then 1 else 0, h.push hb ⟨ho.base (Nat.zero_le _), fun k hk => by simp [hk], fun k hk => ?_⟩ fun k hk => ?_⟩
  · by_cases e : v.ownBlock = some k
    · exact (ho.lt k e).2
    · simp [e] at hk
  · by_cases e : v.ownBlock = some k
    · exact (ho.lt k e).1
    · simp [e] at hk

theorem Herd.sb {W w : World} {xs : List ((Nat → Nat) × Thing)} (H : Herd W w xs) (i : Nat) {K : Nat → Nat} {v : Value} {l : List Int} (hi : xs[i]? = some (K, tl v l)) : SB w v l := by
  have h : (tl v l).P w K := H.rep i _ hi
  exact h.1.sb

theorem Herd.one {W w w' : World} {xs : List ((Nat → Nat) × Thing)} (h : Herd W w xs) (hb : Below w.heap.size w w') {K : Nat → Nat} {x : Thing} (hr : x.P w' K) (hu : ∀ k, K k ≠ 0 → w.heap.size ≤ k) : Herd W w' (xs ++ [(K, x)]) := h.push hb hr hu

end Go.Proofs.YthngagciiidppaaGreatDoor

namespace Go.Proofs.YthngagciiidppaaGreatDoor
open Go.RowKit Go.Maps
set_option maxRecDepth 20000

/-- What lies ahead, as a row. -/
def rowAt (row : List Int) (p : Nat) : Nat := rowN (ahead row p 15)

noncomputable def nxE (l row : List Int) (p : Nat) : Int := if fdB l (rowAt row p) = true then (if p + ln l (fdS l (rowAt row p)) ≤ row.length then 0 else 54) else 55
noncomputable def nxS (l row : List Int) (p : Nat) : Nat := if nxE l row p = 0 then fdS l (rowAt row p) else 0
noncomputable def nxP (l row : List Int) (p : Nat) : Nat := if nxE l row p = 0 then p + ln l (fdS l (rowAt row p)) else p

theorem fd_has {l : List Int} (hl : Lens l) {R : Nat} (h : fdB l R = true) : Hit l R (fdS l R) := by
  have he : ∃ s, Hit l R s := by
    unfold fdB at h
    exact @of_decide_eq_true _ (Classical.propDecidable _) h
  obtain ⟨s, hs⟩ := he
  rw [(fd_hit hl hs).1]
  exact hs

end Go.Proofs.YthngagciiidppaaGreatDoor

