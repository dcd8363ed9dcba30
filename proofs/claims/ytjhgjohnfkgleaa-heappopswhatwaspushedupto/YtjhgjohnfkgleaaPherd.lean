import Derived.Test.YtjhgjohnfkgleaaPpop
import Derived.Test.YtjhgjohnfkgleaaIss
namespace Go.Proofs.Ytjhgjohnfkgleaa
open Go.RowKit Go.Maps
set_option maxRecDepth 20000

theorem Herd.fresh {W w w' : World} {xs : List ((Nat → Nat) × Thing)} (h : Herd W w xs) (hb : Below w.heap.size w w') {o : Obj} (ho : w'.heap[w.heap.size]? = some o) : ∃ B, Herd W w' (xs ++ [(B, tb w.heap.size o)]) :=
  ⟨fun k => if k = w.heap.size then 1 else 0, h.push hb ⟨ho, by simp, fun k hk => by have := (one_K k _).1 hk; subst this; exact heap_lt ho⟩ fun k hk => by have := (one_K k _).1 hk; omega⟩

namespace Pp

theorem eqPair (W : World) (s : ByteArray) (n : Int) : (Op.equalIn 10000 26 (.agg #[.string s, .int .i64 n]) (.agg #[.string s, .int .i64 n])).run Try.prog W = .ok true W := by
  have ht : Try.prog.underlying 26 = some (.struct (Try.prog.fieldsOf 26)) := by kernel_rfl
  have hp : Try.prog.stoodInHeld 26 = false := by kernel_rfl
  rw [run_equalIn_agg W 9999 26 _ _ ht hp]
  clear ht hp
  simp only [Program.fieldsOf, Try.underlying26]
  simp [Op.eqFields, go_sem]

theorem guardPair (W : World) (op : BinOp) (x y : Operand) (xs ys : Array Value) : (eqGuard op 26 x y (.agg xs) (.agg ys)).run Try.prog W = .ok () W :=
  run_eqGuard_agg W op 26 x y xs ys (by kernel_rfl)

def tq (g : Nat) (R : List (It Int)) (n : Nat) : Thing := ⟨fun w K => Hq w K g R n, fun h a b => h.far a b, fun h => h.sup⟩

theorem hnew {W w : World} {xs : List ((Nat → Nat) × Thing)} (H : Herd W w xs) : Calls Try.prog 9 #[] w fun e w' => ∃ g K, e = .returned (.pointer (some ⟨g, 0, none⟩)) ∧ Herd W w' (xs ++ [(K, tq g [] 0)]) := by
  refine (new_any w).mono ?_
  rintro e w1 ⟨rfl, rfl⟩
  refine ⟨_, fun k => if k = w.heap.size then 1 else 0, rfl, H.push ((Below.refl _ _).alloc (Nat.le_refl _) _) ⟨.inl ⟨rfl, rfl, heap_alloc_new w _⟩, ?_, fun k hk => ?_⟩ fun k hk => ?_⟩
  · simp
  · have := (one_K k _).1 hk
    rw [size_alloc']; omega
  · have := (one_K k _).1 hk
    omega

theorem hlen {W w : World} {xs : List ((Nat → Nat) × Thing)} (H : Herd W w xs) (i : Nat) {K : Nat → Nat} {g : Nat} {R : List (It Int)} {n : Nat} (hi : xs[i]? = some (K, tq g R n)) :
    Calls Try.prog 11 #[.pointer (some ⟨g, 0, none⟩)] w fun e w' => e = .returned (.int .i64 R.length) ∧ w' = w := len_any (H.rep i _ hi)

theorem hpush {W w : World} {xs : List ((Nat → Nat) × Thing)} (H : Herd W w xs) (i : Nat) {K : Nat → Nat} {g : Nat} {R : List (It Int)} {n : Nat} (hi : xs[i]? = some (K, tq g R n)) (key val : Int) (hR : R.length ≤ 3500000000000) (hn : n ≤ 10000000000000) :
    Calls Try.prog 10 #[.pointer (some ⟨g, 0, none⟩), .int .i64 key, .agg #[.string NM, .int .i64 val]] w fun e w' => e = .returned (.tuple #[]) ∧ ∃ K', Herd W w' (xs.set i (K', tq g (R ++ [It.mk key (n : Int) val]) (n + 1))) := by
  refine (push_any (H.rep i _ hi) key val hR hn).mono ?_
  rintro e w1 ⟨rfl, K', h1, h2⟩
  exact ⟨rfl, K', H.op i hi (x' := tq g (R ++ [It.mk key (n : Int) val]) (n + 1)) h1 h2⟩

theorem hpeek {W w : World} {xs : List ((Nat → Nat) × Thing)} (H : Herd W w xs) (i : Nat) {K : Nat → Nat} {g : Nat} {R : List (It Int)} {n : Nat} (hi : xs[i]? = some (K, tq g R n)) :
    Calls Try.prog 12 #[.pointer (some ⟨g, 0, none⟩)] w fun e w' => e = .returned (.tuple #[.int .i64 (pkK R), .agg #[.string (pkS R), .int .i64 (pkV R)], .bool (pkB R)]) ∧ Herd W w' xs := by
  refine (peek_any (H.rep i _ hi)).mono ?_
  rintro e w1 ⟨rfl, hb⟩
  exact ⟨rfl, H.below hb⟩

theorem hpop {W w : World} {xs : List ((Nat → Nat) × Thing)} (H : Herd W w xs) (i : Nat) {K : Nat → Nat} {g : Nat} {R : List (It Int)} {n : Nat} (hi : xs[i]? = some (K, tq g R n)) (hR : R.length ≤ 6000000000000) :
    Calls Try.prog 13 #[.pointer (some ⟨g, 0, none⟩)] w fun e w' => e = .returned (.tuple #[.int .i64 (pkK R), .agg #[.string (pkS R), .int .i64 (pkV R)], .bool (pkB R)]) ∧ Herd W w' (xs.set i (K, tq g (rest R) n)) := by
  refine (pop_any (H.rep i _ hi) hR).mono ?_
  rintro e w1 ⟨rfl, h1, h2⟩
  exact ⟨rfl, H.op i hi (x' := tq g (rest R) n) h1 h2⟩

/-- The next one out. -/
theorem next_out {keys : List Int} {R : List (It Int)} {k : Nat} (h : drainAll R = (drainAll (its keys)).drop k) (hk : k < keys.length) :
    ∃ x : Nat, x < keys.length ∧ (orderOf keys).getD k 0 = x ∧ pkV R = x ∧ pkK R = keys.getD x 0 ∧ pkB R = true ∧ pkS R = ⟨#[118]⟩ ∧ drainAll (rest R) = (drainAll (its keys)).drop (k + 1) := by
  have hl : (drainAll (its keys)).length = keys.length := by rw [(drainAll_perm _).length_eq, its_len]
  have hk' : k < (drainAll (its keys)).length := by omega
  have hn : R ≠ [] := fun e => by
    subst e
    rw [drainAll_nil] at h
    have := congrArg List.length h
    simp at this
    omega
  rw [drainAll_step hn, List.drop_eq_getElem_cons hk'] at h
  injection h with h1 h2
  obtain ⟨x, hx, e⟩ := its_mem ((drainAll_perm _).mem_iff.1 (List.getElem_mem hk'))
  refine ⟨x, hx, ?_, ?_, ?_, by simp [pkB, hn], by simp [pkS, hn, NM], h2⟩
  · have hk2 : k < (orderOf keys).length := by rw [orderOf_len]; exact hk
    have : (orderOf keys).getD k 0 = (drainAll (its keys))[k].val := by simp [orderOf, hk']
    rw [this, e]
  · rw [pkV_eq hn, h1, e]
  · rw [pkK_eq hn, h1, e]

theorem len_out {keys : List Int} {R : List (It Int)} {k : Nat} (h : drainAll R = (drainAll (its keys)).drop k) : R.length = keys.length - k := by
  have := congrArg List.length h
  rw [(drainAll_perm _).length_eq, List.length_drop, (drainAll_perm _).length_eq, its_len] at this
  exact this

end Pp
end Go.Proofs.Ytjhgjohnfkgleaa
