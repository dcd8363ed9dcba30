import Derived.Test.YtjhgjohnfkgleabApo
namespace Go.Proofs.Ytjhgjohnfkgleab
open Go.RowKit Go.Maps
set_option maxRecDepth 20000

structure Fam (W w : World) (ls : List (Value × List Int)) (gR : Nat) (st : Nat → Value × List Int → Thing) (lv : Value) (vs : List Value) (xs : List ((Nat → Nat) × Thing)) : Prop where
  herd : Herd W w xs
  each : ∀ (j : Nat) (p : Value × List Int), ls[j]? = some p → ∃ K, xs[j]? = some (K, st j p)
  row : ∃ K, xs[ls.length]? = some (K, tb gR (.cells (ls.map (·.1)).toArray 22))
  long : ∃ K, xs[ls.length + 1]? = some (K, trow lv vs)

theorem Fam.congr {W w : World} {ls : List (Value × List Int)} {gR : Nat} {st st' : Nat → Value × List Int → Thing} {lv : Value} {vs : List Value} {xs : List ((Nat → Nat) × Thing)} (h : Fam W w ls gR st lv vs xs) (he : ∀ (j : Nat) (p : Value × List Int), ls[j]? = some p → st' j p = st j p) : Fam W w ls gR st' lv vs xs :=
  ⟨h.herd, fun j p hp => by rw [he j p hp]; exact h.each j p hp, h.row, h.long⟩

theorem get_lt {α : Type} {l : List α} {i : Nat} {x : α} (h : l[i]? = some x) : i < l.length := (List.getElem?_eq_some_iff.1 h).1

theorem Fam.upd {W w w' : World} {ls : List (Value × List Int)} {gR : Nat} {st : Nat → Value × List Int → Thing} {lv : Value} {vs : List Value} {xs : List ((Nat → Nat) × Thing)} (h : Fam W w ls gR st lv vs xs) {k : Nat} {p : Value × List Int} (hp : ls[k]? = some p) {K' : Nat → Nat} (st' : Nat → Value × List Int → Thing)
    (H' : Herd W w' (xs.set k (K', st' k p))) (he : ∀ (j : Nat) (q : Value × List Int), ls[j]? = some q → j ≠ k → st' j q = st j q) : ∃ xs', Fam W w' ls gR st' lv vs xs' := by
  obtain ⟨K0, h0⟩ := h.each k p hp
  have hk := get_lt hp
  have hkx := get_lt h0
  refine ⟨_, H', fun j q hq => ?_, ?_, ?_⟩
  · by_cases e : j = k
    · subst e
      have := hp.symm.trans hq
      simp only [Option.some.injEq] at this
      subst this
      exact ⟨K', by rw [List.getElem?_set_self hkx]⟩
    · rw [List.getElem?_set_ne (fun e2 => e e2.symm), he j q hq e]
      exact h.each j q hq
  · rw [List.getElem?_set_ne (by omega)]; exact h.row
  · rw [List.getElem?_set_ne (by omega)]; exact h.long

theorem Fam.updL {W w w' : World} {ls : List (Value × List Int)} {gR : Nat} {st : Nat → Value × List Int → Thing} {lv lv' : Value} {vs vs' : List Value} {xs : List ((Nat → Nat) × Thing)} (h : Fam W w ls gR st lv vs xs) {K' : Nat → Nat}
    (H' : Herd W w' (xs.set (ls.length + 1) (K', trow lv' vs'))) : ∃ xs', Fam W w' ls gR st lv' vs' xs' := by
  obtain ⟨K0, h0⟩ := h.long
  have hkx := get_lt h0
  refine ⟨_, H', fun j q hq => ?_, ?_, K', by rw [List.getElem?_set_self hkx]⟩
  · have := get_lt hq
    rw [List.getElem?_set_ne (by omega)]
    exact h.each j q hq
  · rw [List.getElem?_set_ne (by omega)]; exact h.row

theorem Fam.cell {W w : World} {ls : List (Value × List Int)} {gR : Nat} {st : Nat → Value × List Int → Thing} {lv : Value} {vs : List Value} {xs : List ((Nat → Nat) × Thing)} (h : Fam W w ls gR st lv vs xs) {k : Nat} {p : Value × List Int} (hp : ls[k]? = some p) : w.cell? ⟨gR, k, none⟩ = some p.1 := by
  obtain ⟨K0, h0⟩ := h.row
  exact cellOf (h.herd.at_tb _ h0) (by simp [hp])

def mk10 (p : Value × List Int) (j : Nat) : List Int := List.replicate p.2.length (-10 - (j : Int))

theorem set_rep (m : Int) (L : List Int) (k : Nat) (h : k < L.length) : (List.replicate k m ++ L.drop k).set k m = List.replicate (k + 1) m ++ L.drop (k + 1) := by
  rw [List.set_append_right _ _ (by simp)]
  have e : L.drop k = L[k] :: L.drop (k + 1) := List.drop_eq_getElem_cons h
  have e2 : (L.drop k).set 0 m = m :: L.drop (k + 1) := by rw [e]; rfl
  simp [List.replicate_succ', e2]

def stA (k : Nat) (j : Nat) (p : Value × List Int) : Thing := tl p.1 (if j < k then mk10 p j else p.2)
def stA' (k m : Nat) (j : Nat) (p : Value × List Int) : Thing := tl p.1 (if j < k then mk10 p j else if j = k then List.replicate m (-10 - (k : Int)) ++ p.2.drop m else p.2)
def stB (k : Nat) (vs : List Value) (j : Nat) (p : Value × List Int) : Thing := if j < k then tpair p.1 (mk10 p j) (vs.getD j undef) (List.replicate 64 (-50 - (j : Int))) else tl p.1 (mk10 p j)
def stB' (k i : Nat) (vm : Value) (vs : List Value) (j : Nat) (p : Value × List Int) : Thing := if j < k then tpair p.1 (mk10 p j) (vs.getD j undef) (List.replicate 64 (-50 - (j : Int))) else if j = k then tpair p.1 (mk10 p k) vm (List.replicate i (-50 - (k : Int))) else tl p.1 (mk10 p j)

theorem stA_start (k : Nat) (j : Nat) (p : Value × List Int) : stA' k 0 j p = stA k j p := by
  unfold stA' stA
  by_cases h : j < k
  · rw [if_pos h, if_pos h]
  · rw [if_neg h, if_neg h]; simp

theorem stA_end (k : Nat) (j : Nat) (p : Value × List Int) (m : Nat) (hm : j = k → m = p.2.length) : stA (k + 1) j p = stA' k m j p := by
  unfold stA' stA
  by_cases h : j < k
  · rw [if_pos h, if_pos (by omega)]
  · by_cases e : j = k
    · rw [if_pos (by omega), if_neg h, if_pos e, hm e, e]; simp [mk10]
    · rw [if_neg (by omega), if_neg h, if_neg e]

theorem stA_other {k m j : Nat} {p : Value × List Int} (h : j ≠ k) : stA' k (m + 1) j p = stA' k m j p := by
  unfold stA'
  rw [if_neg h, if_neg h]

theorem stB_start (k : Nat) (j : Nat) (p : Value × List Int) (hj : j ≠ k) (vm : Value) (i : Nat) (vs : List Value) : stB' k i vm vs j p = stB k vs j p := by
  unfold stB' stB
  rw [if_neg hj]

theorem stB_end {k i j : Nat} {p : Value × List Int} {vm : Value} {vs : List Value} (hl : vs.length = k) (hi : i = 64) : stB (k + 1) (vs ++ [vm]) j p = stB' k i vm vs j p := by
  subst hl hi
  unfold stB' stB
  by_cases h : j < vs.length
  · rw [if_pos h, if_pos (by omega)]; simp [List.getD, List.getElem?_append_left h]
  · by_cases e : j = vs.length
    · subst e; simp [List.getD]
    · rw [if_neg (by omega), if_neg h, if_neg e]

theorem stB_zero (n : Nat) (j : Nat) (p : Value × List Int) (h : j < n) : stB 0 [] j p = stA n j p := by
  unfold stB stA
  rw [if_neg (by omega), if_pos h]

end Go.Proofs.Ytjhgjohnfkgleab
