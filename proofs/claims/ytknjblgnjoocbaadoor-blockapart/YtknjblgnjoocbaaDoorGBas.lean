import Derived.Test.YtknjblgnjoocbaaDoorGOwj
import Derived.Test.YtknjblgnjoocbaaDoorGOvw
import Derived.Test.YtknjblgnjoocbaaDoorGTbn
namespace Go.Proofs.YtknjblgnjoocbaaDoor
open Go.RowKit Go.Maps
set_option maxRecDepth 20000
set_option linter.unusedVariables false
set_option linter.unusedSimpArgs false

/-- Some of the lists, in another order. -/
theorem OwI.pick {w0 W : World} {ls : List (Value × List Int)} (h : OwI w0 W ls) (d : Value × List Int) (ps : List Nat) (hnd : ps.Nodup) (hlt : ∀ i ∈ ps, i < ls.length) : OwI w0 W (ps.map fun i => ls.getD i d) := by
  have key : ∀ (i : Nat) (v : Value) (l : List Int), (ps.map fun i => ls.getD i d)[i]? = some (v, l) → ∃ a, ps[i]? = some a ∧ ls[a]? = some (v, l) := by
    intro i v l e
    rw [List.getElem?_map] at e
    cases hp : ps[i]? with
    | none => rw [hp] at e; cases e
    | some a =>
      rw [hp] at e
      have ha := hlt a (List.mem_of_getElem? hp)
      refine ⟨a, rfl, ?_⟩
      simp only [Option.map_some, Option.some.injEq] at e
      rw [List.getElem?_eq_getElem ha]
      rw [List.getD_eq_getElem?_getD, List.getElem?_eq_getElem ha] at e
      simpa using e
  refine ⟨h.bel, fun i v l e => ?_, fun i j v u l m e e2 hne k hk hk2 => ?_⟩
  · obtain ⟨a, -, e1⟩ := key i v l e
    exact h.sl _ _ _ e1
  · obtain ⟨a, p1, e1⟩ := key i v l e
    obtain ⟨b, p2, e3⟩ := key j u m e2
    refine h.nn a b v u l m e1 e3 (fun q => hne ?_) k hk hk2
    subst q
    obtain ⟨hi, q1⟩ := List.getElem?_eq_some_iff.1 p1
    obtain ⟨hj, q2⟩ := List.getElem?_eq_some_iff.1 p2
    exact (List.getElem_inj hnd).1 (q1.trans q2.symm)

/-- The same lists with other numbers in them. -/
theorem OwI.re {w0 W W' : World} {ls ls' : List (Value × List Int)} (h : OwI w0 W ls) (hb : Below w0.heap.size w0 W') (hv : ls'.map (·.1) = ls.map (·.1)) (ho : ∀ (i : Nat) (v : Value) (l : List Int), ls'[i]? = some (v, l) → OI W' w0.heap.size v l) : OwI w0 W' ls' := by
  have key : ∀ (i : Nat) (v : Value) (l : List Int), ls'[i]? = some (v, l) → ∃ m, ls[i]? = some (v, m) := by
    intro i v l e
    have h1 : (ls'.map (·.1))[i]? = some v := by rw [List.getElem?_map, e]; rfl
    rw [hv, List.getElem?_map] at h1
    cases hp : ls[i]? with
    | none => rw [hp] at h1; cases h1
    | some p =>
      rw [hp] at h1
      simp only [Option.map_some, Option.some.injEq] at h1
      exact ⟨p.2, by rw [← h1]⟩
  refine ⟨hb, ho, fun i j v u l m e e2 hne k hk hk2 => ?_⟩
  obtain ⟨l1, e3⟩ := key i v l e
  obtain ⟨m1, e4⟩ := key j u m e2
  exact h.nn i j v u l1 m1 e3 e4 hne k hk hk2

/-- What BlockApart has at hand: the lists that were answered, and the two rows of tokens with their marked room, all new memory, each for itself. -/
structure BA (w W : World) (ls : List (Value × List Int)) (gG gH : Nat) (LG LH : List Tk) : Prop where
  own : OwI w W ls
  tg : TBr W gG (LG ++ List.replicate 9 m7) []
  th : TBr W gH (LH ++ List.replicate 9 m7) []
  ng : ∀ (i : Nat) (v : Value) (l : List Int), ls[i]? = some (v, l) → v.ownBlock ≠ some gG ∧ v.ownBlock ≠ some gH
  up : w.heap.size ≤ gG ∧ w.heap.size ≤ gH ∧ gG ≠ gH

theorem TBr.lt {w : World} {g : Nat} {L : List Tk} {rest : List Value} (h : TBr w g L rest) : g < w.heap.size := (Array.getElem?_eq_some_iff.1 h).1

theorem BA.low {w W W' : World} {ls : List (Value × List Int)} {gG gH : Nat} {LG LH : List Tk} (h : BA w W ls gG gH LG LH) (hb : Below W.heap.size W W') : BA w W' ls gG gH LG LH :=
  ⟨h.own.low hb, h.tg.low hb, h.th.low hb, h.ng, h.up⟩

theorem BA.add2 {w W W' : World} {ls : List (Value × List Int)} {gG gH : Nat} {LG LH : List Tk} (h : BA w W ls gG gH LG LH) (hb : Below W.heap.size W W') {v u : Value} {l m : List Int} (ho : OI W' W.heap.size v l) (hp : OI W' W.heap.size u m) (hn : ∀ k, v.ownBlock = some k → u.ownBlock ≠ some k) : BA w W' (ls ++ [(v, l), (u, m)]) gG gH LG LH := by
  have t1 := h.tg.lt
  have t2 := h.th.lt
  refine ⟨h.own.add2 hb ho hp hn, h.tg.low hb, h.th.low hb, fun i x y e => ?_, h.up⟩
  have e' : ((ls ++ [(v, l)]) ++ [(u, m)])[i]? = some (x, y) := by rw [← e]; simp
  rcases last_ofI e' with f | ⟨-, f⟩
  · rcases last_ofI f with f | ⟨-, f⟩
    · exact h.ng _ _ _ f
    · simp only [Prod.mk.injEq] at f
      rw [f.1]
      exact ⟨fun q => by have := (ho.lt _ q).1; omega, fun q => by have := (ho.lt _ q).1; omega⟩
  · simp only [Prod.mk.injEq] at f
    rw [f.1]
    exact ⟨fun q => by have := (hp.lt _ q).1; omega, fun q => by have := (hp.lt _ q).1; omega⟩

theorem BA.skG {w W : World} {ls : List (Value × List Int)} {gG gH : Nat} {LG LH : List Tk} (h : BA w W ls gG gH LG LH) (hn : LG.length ≤ 16777216) : SK W (.slice (some ⟨gG, 0, none⟩) LG.length (LG.length + 9)) LG := by
  have := h.tg.sk (n := LG.length) (c := LG.length + 9) (by simp) (by omega) (by unfold maxLen; omega)
  simpa using this

theorem BA.skH {w W : World} {ls : List (Value × List Int)} {gG gH : Nat} {LG LH : List Tk} (h : BA w W ls gG gH LG LH) (hn : LH.length ≤ 16777216) : SK W (.slice (some ⟨gH, 0, none⟩) LH.length (LH.length + 9)) LH := by
  have := h.th.sk (n := LH.length) (c := LH.length + 9) (by simp) (by omega) (by unfold maxLen; omega)
  simpa using this

theorem asnd_take {R : List Tk} (h : asnd R = true) (n : Nat) : asnd (R.take n) = true :=
  List.all_eq_true.2 fun t ht => List.all_eq_true.1 h t (List.mem_of_mem_take ht)
end Go.Proofs.YtknjblgnjoocbaaDoor

