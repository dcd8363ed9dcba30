import Derived.Test.YteiajeeincapoacPart
namespace Go.Proofs.Yteiajeeincapoac
open Go.RowKit Go.Maps

def SI (w : World) (v : Value) (l : List Int) : Prop :=
  ∃ ao cap, v = .slice ao l.length cap ∧ l.length ≤ cap ∧ cap ≤ maxLen ∧ (ao = none → cap = 0) ∧ ∀ x, ao = some x → ∀ i, i < l.length → w.cell? (x.add i) = some (.int .i64 (l.getD i 0))

theorem SI.below {w w' : World} {v : Value} {l : List Int} (h : SI w v l) (hb : Below w.heap.size w w') : SI w' v l := by
  obtain ⟨ao, cap, rfl, h1, h2, h3, h4⟩ := h
  refine ⟨ao, cap, rfl, h1, h2, h3, fun x hx i hi => ?_⟩
  have := h4 x hx i hi
  rw [hb.cell (World.block_lt_of_cell? _ _ this), this]

theorem tokR_inj {v u : Value} {d : DataW Unit} {p q : List MemPlace} (h : tokR v = some (d, p)) (k : tokR u = some (d, q)) : v = u := by
  unfold tokR at h k
  split at h
  · cases h
    split at k
    · rfl
    · simp at k
    · cases k
  · rename_i b n c
    simp only [Option.some.injEq, Prod.mk.injEq] at h
    obtain ⟨rfl, -⟩ := h
    split at k
    · simp at k
    · simp only [Option.some.injEq, Prod.mk.injEq, DataW.agg.injEq, List.cons.injEq, DataW.lit.injEq, Lit.int.injEq, and_true, true_and] at k
      obtain ⟨⟨k1, k2, k3⟩, -⟩ := k
      simp only [Value.slice.injEq, Option.some.injEq, Addr.mk.injEq, and_true]
      omega
    · cases k
  · cases h

theorem lawK : Keyed Try.prog 3 := int_keyed Try.underlying3
theorem zeroSl (w : World) : (zeroValue 75).run Try.prog w = .ok (.slice none 0 0) w := by kernel_rfl

theorem wf_nat {n : Nat} (h : n ≤ 9223372036854775807) : (Lit.int .i64 (n : Int)).wf = true := WalkArith.wf_i64 (by omega)

theorem lookup_row {w : World} {m n : Nat} {D : DataW Unit} {v : Value} {s : Nat} (hm : w.ownsMap Try.prog 3 tokR m n D) (hs : s ≤ 9223372036854775807) (hv : tokR v = some (D.atKey (.int .i64 s) .nil, [])) :
    (Instr.lookup 59 (.map (some m)) (.int .i64 s) false).run Try.prog w = .ok v w := by
  obtain ⟨u, ps, hrun, hu⟩ := hm.lookup lawK Try.underlying59 (zeroSl w) (zd := .nil) (zp := []) rfl (keyOf_int_mk Try.underlying3 (wf_nat hs))
  rw [tokR_inj hu hv] at hrun
  exact hrun

def wantedN (sec : List Int) (rest : Int) (s : Nat) : Int := if s < sec.length then sec.getD s 0 else rest

def outTo (st : St) (sec : List Int) (rest : Int) (size : Nat) : Nat → List Int
  | 0 => resz st.dur size
  | k + 1 => ((st.pcs k).take (keptN (wantedN sec rest k) (st.pcs k).length)).foldl paintL (outTo st sec rest size k)

def outcomeL (st : St) (c : Int × List Int × Int) : List Int := outTo st c.2.1 c.2.2 (behind st c.1) ((behind st c.1 + 511) / 512)

theorem foldl_paint_length : ∀ (ps : List (Nat × Nat × List Int)) (l : List Int), (ps.foldl paintL l).length = l.length
  | [], _ => rfl
  | p :: ps, l => by rw [List.foldl_cons, foldl_paint_length ps, length_paintL]

theorem length_outTo (st : St) (sec : List Int) (rest : Int) (size : Nat) : ∀ k, (outTo st sec rest size k).length = size
  | 0 => length_resz _ _
  | k + 1 => by unfold outTo; rw [foldl_paint_length, length_outTo]

theorem PcsOK.at {w : World} {K : Nat → Nat} : ∀ (cs : List Value) (ps : List (Nat × Nat × List Int)), PcsOK w K cs ps → ∀ j, j < ps.length → ∃ vd, cs[j * 3]? = some (.int .i64 (ps.getD j (0, 0, [])).1) ∧ cs[j * 3 + 1]? = some (.int .i64 (ps.getD j (0, 0, [])).2.1) ∧ cs[j * 3 + 2]? = some vd ∧ SB w vd (ps.getD j (0, 0, [])).2.2 ∧ Role K vd 6
  | a :: b :: c :: r, p :: ps, h, 0, _ => ⟨c, by rw [h.1]; rfl, by rw [h.2.1]; rfl, rfl, h.2.2.1, h.2.2.2.1⟩
  | a :: b :: c :: r, p :: ps, h, j + 1, hj => by
    obtain ⟨vd, h1, h2, h3, h4, h5⟩ := PcsOK.at r ps h.2.2.2.2 j (by simpa using hj)
    refine ⟨vd, ?_, ?_, ?_, by simpa using h4, h5⟩
    · rw [show (j + 1) * 3 = j * 3 + 3 by omega]; simpa using h1
    · rw [show (j + 1) * 3 + 1 = j * 3 + 1 + 3 by omega]; simpa using h2
    · rw [show (j + 1) * 3 + 2 = j * 3 + 2 + 3 by omega]; simpa using h3
  | [], [], _, j, hj => by simp at hj
end Go.Proofs.Yteiajeeincapoac
