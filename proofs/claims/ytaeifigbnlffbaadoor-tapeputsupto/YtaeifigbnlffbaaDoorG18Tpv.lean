import Derived.Test.YtaeifigbnlffbaaDoorG10Tph
import Derived.Laws.CopyOwn
namespace Go.Proofs.YtaeifigbnlffbaaDoor
open Go.RowKit Go.Maps
set_option maxRecDepth 20000
set_option linter.unusedVariables false
set_option linter.unusedSimpArgs false

/-! Bytes copied into a row of bytes. -/

theorem run_copyA (w : World) (ty : TypeId) (g off n c : Nat) (L : List Int) (t : TypeId) (hg : w.heap[g]? = some (.cells (ab L) t (0, 0))) (vs : Value) (cs : List Int) (hsb : SB w vs cs) (hle : cs.length ≤ n) (hfit : off + cs.length ≤ L.length) :
    ∃ w', (Builtin.copy_ #[22, 22] ty #[.slice (some ⟨g, off, none⟩) n c, vs]).run Tryd.prog w = .ok (goInt cs.length) w' ∧ w'.heap[g]? = some (.cells (ab (wrt L off cs)) t (0, 0)) ∧ w.grownBy w' (some g) := by
  obtain ⟨ao, sc, rfl, s1, s2, s3, s4⟩ := hsb
  by_cases h0 : cs.length = 0
  · obtain rfl : cs = [] := List.eq_nil_of_length_eq_zero h0
    exact ⟨w, run_copy_none (P := Tryd.prog) w 22 22 ty 5 (some ⟨g, off, none⟩) ao n c 0 sc Tryd.underlying22 sizeByte (by simp), by rw [hg]; simp [wrt], ⟨rfl, rfl, rfl, Nat.le_refl _, fun _ _ _ => rfl⟩⟩
  · cases ao with
    | none => have := s3 rfl; omega
    | some ad =>
      have hsrc : ∀ j u, (cs.map (Value.int .u8))[j]? = some u → w.cell? (ad.add j) = some u := fun j u hj => by
        obtain ⟨hjl, rfl⟩ := List.getElem?_eq_some_iff.1 hj
        have hjl' : j < cs.length := by simpa using hjl
        rw [s4 ad rfl j hjl']
        simp [hjl']
      have hr := run_copy_row (P := Tryd.prog) w 22 22 ty 5 g off n c ad cs.length sc (ab L) t (cs.map (Value.int .u8)) Tryd.underlying22 sizeByte hg (by rw [List.length_map]; exact (Nat.min_eq_left hle).symm) hsrc (by rw [List.length_map, ab_size]; exact hfit) (fun v hv => by obtain ⟨x, _, rfl⟩ := List.mem_map.1 hv; rfl)
      rw [List.length_map] at hr
      refine ⟨_, hr, ?_, ⟨rfl, rfl, rfl, by simp, fun k _ hk => setRow_other w g k _ (fun e => hk (by rw [e]))⟩⟩
      rw [setRow_heap w g _ _ t _ hg]
      congr 2
      unfold ab wrt
      simp

theorem wpList_copyA {w : World} {ops : Array Oper} {rest : List Oper} {o : Oper} {a : Act} {Q : Exit → Act → World → Prop} (hgd : o.guard = none) (d s : Operand)
    (ho : o.op = .call { callee := .builtin .copy, args := #[d, s], argTypes := #[22, 22] }) (g off n c : Nat) (L : List Int) (t : TypeId) (hg : w.heap[g]? = some (.cells (ab L) t (0, 0)))
    (hd : a.eval d = .slice (some ⟨g, off, none⟩) n c) (vs : Value) (cs : List Int) (hs : a.eval s = vs) (hsb : SB w vs cs) (hle : cs.length ≤ n) (hfit : off + cs.length ≤ L.length)
    (h : ∀ w', Hid (w'.heap[g]? = some (.cells (ab (wrt L off cs)) t (0, 0))) → w.grownBy w' (some g) → wpList Tryd.prog ops Q rest (a.put o.dst (goInt cs.length)) w') : wpList Tryd.prog ops Q (o :: rest) a w := by
  refine wpList_plain hgd fun K hK => ?_
  obtain ⟨w', hr, h2, h3⟩ := run_copyA w o.type g off n c L t hg vs cs hsb hle hfit
  unfold Oper.wp
  simp [execOp, ho, resolve, invoke, builtin, hd, hs, hr, Result.andThen]
  exact hK _ _ (h w' h2 h3)

theorem step_copyA {ops : Array Oper} {o : Oper} {a : Act} {w : World} {K : Act → World → Prop} {Q : Exit → Act → World → Prop} {E : Prop} (hgd : o.guard = none) (d s : Operand)
    (ho : o.op = .call { callee := .builtin .copy, args := #[d, s], argTypes := #[22, 22] }) (g off n c : Nat) (L : List Int) (t : TypeId) (hg : w.heap[g]? = some (.cells (ab L) t (0, 0)))
    (hd : a.eval d = .slice (some ⟨g, off, none⟩) n c) (vs : Value) (cs : List Int) (hs : a.eval s = vs) (hsb : SB w vs cs) (hle : cs.length ≤ n) (hfit : off + cs.length ≤ L.length)
    (h : ∀ w', Hid (w'.heap[g]? = some (.cells (ab (wrt L off cs)) t (0, 0))) → w.grownBy w' (some g) → K (a.put o.dst (goInt cs.length)) w') :
    if Region.wanted o (yielded ops a.tmps) = true then Oper.wp Tryd.prog o a w K Q else E := by
  have hw : Region.wanted o (yielded ops a.tmps) = true := by simp [Region.wanted, hgd]
  rw [if_pos hw]
  obtain ⟨w', hr, h2, h3⟩ := run_copyA w o.type g off n c L t hg vs cs hsb hle hfit
  unfold Oper.wp
  simp [execOp, ho, resolve, invoke, builtin, hd, hs, hr, Result.andThen]
  exact h w' h2 h3
end Go.Proofs.YtaeifigbnlffbaaDoor

