import Derived.Test.YtiabhmdefaabgaaDoorGRlr
namespace Go.Proofs.YtiabhmdefaabgaaDoor
open Go.RowKit Go.Maps
set_option maxRecDepth 20000
set_option linter.unusedVariables false
set_option linter.unusedSimpArgs false

theorem sizeRun : (Tryd.prog.info? 25).map (·.size) = some 2 := by kernel_rfl

theorem run_copyR (w : World) (ty : TypeId) (g n dCap : Nat) (sp : Option Addr) (sCap : Nat) (R : List Rn) (cur : Array Value) (hR : R.length = n) (hg : w.heap[g]? = some (.cells cur 25 (0, 0))) (hc : cur.size = n * 2)
    (hS : SR w (.slice sp n sCap) R) : (Builtin.copy_ #[22, 22] ty #[.slice (some ⟨g, 0, none⟩) n dCap, .slice sp n sCap]).run Tryd.prog w = .ok (goInt n) (w.setRow g (fr2 R).toArray) := by
  obtain ⟨ao, cap', he, h1, h2, h3, h4⟩ := hS
  simp only [Value.slice.injEq] at he
  obtain ⟨rfl, -, rfl⟩ := he
  have hfl := fr2_len R
  have hst := run_storeCells_at Tryd.prog g 0 25 (fr2 R) 0 cur w hg (by rw [hfl, hc, hR]; omega) (fr2_one R)
  have e : (List.take 0 cur.toList ++ fr2 R ++ List.drop (0 + 0 + (fr2 R).length) cur.toList) = fr2 R := by
    rw [List.take_zero, List.nil_append, List.drop_of_length_le (by rw [hfl, hR]; simp [hc]), List.append_nil]
  rw [e] at hst
  obtain ⟨i, hi, hz, hsz, hby⟩ := info_parts infoRun
  cases sp with
  | none =>
    have := h3 rfl
    obtain rfl : R = [] := List.eq_nil_of_length_eq_zero (by omega)
    obtain rfl : n = 0 := by rw [← hR]; rfl
    have hst' : (storeCells ⟨g, 0, none⟩ ([] : List Value) 0).run Tryd.prog w = .ok () (w.setRow g (fr2 []).toArray) := hst
    simp [Builtin.copy_, run_underlying Tryd.underlying22, Builtin.lenOf, Builtin.firstCells, sizeOf, typeInfo, hi, hsz, hst']
  | some x =>
    have hl : (loadCells x (n * 2)).run Tryd.prog w = .ok (fr2 R).toArray w := by
      have := run_loadCells_list (P := Tryd.prog) w x (fr2 R) (fun j v hj => by
        have hjl : j < R.length * 2 := by rw [← hfl]; exact (List.getElem?_eq_some_iff.1 hj).1
        obtain ⟨g1, g2⟩ := fr2_get (R := R) (i := j / 2) (by omega)
        obtain ⟨c1, c2⟩ := h4 x rfl (j / 2) (by omega)
        by_cases q : j % 2 = 0
        · rw [show j / 2 * 2 = j by omega] at g1 c1
          rw [hj] at g1
          rw [c1, g1]
        · rw [show j / 2 * 2 + 1 = j by omega] at g2 c2
          rw [hj] at g2
          rw [c2, g2])
      rwa [hfl, hR] at this
    simp [Builtin.copy_, run_underlying Tryd.underlying22, Builtin.lenOf, Builtin.firstCells, sizeOf, typeInfo, hi, hsz, hl, hst]

theorem wpRunCopy {w : World} {ops : Array Oper} {rest : List Oper} {o : Oper} {a : Act} {Q : Exit → Act → World → Prop} (hgd : o.guard = none) (d s : Operand)
    (ho : o.op = .call { callee := .builtin .copy, args := #[d, s], argTypes := #[22, 22] }) (g n dCap : Nat) (sp : Option Addr) (sCap : Nat) (R : List Rn) (cur : Array Value) (hR : R.length = n) (hg : w.heap[g]? = some (.cells cur 25 (0, 0))) (hc : cur.size = n * 2)
    (hd : a.eval d = .slice (some ⟨g, 0, none⟩) n dCap) (hs : a.eval s = .slice sp n sCap) (hS : SR w (.slice sp n sCap) R) (hn : n ≤ 9223372036854775807)
    (h : ∀ w', Hid (w'.heap[g]? = some (.cells (fr2 R).toArray 25 (0, 0))) → w' = w.setRow g (fr2 R).toArray → wpList Tryd.prog ops Q rest (a.put o.dst (goInt n)) w') : wpList Tryd.prog ops Q (o :: rest) a w := by
  refine wpList_plain hgd fun K hK => ?_
  have hr := run_copyR w o.type g n dCap sp sCap R cur hR hg hc hS
  unfold Oper.wp
  simp [execOp, ho, resolve, invoke, builtin, hd, hs, hr, Result.andThen]
  exact hK _ _ (h _ (setRow_heap w g cur _ 25 _ hg) rfl)

set_option maxHeartbeats 1000000 in
theorem lruns_any (v : Value) (R : List Rn) (w : World) (h : SR w v R) (hn : R.length ≤ 1048576) :
    Calls Tryd.prog 9 #[v] w fun e w' => e = .returned (.slice (some ⟨w.heap.size, 0, none⟩) R.length R.length) ∧ OR w' w.heap.size (.slice (some ⟨w.heap.size, 0, none⟩) R.length R.length) R ∧ Below w.heap.size w w' := by
  have HS := hide h
  obtain ⟨ao, cap, rfl, hlc, hcm⟩ := h.open
  clear h
  obtain ⟨i0, hi, hz0, hz1, hz2⟩ := info_parts infoRun
  have HI := hide hi
  have HZ0 := hide hz0
  have HZ1 := hide hz1
  have HZ2 := hide hz2
  clear hi hz0 hz1 hz2
  go_enter Tryd.func9, Tryd.ntmps9
  go_wp2_with (at_make; refine wpList_make_full _ rfl _ _ 22 rfl w.heap.size 25 i0 (.agg #[.int .i64 0, .int .i64 0]) 2 Tryd.underlying22 HI.out HZ0.out HZ1.out _ _ _ _ R.length rfl rfl rfl rfl ?b2 ?b3 ?b4 ?_)
  case b2 => rw [HZ2.out]; omega
  case b3 => unfold maxLen; omega
  case b4 => exact Nat.le_refl _
  intro w1 hown hgrow
  have hb1 : Below w.heap.size w w1 := (Below.refl _ _).grown hgrow (Nat.le_refl _) (fun k hk => by cases hk)
  obtain ⟨cur, hg, hcs⟩ : ∃ cur, w1.heap[w.heap.size]? = some (.cells cur 25 (0, 0)) ∧ cur.size = R.length * 2 := by
    rcases hown.2 with ⟨hv, _⟩ | ⟨g, cp, cur, hv, _, hg, _, _, hs, _⟩
    · exact absurd hv (by simp)
    · simp only [Value.slice.injEq, Option.some.injEq, Addr.mk.injEq, and_true] at hv
      obtain ⟨rfl, -, rfl⟩ := hv
      exact ⟨cur, hg, hs⟩
  have HG := hide hg
  have HC := hide hcs
  have HB1 := hide hb1
  have HS1 := hide (HS.out.below hb1)
  clear hown hgrow hb1 hg hcs
  go_wp2_with (refine wpRunCopy rfl _ _ rfl w.heap.size R.length R.length _ _ R cur rfl HG.out HC.out rfl rfl HS1.out (by omega) ?_)
  intro w2 hg2 hw2
  have HF : Hid (OR w2 w.heap.size (.slice (some ⟨w.heap.size, 0, none⟩) R.length R.length) R ∧ Below w.heap.size w w2) := by
    refine ⟨⟨by rw [fr2_len], .inr ⟨w.heap.size, R.length, _, rfl, Nat.le_refl _, hg2.out, Nat.le_refl _, by unfold maxLen; omega, by simp [fr2_len], ?_⟩⟩, ?_⟩
    · rw [List.take_of_length_le (by simp [fr2_len])]
    · rw [hw2]; exact below_setRow HB1.out (Nat.le_refl _) _
  clear hg2 hw2
  go_wp2
  go_ret
  exact ⟨rfl, HF.out.1, HF.out.2⟩
end Go.Proofs.YtiabhmdefaabgaaDoor

