import Derived.Test.YtegoienjikjhkaaDoorGA28
import Derived.Test.YtegoienjikjhkaaDoorGA30
import Derived.Test.YtegoienjikjhkaaDoorGRhr
import Derived.Test.YtegoienjikjhkaaDoorGA40
namespace Go.Proofs.YtegoienjikjhkaaDoor
open Go.RowKit Go.Maps
set_option maxRecDepth 20000
set_option linter.unusedVariables false

theorem ex_app {ys zs : List ((Nat → Nat) × Thing)} {i : Nat} {t : Thing} (h : ∃ K, ys[i]? = some (K, t)) : ∃ K, (ys ++ zs)[i]? = some (K, t) := by
  obtain ⟨K, h⟩ := h
  exact ⟨K, by rw [List.getElem?_append_left (List.getElem?_eq_some_iff.1 h).1]; exact h⟩

theorem ex_last {ys : List ((Nat → Nat) × Thing)} {K : Nat → Nat} {t : Thing} {n : Nat} (hn : ys.length = n) : ∃ K', (ys ++ [(K, t)])[n]? = some (K', t) :=
  ⟨K, by rw [← hn]; simp⟩

/-- Two lists of a herd that hold the same. -/
theorem heq7 {W w : World} {xs : List ((Nat → Nat) × Thing)} (H : Herd W w xs) {i j : Nat} {v u : Value} {X : List Int} (hi : ∃ K, xs[i]? = some (K, ti v X)) (hj : ∃ K, xs[j]? = some (K, ti u X)) :
    Calls Tryd.prog 13 #[v, u] w fun e w' => e = .returned (.bool true) ∧ Herd W w' xs := by
  obtain ⟨K, hi⟩ := hi
  obtain ⟨K', hj⟩ := hj
  refine (isame_any v u X X w (H.isi i hi) (H.isi j hj)).mono ?_
  rintro e w' ⟨he, n, rfl⟩
  exact ⟨by rw [he, show eqI X X = true by simp [eqI]], H.drewN n⟩

theorem halike7 {W w : World} {xs : List ((Nat → Nat) × Thing)} (H : Herd W w xs) {i j : Nat} {v u : Value} {X : List Rn} (hi : ∃ K, xs[i]? = some (K, trr v X)) (hj : ∃ K, xs[j]? = some (K, trr u X)) :
    Calls Tryd.prog 14 #[v, u] w fun e w' => e = .returned (.bool true) ∧ Herd W w' xs := by
  obtain ⟨K, hi⟩ := hi
  obtain ⟨K', hj⟩ := hj
  refine (alike_any v u X X w (H.rep i _ hi).1.sr (H.rep j _ hj).1.sr).mono ?_
  rintro e w' ⟨he, n, rfl⟩
  exact ⟨by rw [he, show eqR X X = true by simp [eqR]], H.drewN n⟩

theorem rd0 {l d : List Int} (h : mkE l d = 0) (hb : Bit (mkB l d)) : rdA (unpack (pack (mkB l d))) 0 = (0, mkL l, mkD d, (mkB l d).length) := by
  rw [(unpack_pack hb).1]
  have h2 := bit_pad hb
  have := rd_back h h2 (p := 0) (rest := List.replicate (((mkB l d).length + 7) / 8 * 8 - (mkB l d).length) 0) (by simp [pad])
  simpa using this

/-- Lists of a herd as own wants them. -/
theorem Herd.lists {W w : World} {xs : List ((Nat → Nat) × Thing)} (H : Herd W w xs) (ls : List (Value × List Int)) (ix : List Nat) (hl : ls.length = ix.length) (hx : ∀ (j : Nat) (p : Value × List Int), ls[j]? = some p → ∃ i K, ix[j]? = some i ∧ xs[i]? = some (K, ti p.1 p.2))
    (hi : ix.Nodup) (hn : ls.length ≤ 100) (hm : ∀ p ∈ ls, p.2.length ≤ 1000) {O : Obj} (hO : ∀ (j : Nat) (p : Value × List Int), ls[j]? = some p → (w.alloc O).cell? ⟨w.heap.size, j, none⟩ = some p.1) : Lists (w.alloc O) 0 ls w.heap.size := by
  have H' := H.below ((Below.refl _ _).alloc (Nat.le_refl _) O)
  refine ⟨fun j p hp => ?_, fun i j p q hp hq hne k hk e => ?_, hO, fun p hp e => ?_, hn, fun p hp => by have := hm p hp; omega, Nat.zero_le _⟩
  · obtain ⟨i, K, _, h⟩ := hx j p hp
    exact H'.ioi i h
  · obtain ⟨i1, K1, a1, h1⟩ := hx i p hp
    obtain ⟨i2, K2, a2, h2⟩ := hx j q hq
    have hd : i1 ≠ i2 := fun e2 => hne (by
      obtain ⟨b1, c1⟩ := List.getElem?_eq_some_iff.1 a1
      obtain ⟨b2, c2⟩ := List.getElem?_eq_some_iff.1 a2
      exact (List.getElem_inj hi).1 (by rw [c1, c2, e2]))
    have k1 : K1 k ≠ 0 := (H.rep i1 _ h1).2.1 k hk
    have k2 : K2 k ≠ 0 := (H.rep i2 _ h2).2.1 k e
    exact k2 (H.sep i1 i2 _ _ h1 h2 hd k k1)
  · obtain ⟨j, hj⟩ := List.getElem?_of_mem hp
    obtain ⟨i, K, _, h⟩ := hx j p hj
    have k1 : K w.heap.size ≠ 0 := (H.rep i _ h).2.1 _ e
    have := (H.rep i _ h).2.2 _ k1
    omega

/-- Behind own: a list that own was not given is as it was. -/
theorem Herd.kept7 {W w w' : World} {xs : List ((Nat → Nat) × Thing)} (H : Herd W w xs) {ls : List (Value × List Int)} {ix : List Nat} {O : Obj} (hx : ∀ (j : Nat) (p : Value × List Int), ls[j]? = some p → ∃ i K, ix[j]? = some i ∧ xs[i]? = some (K, ti p.1 p.2)) (hk : Keep ls (w.alloc O) w')
    {i0 : Nat} {K : Nat → Nat} {v : Value} {X : List Int} (h0 : xs[i0]? = some (K, ti v X)) (hni : i0 ∉ ix) : SI w' v X ∧ Below W.heap.size W w' := by
  have hz := H.bel.size
  have hsz : (w.alloc O).heap.size = w.heap.size + 1 := size_alloc' _ _
  have hno : ∀ k, (K k ≠ 0 ∨ k < W.heap.size) → ∀ p ∈ ls, p.1.ownBlock ≠ some k := fun k hk p hp e => by
    obtain ⟨j, hj⟩ := List.getElem?_of_mem hp
    obtain ⟨i, Ki, a, h⟩ := hx j p hj
    have hi : i ∈ ix := List.mem_of_getElem? a
    have k1 : Ki k ≠ 0 := (H.rep i _ h).2.1 k e
    rcases hk with q | q
    · exact k1 (H.sep i0 i _ _ h0 h (fun e2 => hni (by rw [e2]; exact hi)) k q)
    · have := H.up i _ h k k1
      omega
  have hr := H.rep i0 _ h0
  refine ⟨(hr.1.move (w' := w') fun k hk' => ?_).sb, ⟨hk.os.trans H.bel.os, hk.tape.trans H.bel.tape, hk.output.trans H.bel.output, by have := hk.size; omega, fun k hk' => ?_⟩⟩
  · have hl := hr.2.2 k (hr.2.1 k hk')
    rw [hk.block k (by omega) (hno k (.inl (hr.2.1 k hk'))), Below.heap_alloc w O k hl]
  · rw [hk.block k (by omega) (hno k (.inr hk')), Below.heap_alloc w O k (by omega)]
    exact H.bel.block k hk'
end Go.Proofs.YtegoienjikjhkaaDoor

namespace Go.Proofs.YtegoienjikjhkaaDoor
open Go.RowKit Go.Maps
set_option maxRecDepth 20000
set_option linter.unusedVariables false

theorem eqR_self (l : List Rn) : eqR l l = true := by simp [eqR]
theorem eqI_self (l : List Int) : eqI l l = true := by simp [eqI]

theorem Spare.below {w w' : World} {v : Value} {n : Nat} (h : Spare w v n) (hb : Below w.heap.size w w') : Spare w' v n := by
  obtain ⟨g, rfl, h⟩ := h
  exact ⟨g, rfl, fun j hj => (hb.cell (World.block_lt_of_cell? w _ (h j hj))).trans (h j hj)⟩

end Go.Proofs.YtegoienjikjhkaaDoor

namespace Go.Proofs.YtegoienjikjhkaaDoor
open Go.RowKit Go.Maps
set_option maxRecDepth 20000
set_option linter.unusedVariables false
set_option linter.unusedSimpArgs false

theorem sizeRun : (Tryd.prog.info? 39).map (·.size) = some 2 := by kernel_rfl

theorem run_copyR (w : World) (ty : TypeId) (g n dCap : Nat) (sp : Option Addr) (sCap : Nat) (R : List Rn) (cur : Array Value) (hR : R.length = n) (hg : w.heap[g]? = some (.cells cur 39 (0, 0))) (hc : cur.size = n * 2)
    (hS : SR w (.slice sp n sCap) R) : (Builtin.copy_ #[27, 27] ty #[.slice (some ⟨g, 0, none⟩) n dCap, .slice sp n sCap]).run Tryd.prog w = .ok (goInt n) (w.setRow g (fr2 R).toArray) := by
  obtain ⟨ao, cap', he, h1, h2, h3, h4⟩ := hS
  simp only [Value.slice.injEq] at he
  obtain ⟨rfl, -, rfl⟩ := he
  have hfl := fr2_len R
  have hst := run_storeCells_at Tryd.prog g 0 39 (fr2 R) 0 cur w hg (by rw [hfl, hc, hR]; omega) (fr2_one R)
  have e : (List.take 0 cur.toList ++ fr2 R ++ List.drop (0 + 0 + (fr2 R).length) cur.toList) = fr2 R := by
    rw [List.take_zero, List.nil_append, List.drop_of_length_le (by rw [hfl, hR]; simp [hc]), List.append_nil]
  rw [e] at hst
  obtain ⟨i, hi, hz, hsz, hby⟩ := info_parts infoRun
  cases sp with
  | none =>
    have := h3 rfl
    obtain rfl : R = [] := List.eq_nil_of_length_eq_zero (by omega)
    obtain rfl : n = 0 := by rw [← hR]; rfl
    have hst' : (storeCells ⟨g, 0, none⟩ ([] : List Value) 0).run Tryd.prog w = .ok () (w.setRow g (fr2 []).toArray) := hst
    simp [Builtin.copy_, run_underlying Tryd.underlying27, Builtin.lenOf, Builtin.firstCells, sizeOf, typeInfo, hi, hsz, hst']
  | some x =>
    have hl : (loadCells x (n * 2)).run Tryd.prog w = .ok (fr2 R).toArray w := by
      have := run_loadCells_list (P := Tryd.prog) w x (fr2 R) (fun j v hj => by
        have hjl : j < R.length * 2 := by rw [← hfl]; exact (List.getElem?_eq_some_iff.1 hj).1
        obtain ⟨g1, g2⟩ := fr2_get (R := R) (i := j / 2) (by omega)
        obtain ⟨c1, c2⟩ := h4 x rfl (j / 2) (by omega)
        by_cases q : j % 2 = 0
        · rw [show j / 2 * 2 = j by omega] at g1 c1
          rw [hj] at g1
          rw [c1, g1]
        · rw [show j / 2 * 2 + 1 = j by omega] at g2 c2
          rw [hj] at g2
          rw [c2, g2])
      rwa [hfl, hR] at this
    simp [Builtin.copy_, run_underlying Tryd.underlying27, Builtin.lenOf, Builtin.firstCells, sizeOf, typeInfo, hi, hsz, hl, hst]

theorem wpRunCopy {w : World} {ops : Array Oper} {rest : List Oper} {o : Oper} {a : Act} {Q : Exit → Act → World → Prop} (hgd : o.guard = none) (d s : Operand)
    (ho : o.op = .call { callee := .builtin .copy, args := #[d, s], argTypes := #[27, 27] }) (g n dCap : Nat) (sp : Option Addr) (sCap : Nat) (R : List Rn) (cur : Array Value) (hR : R.length = n) (hg : w.heap[g]? = some (.cells cur 39 (0, 0))) (hc : cur.size = n * 2)
    (hd : a.eval d = .slice (some ⟨g, 0, none⟩) n dCap) (hs : a.eval s = .slice sp n sCap) (hS : SR w (.slice sp n sCap) R) (hn : n ≤ 9223372036854775807)
    (h : ∀ w', Hid (w'.heap[g]? = some (.cells (fr2 R).toArray 39 (0, 0))) → w' = w.setRow g (fr2 R).toArray → wpList Tryd.prog ops Q rest (a.put o.dst (goInt n)) w') : wpList Tryd.prog ops Q (o :: rest) a w := by
  refine wpList_plain hgd fun K hK => ?_
  have hr := run_copyR w o.type g n dCap sp sCap R cur hR hg hc hS
  unfold Oper.wp
  simp [execOp, ho, resolve, invoke, builtin, hd, hs, hr, Result.andThen]
  exact hK _ _ (h _ (setRow_heap w g cur _ 39 _ hg) rfl)

set_option maxHeartbeats 1000000 in
theorem lruns_any (v : Value) (R : List Rn) (w : World) (h : SR w v R) (hn : R.length ≤ 1048576) :
    Calls Tryd.prog 11 #[v] w fun e w' => e = .returned (.slice (some ⟨w.heap.size, 0, none⟩) R.length R.length) ∧ OR w' w.heap.size (.slice (some ⟨w.heap.size, 0, none⟩) R.length R.length) R ∧ Below w.heap.size w w' := by
  have HS := hide h
  obtain ⟨ao, cap, rfl, hlc, hcm⟩ := h.open
  clear h
  obtain ⟨i0, hi, hz0, hz1, hz2⟩ := info_parts infoRun
  have HI := hide hi
  have HZ0 := hide hz0
  have HZ1 := hide hz1
  have HZ2 := hide hz2
  clear hi hz0 hz1 hz2
  go_enter Tryd.func11, Tryd.ntmps11
  go_wp2_with (at_make; refine wpList_make_full _ rfl _ _ 27 rfl w.heap.size 39 i0 (.agg #[.int .i64 0, .int .i64 0]) 2 Tryd.underlying27 HI.out HZ0.out HZ1.out _ _ _ _ R.length rfl rfl rfl rfl ?b2 ?b3 ?b4 ?_)
  case b2 => rw [HZ2.out]; omega
  case b3 => unfold maxLen; omega
  case b4 => exact Nat.le_refl _
  intro w1 hown hgrow
  have hb1 : Below w.heap.size w w1 := (Below.refl _ _).grown hgrow (Nat.le_refl _) (fun k hk => by cases hk)
  obtain ⟨cur, hg, hcs⟩ : ∃ cur, w1.heap[w.heap.size]? = some (.cells cur 39 (0, 0)) ∧ cur.size = R.length * 2 := by
    rcases hown.2 with ⟨hv, _⟩ | ⟨g, cp, cur, hv, _, hg, _, _, hs, _⟩
    · exact absurd hv (by simp)
    · simp only [Value.slice.injEq, Option.some.injEq, Addr.mk.injEq, and_true] at hv
      obtain ⟨rfl, -, rfl⟩ := hv
      exact ⟨cur, hg, hs⟩
  have HG := hide hg
  have HC := hide hcs
  have HB1 := hide hb1
  have HS1 := hide (HS.out.below hb1)
  clear hown hgrow hb1 hg hcs
  go_wp2_with (refine wpRunCopy rfl _ _ rfl w.heap.size R.length R.length _ _ R cur rfl HG.out HC.out rfl rfl HS1.out (by omega) ?_)
  intro w2 hg2 hw2
  have HF : Hid (OR w2 w.heap.size (.slice (some ⟨w.heap.size, 0, none⟩) R.length R.length) R ∧ Below w.heap.size w w2) := by
    refine ⟨⟨by rw [fr2_len], .inr ⟨w.heap.size, R.length, _, rfl, Nat.le_refl _, hg2.out, Nat.le_refl _, by unfold maxLen; omega, by simp [fr2_len], ?_⟩⟩, ?_⟩
    · rw [List.take_of_length_le (by simp [fr2_len])]
    · rw [hw2]; first | exact below_setRow HB1.out (Nat.le_refl _) _ | exact below_setRow HB1.out (Nat.le_refl _)
  clear hg2 hw2
  go_wp2
  go_ret
  exact ⟨rfl, HF.out.1, HF.out.2⟩
end Go.Proofs.YtegoienjikjhkaaDoor

