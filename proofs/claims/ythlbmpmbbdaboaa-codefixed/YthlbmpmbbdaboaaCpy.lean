import Derived.Test.YthlbmpmbbdaboaaSpo
import Derived.Laws.CopyOwn
namespace Go.Proofs.Ythlbmpmbbdaboaa
open Go.RowKit Go.Maps
set_option maxRecDepth 20000

theorem run_copy_gr {P : Program} (w : World) (dT sT ty elem : TypeId) (hu : P.underlying dT = some (.slice elem)) (hsz : (P.info? elem).map (·.size) = some 1) (dp sp : Option Addr) (dLen dCap sLen sCap : Nat)
    (g off : Nat) (cur : List Value) (t : TypeId) (hg : w.heap[g]? = some (.cells cur.toArray t (0, 0))) (cs : List Value) (hn : cs.length = Nat.min sLen dLen)
    (hpos : 0 < cs.length → dp = some ⟨g, off, none⟩ ∧ ∃ ad, sp = some ad ∧ ∀ j v, cs[j]? = some v → w.cell? (ad.add j) = some v) (hfit : off + cs.length ≤ cur.length) (h1 : ∀ v ∈ cs, v.oneCell' = true) :
    ∃ w', (Builtin.copy_ #[dT, sT] ty #[.slice dp dLen dCap, .slice sp sLen sCap]).run P w = .ok (goInt cs.length) w' ∧ w'.heap[g]? = some (.cells (splice cur off cs).toArray t (0, 0)) ∧ w.grownBy w' (some g) := by
  by_cases h0 : cs.length = 0
  · obtain rfl : cs = [] := List.eq_nil_of_length_eq_zero h0
    exact ⟨w, run_copy_none (P := P) w dT sT ty elem dp sp dLen dCap sLen sCap hu hsz (by simpa using hn.symm), by rw [hg]; simp [splice], ⟨rfl, rfl, rfl, Nat.le_refl _, fun _ _ _ => rfl⟩⟩
  · obtain ⟨rfl, ad, rfl, hsrc⟩ := hpos (by omega)
    exact ⟨_, run_copy_row (P := P) w dT sT ty elem g off dLen dCap ad sLen sCap cur.toArray t cs hu hsz hg hn hsrc (by simpa using hfit) h1, by simpa [splice] using setRow_heap w g _ _ t _ hg, ⟨rfl, rfl, rfl, by simp, fun k _ hk => setRow_other w g k _ (fun e => hk (by rw [e]))⟩⟩

theorem wpList_copy_gr {P : Program} {w : World} {ops : Array Oper} {rest : List Oper} {o : Oper} {a : Act} {Q : Exit → Act → World → Prop} (hgd : o.guard = none) (d s : Operand) (dT sT : TypeId)
    (ho : o.op = .call { callee := .builtin .copy, args := #[d, s], argTypes := #[dT, sT] }) (elem : TypeId) (hu : P.underlying dT = some (.slice elem)) (hsz : (P.info? elem).map (·.size) = some 1)
    (dp sp : Option Addr) (dLen dCap sLen sCap : Nat) (hd : a.eval d = .slice dp dLen dCap) (hs : a.eval s = .slice sp sLen sCap)
    (g off : Nat) (cur : List Value) (t : TypeId) (hg : w.heap[g]? = some (.cells cur.toArray t (0, 0))) (cs : List Value) (hn : cs.length = Nat.min sLen dLen)
    (hpos : 0 < cs.length → dp = some ⟨g, off, none⟩ ∧ ∃ ad, sp = some ad ∧ ∀ j v, cs[j]? = some v → w.cell? (ad.add j) = some v) (hfit : off + cs.length ≤ cur.length) (h1 : ∀ v ∈ cs, v.oneCell' = true)
    (h : ∀ w', Hid (w'.heap[g]? = some (.cells (splice cur off cs).toArray t (0, 0))) → w.grownBy w' (some g) → wpList P ops Q rest (a.put o.dst (goInt cs.length)) w') :
    wpList P ops Q (o :: rest) a w := by
  obtain ⟨w', hrun, h2, h3⟩ := run_copy_gr (P := P) w dT sT o.type elem hu hsz dp sp dLen dCap sLen sCap g off cur t hg cs hn hpos hfit h1
  refine wpList_plain hgd fun K hK => ?_
  unfold Oper.wp
  simp [execOp, ho, resolve, invoke, builtin, hd, hs, hrun, Result.andThen]
  exact hK _ _ (h w' h2 h3)

theorem step_copy_gr {P : Program} {ops : Array Oper} {o : Oper} {a : Act} {w : World} {K : Act → World → Prop} {Q : Exit → Act → World → Prop} {E : Prop} (hgd : o.guard = none) (d s : Operand) (dT sT : TypeId)
    (ho : o.op = .call { callee := .builtin .copy, args := #[d, s], argTypes := #[dT, sT] }) (elem : TypeId) (hu : P.underlying dT = some (.slice elem)) (hsz : (P.info? elem).map (·.size) = some 1)
    (dp sp : Option Addr) (dLen dCap sLen sCap : Nat) (hd : a.eval d = .slice dp dLen dCap) (hs : a.eval s = .slice sp sLen sCap)
    (g off : Nat) (cur : List Value) (t : TypeId) (hg : w.heap[g]? = some (.cells cur.toArray t (0, 0))) (cs : List Value) (hn : cs.length = Nat.min sLen dLen)
    (hpos : 0 < cs.length → dp = some ⟨g, off, none⟩ ∧ ∃ ad, sp = some ad ∧ ∀ j v, cs[j]? = some v → w.cell? (ad.add j) = some v) (hfit : off + cs.length ≤ cur.length) (h1 : ∀ v ∈ cs, v.oneCell' = true)
    (h : ∀ w', Hid (w'.heap[g]? = some (.cells (splice cur off cs).toArray t (0, 0))) → w.grownBy w' (some g) → K (a.put o.dst (goInt cs.length)) w') :
    if Region.wanted o (yielded ops a.tmps) = true then Oper.wp P o a w K Q else E := by
  have hw : Region.wanted o (yielded ops a.tmps) = true := by simp [Region.wanted, hgd]
  rw [if_pos hw]
  obtain ⟨w', hrun, h2, h3⟩ := run_copy_gr (P := P) w dT sT o.type elem hu hsz dp sp dLen dCap sLen sCap g off cur t hg cs hn hpos hfit h1
  unfold Oper.wp
  simp [execOp, ho, resolve, invoke, builtin, hd, hs, hrun, Result.andThen]
  exact h w' h2 h3


/-- A copy into the front of a list. -/
theorem Herd.copyI {W w w' : World} {xs : List ((Nat → Nat) × Thing)} (H : Herd W w xs) (i : Nat) {K : Nat → Nat} {g c : Nat} {L : List Int} (hi : xs[i]? = some (K, ti (.slice (some ⟨g, 0, none⟩) L.length c) L)) (cs : List Int) (hcs : cs.length ≤ L.length) {cur : List Value}
    (hg : w.heap[g]? = some (.cells cur.toArray 3 (0, 0))) (h1 : w'.heap[g]? = some (.cells (splice cur 0 (cs.map (Value.int .i64))).toArray 3 (0, 0))) (h2 : w.grownBy w' (some g)) : Herd W w' (xs.set i (K, ti (.slice (some ⟨g, 0, none⟩) L.length c) (cs ++ L.drop cs.length))) := by
  have hp : (ti (.slice (some ⟨g, 0, none⟩) L.length c) L).P w K := H.rep i _ hi
  have hgk : K g ≠ 0 := hp.2.1 g rfl
  refine H.op i hi (x' := ti (.slice (some ⟨g, 0, none⟩) L.length c) (cs ++ L.drop cs.length)) ⟨?_, hp.2.1, fun k hk => Nat.lt_of_lt_of_le (hp.2.2 k hk) h2.size⟩ ⟨h2.os, h2.tape, h2.output, h2.size, fun k hk h0 => h2.block k hk (fun e => hgk (by simp only [Option.some.injEq] at e; rw [← e]; exact h0)), fun _ _ => rfl⟩
  rcases hp.1.2 with ⟨hv, _⟩ | ⟨g', cap, cur', hv, hb, hg', hn, hm, hs, ht⟩
  · simp at hv
  · simp only [Value.slice.injEq, Option.some.injEq, Addr.mk.injEq] at hv
    obtain ⟨⟨rfl, -, -⟩, -, rfl⟩ := hv
    rw [hg] at hg'
    simp only [Option.some.injEq, Obj.cells.injEq] at hg'
    obtain ⟨rfl, -⟩ := hg'
    have hlen : (cs ++ L.drop cs.length).length = L.length := by rw [List.length_append, List.length_drop]; omega
    refine ⟨by rw [List.length_map]; omega, .inr ⟨g, c, _, by rw [hlen], hb, h1, by rw [hlen]; exact hn, hm, ?_, ?_⟩⟩
    · have hsz : cur.length = c * 1 := by simpa using hs
      rw [List.size_toArray, length_splice _ _ _ (by rw [List.length_map]; omega)]; exact hsz
    · rw [hlen]
      simp only at ht ⊢
      have hcl : cs.length ≤ cur.length := by simp at hs; omega
      have e : splice cur 0 (cs.map (Value.int .i64)) = cs.map (Value.int .i64) ++ cur.drop cs.length := by simp [splice]
      rw [e, List.take_append, List.length_map, List.take_of_length_le (by rw [List.length_map]; omega), List.map_append]
      congr 1
      rw [List.map_drop, ← ht, List.drop_take]

theorem drop_rev {l : List Int} {k : Nat} (h : k < l.length) : (l.drop k).reverse = (l.drop (k + 1)).reverse ++ [l.getD k 0] := by
  rw [List.drop_eq_getElem_cons h, List.reverse_cons]
  simp [h]

theorem backward_any (v : Value) (l : List Int) (w : World) (h : SI w v l) (hr : l.length ≤ 17592186043904) :
    Calls Try.prog 25 #[v] w fun e w' => ∃ a c, e = .returned (.slice a l.length c) ∧ OI w' w.heap.size (.slice a l.length c) l.reverse ∧ Below w.heap.size w w' := by
  have HS := hide h
  obtain ⟨ao, cap, rfl, hlc, hcm⟩ := h.open
  clear h
  go_enter Try.func25, Try.ntmps25
  go_wp2
  go_loopw [3, 4] (fun u i wr => ∃ k : Nat, k ≤ l.length ∧ i = .int .i64 ((k : Int) - 1) ∧ Hid (OI wr w.heap.size u (l.drop k).reverse) ∧ Hid (Below w.heap.size w wr)) (fun _ i _ => ((intOf i) + 1).toNat)
  case atStart => exact ⟨l.length, Nat.le_refl _, rfl, by show OI _ _ _ _; rw [List.drop_of_length_le (Nat.le_refl _)]; exact World.ownsRow_nil _ _ _ _, Below.refl _ _⟩
  case round =>
    obtain ⟨k, hk, rfl, HO, HB⟩ := hrel
    by_cases h0 : k = 0
    · subst h0
      have h0' : ¬ (0 : Int) ≤ ((0 : Nat) : Int) - 1 := by omega
      have HF : Hid (OI wr w.heap.size u3 l.reverse) := HO.out
      clear HO
      obtain ⟨a1, p1, hu⟩ := HF.out.shape
      rw [List.length_reverse] at hu
      subst hu
      go_wp2
      go_ret
      exact ⟨_, _, rfl, HF.out, HB.out⟩
    · obtain ⟨m, rfl⟩ : ∃ m, k = m + 1 := ⟨k - 1, by omega⟩
      have e1 : ((m + 1 : Nat) : Int) - 1 = m := by omega
      rw [e1]
      have hm0 : (0 : Int) ≤ m := by omega
      obtain ⟨b, o, rfl, hc⟩ := HS.out.get HB.out (k := m) (by omega)
      have HD := hide (drop_rev (l := l) (k := m) (by omega))
      obtain ⟨y, HY⟩ : ∃ y, Hid (y = l.getD m 0) := ⟨_, rfl⟩
      rw [← HY.out] at hc HD
      obtain ⟨D, HDD⟩ : ∃ D, Hid (D = (l.drop (m + 1)).reverse) := ⟨_, rfl⟩
      have hDl : D.length ≤ l.length := by rw [HDD.out, List.length_reverse, List.length_drop]; omega
      rw [← HDD.out] at HO HD
      have hBw := HB.out.size
      obtain ⟨a1, p1, hu⟩ := HO.out.shape
      subst hu
      have HALC : Hid (OI (wr.alloc (.cells #[.int .i64 y] 3)) w.heap.size (.slice a1 D.length p1) D) := HO.out.alloc _
      have HSR : Hid (Src Try.prog 1 22 (.slice (some ⟨wr.heap.size, 0, none⟩) 1 1) ([y] : List Int).length (([y] : List Int).map (Value.int .i64)) (wr.alloc (.cells #[.int .i64 y] 3))) := built_srcI wr [y]
      clear e1
      go_wp2_with (at_builtin; refine wpList_appI rfl _ _ 22 rfl w.heap.size _ _ D [y] rfl HALC.out rfl HSR.out (by simp; omega) (by simp; omega) ?_)
      intro v3 w3 ho3 hgr3
      have HN : Hid (OI w3 w.heap.size v3 (l.drop m).reverse ∧ Below w.heap.size w w3) := by
        refine ⟨by rw [HD.out]; exact ho3, (HB.out.alloc hBw _).grown hgr3.by (by simp; omega) (fun j hj => by have := HO.out.lt j hj; omega)⟩
      clear ho3 hgr3
      go_wp2
      go_roundw
      case rel => exact ⟨m, by omega, by go_num, HN.out.1, HN.out.2⟩
      case measure => simp [intOf]
end Go.Proofs.Ythlbmpmbbdaboaa
