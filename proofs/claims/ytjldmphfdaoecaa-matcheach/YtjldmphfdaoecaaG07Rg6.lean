import Derived.Test.YtjldmphfdaoecaaG06Tlr
import Derived.Test.YtjldmphfdaoecaaRows
import Derived.RangeFuncNested
import Derived.RangeFuncBound
import Derived.RangeFuncCalls
import Derived.RangeFuncLeaves
import Derived.RangeFuncBox
import Derived.Shelf.Abstract
import Derived.Shelf.RegionOpen
import Derived.OwnWalkIn
import Derived.TacticsInMore
import Derived.LoopNIn
import Derived.LoopIn
namespace Go.Proofs.Ytjldmphfdaoecaa
open Go.RowKit Go.Maps
set_option maxRecDepth 20000
set_option linter.unusedVariables false

theorem OX.tok {w : World} {base : Nat} {v : Value} {l : List Int} (h : OX w base v l) : ∃ d, tokX v = some (d, []) := by
  rcases h with ⟨rfl, _⟩ | ⟨g, f, cap, cur, rfl, _⟩
  · exact ⟨_, rfl⟩
  · exact ⟨_, rfl⟩

theorem step_appX {ops : Array Oper} {o : Oper} {a : Act} {w : World} {K : Act → World → Prop} {Q : Exit → Act → World → Prop} {E : Prop} (hgd : o.guard = none) (s x : Operand)
    (ho : o.op = .call { callee := .builtin .append, args := #[s, x], argTypes := #[54, 54] }) (base : Nat) (v xv : Value) (l : List Int) (y : Int) (hv : a.eval s = v) (hown : OX w base v l) (hx : a.eval x = xv) (hs : Src Try.prog 1 54 xv 1 [Value.int .i64 y] w)
    (hb : l.length ≤ 1000000000) (hbase : base ≤ w.heap.size)
    (h : ∀ v' w', OX w' base v' (l ++ [y]) → Grew w w' v v' → K (a.put o.dst v') w') :
    if Region.wanted o (yielded ops a.tmps) = true then Oper.wp Try.prog o a w K Q else E := by
  have hw : Region.wanted o (yielded ops a.tmps) = true := by simp [Region.wanted, hgd]
  rw [if_pos hw]
  obtain ⟨v', w', hr, h2, h3⟩ := run_appX w base o.type v xv l y hown hs hb hbase
  unfold Oper.wp
  simp [execOp, ho, resolve, invoke, builtin, hv, hx, hr, Result.andThen]
  exact h v' w' h2 h3

theorem src_one {w : World} {b : Nat} {x : Int} (hb : w.heap[b]? = some (.cells #[.int .i64 x] 3 (0, 0))) : Src Try.prog 1 54 (.slice (some ⟨b, 0, none⟩) 1 1) 1 [Value.int .i64 x] w := by
  refine Src.ofSlice _ Try.underlying54 _ _ _ _ (by simp) (fun j u hj => ?_) (fun u hu => by rw [List.mem_singleton.1 hu]; rfl)
  obtain ⟨hj1, rfl⟩ := List.getElem?_eq_some_iff.1 hj
  have : j = 0 := by simp at hj1; exact hj1
  subst this
  exact cellIn hb rfl

theorem Tlr.entered {w w3 wA w6 w7 : World} {base g m N W C a n nx : Nat} {v v6 : Value} {D : List Int} {z : Bool} {f : Int × Int × Int → Value} (h : Tlr w base g m N v D W C z f a n nx) (hk : Key3 (thk D (a + n))) (hbw : base ≤ w.heap.size)
    (h3 : Below w.heap.size w w3) (h6 : Below base w3 wA) (h6b : ∀ b, b < w3.heap.size → b ≠ m → wA.heap[b]? = w3.heap[b]?)
    (ho : OX w6 base v6 (ins (plc D (thk D (a + n)) a n) ++ [((a + n : Nat) : Int)])) (hg : Grew wA w6 (f (thk D (a + n))) v6) (h7 : MP w7 m (N + 1) (fup f (thk D (a + n)) v6)) (hgr : w6.grownBy w7 (some m)) :
    Tlr w7 base g m (N + 1) v D W C z (fup f (thk D (a + n)) v6) a (n + 1) nx ∧ Below base w w7 ∧ FT g m f (fup f (thk D (a + n)) v6) w w7 := by
  have hs3 := h3.size
  have hsA := h6.size
  have hgb := hg.by
  have hs6 := hgb.size
  have hs7 := hgr.size
  have hml := h.lt
  have hrow := h.rows _ hk
  have hfr : ∀ b, b < w.heap.size → b ≠ m → (f (thk D (a + n))).ownBlock ≠ some b → w7.heap[b]? = w.heap[b]? := fun b hb hbm hbk =>
    (hgr.block b (by omega) (fun e => hbm (by injection e))).trans ((hgb.block b (by omega) (fun e => hbk e.symm)).trans ((h6b b (by omega) hbm).trans (h3.block b hb)))
  have hv6 : ∀ b, v6.ownBlock = some b → (f (thk D (a + n))).ownBlock = some b ∨ w.heap.size ≤ b := fun b hb => by
    rcases hg.at with e | e
    · rw [e] at hb; injection hb with hb; right; omega
    · rw [e] at hb; exact .inl hb
  have ho7 : OX w7 base v6 (ins (plc D (thk D (a + n)) a (n + 1))) := by
    rw [plc_enter, ins_snoc]
    refine ho.move fun b hb => hgr.block b (ho.lt b hb).2 fun e => ?_
    injection e with e
    rcases hv6 b hb with q | q
    · exact (h.off _ b hk q).2 e
    · omega
  refine ⟨h.turn hk hbw hfr ho7 hv6 h7 fun q hq hne => plc_enter_ne (fun e => hne e.symm), ⟨hgr.os.trans (hgb.os.trans (h6.os.trans h3.os)), hgr.tape.trans (hgb.tape.trans (h6.tape.trans h3.tape)), hgr.output.trans (hgb.output.trans (h6.output.trans h3.output)), by omega, fun b hb => ?_⟩, FT.turn hk (by omega) hfr hv6⟩
  exact hfr b (by omega) (by have := h.bm; omega) (fun e => by have := (hrow.lt b e).1; omega)

set_option maxHeartbeats 4000000 in
theorem enter_any (w : World) (base g m N W C a n nx : Nat) (v : Value) (D : List Int) (z : Bool) (f : Int × Int × Int → Value) (h : Tlr w base g m N v D W C z f a n nx) (hB : Byt D) (hp : a + n + 3 ≤ D.length) (hn : D.length ≤ 1000000000) (hN : N ≤ 1000000000) (hbw : base ≤ w.heap.size) :
    Calls Try.prog 24 #[.pointer (some ⟨g, 0, none⟩), .int .i64 ((a + n : Nat) : Int)] w fun e w' => e = .returned (.tuple #[]) ∧ ∃ f', Tlr w' base g m (N + 1) v D W C z f' a (n + 1) nx ∧ Below base w w' ∧ FT g m f f' w w' := by
  have HT := hide h
  have HBY := hide hB
  have HKY := hide (Tlr.key hB (a + n))
  obtain ⟨hgl, hml⟩ := h.lt
  have hgm := h.gm
  have c0 := h.box.cells.1
  have HTH := hide (three_any v D (a + n) w h.dat hp hn)
  rw [thr_kv] at HTH
  obtain ⟨k, HK⟩ : ∃ k, Hid (k = thk D (a + n)) := ⟨_, rfl⟩
  rw [← HK.out] at HTH HKY
  have hrl : (plc D k a n).length ≤ n := plc_len D k a n
  clear h hB
  obtain ⟨p, HP⟩ : ∃ p : Nat, Hid (p = a + n) := ⟨_, rfl⟩
  rw [← HP.out] at HTH ⊢
  have hp' : p ≤ 1000000000 := by have := HP.out; omega
  go_enter Try.func24, Try.ntmps24
  go_wp2_with fail
  refine HTH.out.mono ?_
  rintro e w2 ⟨rfl, b2⟩
  obtain ⟨k0, k1, k2⟩ := k
  unfold kv
  simp only
  have HW3 : Hid (Below w.heap.size w (w2.alloc (.cells #[.int .u8 k0, .int .u8 k1, .int .u8 k2] 56))) := b2.alloc b2.size _
  obtain ⟨w3, hw3⟩ : ∃ w3, w2.alloc (.cells #[.int .u8 k0, .int .u8 k1, .int .u8 k2] 56) = w3 := ⟨_, rfl⟩
  have kb : w3.heap[w2.heap.size]? = some (.cells #[.int .u8 k0, .int .u8 k1, .int .u8 k2] 56 (0, 0)) := by rw [← hw3]; exact heap_alloc_new w2 _
  have hz3 : w2.heap.size < w3.heap.size := by rw [← hw3]; simp
  have hz2 := b2.size
  rw [hw3] at HW3
  obtain ⟨q, hq⟩ : ∃ q, q = w2.heap.size := ⟨_, rfl⟩
  rw [← hq] at kb hz3 hz2
  have HT3 := hide (HT.out.far HW3.out)
  clear HTH b2
  have HMP : Hid (∀ W : World, W.heap[m]? = w3.heap[m]? → MP W m N f) := fun W hW => HT3.out.map.move hW
  obtain ⟨Z, hZ⟩ : ∃ Z : Obj, Z = .cells #[.int .i64 (p : Int)] 3 := ⟨_, rfl⟩
  obtain ⟨s2, wE2, hE2, gE2, hS2⟩ := MP.entry (HMP.out (w3.alloc Z).drew (Below.heap_alloc w3 Z _ (HT3.out.lt.2))) hN HKY.out
  have l4 : w3.cell? ⟨g, 4, none⟩ = some (.map (some m)) := HT3.out.box.cells.2.2.2.2.1
  have q0 : w3.cell? ⟨q, 0, none⟩ = some (.int .u8 k0) := cellIn kb rfl
  have q1 : w3.cell? ⟨q, 1, none⟩ = some (.int .u8 k1) := cellIn kb rfl
  have q2 : w3.cell? ⟨q, 2, none⟩ = some (.int .u8 k2) := cellIn kb rfl
  unfold kv at hE2
  simp only [goInt] at hE2
  have HROW := hide (HT3.out.rows _ HKY.out)
  have HOFF := hide (HT3.out.off _ m HKY.out)
  obtain ⟨L, HL⟩ : ∃ L, Hid (L = plc D (k0, k1, k2) a n) := ⟨_, hide rfl⟩
  rw [← HL.out] at HROW hrl
  have hLl : (ins L).length ≤ 1000000000 := by rw [ins_len]; omega
  have hmE : m < wE2.heap.size := by have := gE2.size; have := HT3.out.lt.2; simp at *; omega
  have hgl3 : g < w3.heap.size := HT3.out.lt.1
  have hml3 : m < w3.heap.size := HT3.out.lt.2
  have HFR : Hid (∀ b, b < w3.heap.size → b ≠ m → wE2.heap[b]? = w3.heap[b]?) := fun b hb hbm => (gE2.block b (by simp; omega) (fun e => hbm (by injection e))).trans (Below.heap_alloc w3 Z _ hb)
  have HBE : Hid (Below base w3 wE2) := ⟨gE2.os, gE2.tape, gE2.output, by have := gE2.size; simp at this; omega, fun b hb => HFR.out b (by have := HW3.out.size; omega) (by have := HT.out.bm; omega)⟩
  have HSZ : Hid (base ≤ wE2.heap.size) := by show _ ≤ _; have := HBE.out.size; have := HW3.out.size; omega
  have HOX : Hid (OX wE2 base (f (k0, k1, k2)) (ins L)) := HROW.out.move fun b hb => HFR.out b (HROW.out.lt b hb).2 (HT3.out.off _ b HKY.out hb).2
  have HSR : Hid (Src Try.prog 1 54 (.slice (some ⟨w3.heap.size, 0, none⟩) 1 1) 1 [Value.int .i64 (p : Int)] wE2) := src_one ((gE2.block w3.heap.size (by simp) (fun e => by injection e with e; omega)).trans (by rw [hZ]; exact heap_alloc_new w3 _))
  subst hZ
  obtain ⟨fk, HFK⟩ : ∃ fk, Hid (fk = f (k0, k1, k2)) := ⟨_, hide rfl⟩
  rw [← HFK.out] at hE2 HOX HOFF
  have HS2 := hide hS2
  clear hS2 gE2 kb
  go_wp2
  rw [← hq]
  clear hw3 hq
  go_region_law (refine step_appX (by rfl) _ _ (by rfl) base fk (.slice (some ⟨w3.heap.size, 0, none⟩) 1 1) (ins L) (p : Int) (by simp [Act.eval, Act.put]) HOX.out (by simp [Act.eval, Act.put]) HSR.out hLl HSZ.out ?_; intro v6 w6 ho6 hg6; obtain ⟨d6, hd6⟩ := ho6.tok; obtain ⟨w7, hS7, hM7, hG7⟩ := HS2.out w6 v6 d6 (hg6.by.block m hmE (fun e => (HOFF.out e.symm).2 rfl)) hd6; simp only [goInt] at hS7)
  all_goals
    go_end0
    have hpp := HP.out
    rw [HFK.out, HK.out] at hg6
    rw [HK.out] at hM7
    have hky := HKY.out
    rw [HK.out] at hky
    rw [HL.out, HK.out, hpp] at ho6
    exact ⟨rfl, _, HT.out.entered hky hbw HW3.out HBE.out HFR.out ho6 hg6 hM7 hG7⟩
end Go.Proofs.Ytjldmphfdaoecaa

namespace Go.Proofs.Ytjldmphfdaoecaa
open Go.RowKit Go.Maps
set_option maxRecDepth 20000
set_option linter.unusedVariables false

theorem Tlr.leftOut {w w3 w7 : World} {base g m N N' W C a n nx : Nat} {v u : Value} {D : List Int} {z : Bool} {f : Int × Int × Int → Value} (h : Tlr w base g m N v D W C z f a (n + 1) nx) (hk : Key3 (thk D a)) (hbw : base ≤ w.heap.size)
    (h3 : Below w.heap.size w w3) (ho : OX w3 base u (ins (plc D (thk D a) (a + 1) n))) (hub : ∀ b, u.ownBlock = some b → (f (thk D a)).ownBlock = some b) (h7 : MP w7 m N' (fup f (thk D a) u)) (hgr : w3.grownBy w7 (some m)) :
    Tlr w7 base g m N' v D W C z (fup f (thk D a) u) (a + 1) n nx ∧ Below base w w7 ∧ FT g m f (fup f (thk D a) u) w w7 := by
  have hs3 := h3.size
  have hs7 := hgr.size
  have hrow := h.rows _ hk
  have hfr : ∀ b, b < w.heap.size → b ≠ m → w7.heap[b]? = w.heap[b]? := fun b hb hbm => (hgr.block b (by omega) (fun e => hbm (by injection e))).trans (h3.block b hb)
  have ho7 : OX w7 base u (ins (plc D (thk D a) (a + 1) n)) := ho.move fun b hb => hgr.block b (ho.lt b hb).2 fun e => by
    injection e with e
    exact (h.off _ b hk (hub b hb)).2 e
  refine ⟨h.turn hk hbw (fun b h1 h2 _ => hfr b h1 h2) ho7 (fun b hb => .inl (hub b hb)) h7 fun q hq hne => (plc_leave_ne (fun e => hne e.symm)).symm, ⟨hgr.os.trans h3.os, hgr.tape.trans h3.tape, hgr.output.trans h3.output, by omega, fun b hb => ?_⟩, FT.turn hk (by omega) (fun b h1 h2 _ => hfr b h1 h2) (fun b hb => .inl (hub b hb))⟩
  exact hfr b (by omega) (by have := h.bm; omega)

set_option maxHeartbeats 4000000 in
theorem leave_any (w : World) (base g m N W C a n nx : Nat) (v : Value) (D : List Int) (z : Bool) (f : Int × Int × Int → Value) (h : Tlr w base g m N v D W C z f a (n + 1) nx) (hB : Byt D) (hp : a + 3 ≤ D.length) (hn : D.length ≤ 1000000000) (hN : N ≤ 1000000000) (hnn : n ≤ 1000000000) (hbw : base ≤ w.heap.size) :
    Calls Try.prog 25 #[.pointer (some ⟨g, 0, none⟩), .int .i64 (a : Int)] w fun e w' => e = .returned (.tuple #[]) ∧ ∃ f', Tlr w' base g m (N + 1) v D W C z f' (a + 1) n nx ∧ Below base w w' ∧ FT g m f f' w w' := by
  have HT := hide h
  have HKY := hide (Tlr.key hB a)
  obtain ⟨hgl, hml⟩ := h.lt
  have hgm := h.gm
  have c0 := h.box.cells.1
  have HTH := hide (three_any v D a w h.dat hp hn)
  rw [thr_kv] at HTH
  have HLV := hide (plc_leave D a n)
  obtain ⟨k, HK⟩ : ∃ k, Hid (k = thk D a) := ⟨_, rfl⟩
  rw [← HK.out] at HTH HKY HLV
  have hrl : (plc D k (a + 1) n).length ≤ n := plc_len D k (a + 1) n
  clear h hB
  go_enter Try.func25, Try.ntmps25
  go_wp2_with fail
  refine HTH.out.mono ?_
  rintro e w2 ⟨rfl, b2⟩
  obtain ⟨k0, k1, k2⟩ := k
  unfold kv
  simp only
  have HW3 : Hid (Below w.heap.size w (w2.alloc (.cells #[.int .u8 k0, .int .u8 k1, .int .u8 k2] 56))) := b2.alloc b2.size _
  obtain ⟨w3, hw3⟩ : ∃ w3, w2.alloc (.cells #[.int .u8 k0, .int .u8 k1, .int .u8 k2] 56) = w3 := ⟨_, rfl⟩
  have kb : w3.heap[w2.heap.size]? = some (.cells #[.int .u8 k0, .int .u8 k1, .int .u8 k2] 56 (0, 0)) := by rw [← hw3]; exact heap_alloc_new w2 _
  have hz3 : w2.heap.size < w3.heap.size := by rw [← hw3]; simp
  have hz2 := b2.size
  rw [hw3] at HW3
  obtain ⟨q, hq⟩ : ∃ q, q = w2.heap.size := ⟨_, rfl⟩
  rw [← hq] at kb hz3 hz2
  have HT3 := hide (HT.out.far HW3.out)
  clear HTH b2
  have HMP : Hid (∀ W : World, W.heap[m]? = w3.heap[m]? → MP W m N f) := fun W hW => HT3.out.map.move hW
  have l4 : w3.cell? ⟨g, 4, none⟩ = some (.map (some m)) := HT3.out.box.cells.2.2.2.2.1
  have q0 : w3.cell? ⟨q, 0, none⟩ = some (.int .u8 k0) := cellIn kb rfl
  have q1 : w3.cell? ⟨q, 1, none⟩ = some (.int .u8 k1) := cellIn kb rfl
  have q2 : w3.cell? ⟨q, 2, none⟩ = some (.int .u8 k2) := cellIn kb rfl
  have l4d : w3.drew.cell? ⟨g, 4, none⟩ = some (.map (some m)) := l4
  have q0d : w3.drew.cell? ⟨q, 0, none⟩ = some (.int .u8 k0) := q0
  have q1d : w3.drew.cell? ⟨q, 1, none⟩ = some (.int .u8 k1) := q1
  have q2d : w3.drew.cell? ⟨q, 2, none⟩ = some (.int .u8 k2) := q2
  have HROW := hide (HT3.out.rows _ HKY.out)
  rw [HLV.out] at HROW
  obtain ⟨L, HL⟩ : ∃ L, Hid (L = plc D (k0, k1, k2) (a + 1) n) := ⟨_, hide rfl⟩
  rw [← HL.out] at HROW hrl
  obtain ⟨b, o, cap, HFK, hlc, hcm⟩ : ∃ b o cap : Nat, Hid (f (k0, k1, k2) = .slice (some ⟨b, o, none⟩) (L.length + 1) cap) ∧ L.length + 1 ≤ cap ∧ cap ≤ 9223372036854775807 := by
    rcases HROW.out with ⟨_, e⟩ | ⟨gg, ff, cap, cur, e, h1, h2, h3, h4, h5, h6⟩
    · simp [ins] at e
    · refine ⟨gg, ff, cap, by show _ = _; rw [e]; simp [ins], by simp [ins] at h3; exact h3, by unfold maxLen at h4; omega⟩
  have hlk : (Instr.lookup 46 (.map (some m)) (kv (k0, k1, k2)) false).run Try.prog w3 = .ok (f (k0, k1, k2)) w3 := (HMP.out w3 rfl).look HKY.out
  have hlkd : (Instr.lookup 46 (.map (some m)) (kv (k0, k1, k2)) false).run Try.prog w3.drew = .ok (f (k0, k1, k2)) w3.drew := (HMP.out w3.drew rfl).look HKY.out
  rw [HFK.out] at hlk hlkd
  unfold kv at hlk hlkd
  have hcap1 : (1 : Int) ≤ (cap : Int) := by omega
  have hLn : L.length ≤ 1000000000 := by omega
  by_cases h0 : 0 < L.length
  · have HOX : Hid (OX w3 base (.slice (some ⟨b, o + 1, none⟩) L.length (cap - 1)) (ins L)) := by
      have hr := HROW.out
      rw [HFK.out] at hr
      have e : (ins (a :: L)) = (a : Int) :: ins L := rfl
      rw [e] at hr
      have := OX.tail (w := w3) (base := base) (g := b) (f := o) (cap := cap) (x := (a : Int)) (l := ins L) (by rw [List.length_cons, ins_len]; exact hr)
      rw [ins_len] at this
      exact this
    obtain ⟨d6, hd6⟩ := HOX.out.tok
    obtain ⟨w7, hS7, hM7, hG7⟩ := (HMP.out w3.drew.drew rfl).store hN HKY.out hd6
    unfold kv at hS7
    have HM7 := hide hM7
    have HG7 := hide hG7
    have hcn : ¬ cap = 1 := by omega
    have hl0 : (0 : Int) < (L.length : Int) := by omega
    clear hM7 hG7 kb
    go_wp2
    rw [← hq]
    clear hw3 hq
    go_region
    all_goals
      go_wp2
      go_region
      all_goals
        go_wp2
        (try simp only [Exit.inBlock, Exit.then]); refine bodyPost_ret (results_none rfl _ _ _) rfl ?_
        have hm7 := HM7.out
        have hky := HKY.out
        have hox := HOX.out
        have hfk := HFK.out
        rw [HK.out] at hm7 hky hfk
        rw [HL.out, HK.out] at hox
        rw [HL.out, HK.out] at hm7 hfk
        exact ⟨rfl, _, HT.out.leftOut hky hbw (HW3.out.drew.drew) hox (fun x hx => by rw [hfk]; exact hx) hm7 HG7.out⟩
  · obtain ⟨w7, hS7, hM7, hG7⟩ := (HMP.out w3.drew.drew rfl).drop HKY.out 0
    unfold kv at hS7
    have HM7 := hide hM7
    have HG7 := hide hG7
    have hl0 : ¬ (0 : Int) < (L.length : Int) := by omega
    have HL0 : Hid (L.length = 0) := by show _ = _; omega
    clear hM7 hG7 kb
    by_cases hc1 : cap = 1
    · subst hc1
      go_wp2
      rw [← hq]
      clear hw3 hq
      go_region
      all_goals
        go_wp2
        go_region
        all_goals
          go_wp2
          go_end0
          have hm7 := HM7.out
          have hky := HKY.out
          rw [HK.out] at hm7 hky
          have hl := HL.out
          rw [HK.out] at hl
          exact ⟨rfl, _, HT.out.leftOut (N' := N + 1) hky hbw (HW3.out.drew.drew) (by rw [← hl, List.length_eq_zero_iff.1 HL0.out]; exact OX.nil _ _) (fun x hx => by cases hx) (hm7.mono (by omega)) HG7.out⟩
    · have hcn : ¬ cap = 1 := hc1
      go_wp2
      rw [← hq]
      clear hw3 hq
      go_region
      all_goals
        go_wp2
        go_region
        all_goals
          go_wp2
          go_end0
          have hm7 := HM7.out
          have hky := HKY.out
          rw [HK.out] at hm7 hky
          have hl := HL.out
          rw [HK.out] at hl
          exact ⟨rfl, _, HT.out.leftOut (N' := N + 1) hky hbw (HW3.out.drew.drew) (by rw [← hl, List.length_eq_zero_iff.1 HL0.out]; exact OX.nil _ _) (fun x hx => by cases hx) (hm7.mono (by omega)) HG7.out⟩
end Go.Proofs.Ytjldmphfdaoecaa

namespace Go.Proofs.Ytjldmphfdaoecaa.H4
open Go.RowKit
variable {F : Fence} {n : Nat} {P : Program}

structure Rec (l : Nat) (I : Obj → World → Prop) : Prop where
  get : ∀ o W, I o W → W.heap[l]? = some o
  put : ∀ o o' W, I o W → I o' (W.putObj l o')

end Go.Proofs.Ytjldmphfdaoecaa.H4

namespace Go.Proofs.Ytjldmphfdaoecaa
open Go.RowKit
variable {F : Fence} {n : Nat} {P : Program}

def roundEnd2 (I : Nat → Obj → World → Prop) (Ix : Code → Obj → World → Prop) (m : Nat) (o : Obj) : Exit → Act → World → Prop
  | .normal, _, W => ∃ m', m' + 1 = m ∧ I m' o W
  | .ret, _, W => Ix .ret o W
  | .exit id, _, W => Ix (.exit id) o W
  | .goto t, _, W => Ix (.goto t) o W
  | .panic _, _, _ => False
  | .outgrown, _, _ => False

theorem wp_range2 {α : Type} {g : Operand} {ps : Array Tmp} {assign body : Code} {Q : Exit → Act → World → Prop} {a : Act} {w : World} (m0 : Nat)
    (hro : F.round = none) (h1 : 1 ≤ n) {gf : Nat} {lb : Array Value} (hg : a.eval g = .func (.func gf) #[] lb) (hFg : F.fn gf) (eg : ∀ args w, (callFunc gf args).run P w = .ok (.enter gf args) w)
    {encs : α → Array Value} (hps : ∀ x, (encs x).size = ps.size)
    (I : Nat → Obj → World → Prop) (Iy : Nat → α → Obj → World → Prop) (Ie : Obj → World → Prop) (Ix : Code → Obj → World → Prop)
    (rI : ∀ m, H4.Rec (w.heap.size + 1) (I m)) (ry : ∀ m x, H4.Rec (w.heap.size + 1) (Iy m x)) (re : H4.Rec (w.heap.size + 1) Ie) (rx : ∀ c, H4.Rec (w.heap.size + 1) (Ix c))
    (h0 : ∀ o, I m0 o ((w.alloc (.deferred (some []))).alloc o))
    (hseq : ∀ (o : Obj) (Jx : World → Prop), (∀ m x W, Iy m x o W → YieldAt F (n - 1 - 1) P (w.heap.size + 1) (encs x) W fun e W' => (e = .returned (.bool true) ∧ ∃ m', m' + 1 = m ∧ I m' o W') ∨ (e = .returned (.bool false) ∧ Jx W')) →
      ∀ W, I m0 o W → CallsIn F (n - 1) P gf (#[.func (.yield (w.heap.size + 1)) #[] #[]] ++ lb) W fun e W' => (∃ v, e = .returned v) ∧ (Ie o W' ∨ Jx W'))
    (a₁ : α → Act)
    (hassign : ∀ (x : α) (W : World) (K : Act → World → Prop), K (a₁ x) W →
      assign.wpIn (F.inRound (w.heap.size + 1)) (n - 1 - 1) P (Exit.then K (fun _ _ _ => False)) { tmps := (ps.zip (encs x)).foldl (fun t (p, v) => t.setIfInBounds p v) a.tmps, defers := [] } W)
    (hbody : ∀ m x o W, Iy m x o W → body.wpIn (F.inRound (w.heap.size + 1)) (n - 1 - 1) P (roundEnd2 I Ix m o) (a₁ x) W)
    (hdone : ∀ o W, Ie o W → Q .normal { a with defers := { target := .collected w.heap.size, args := #[] } :: a.defers } W)
    (hstop : ∀ c o W, Ix c o W → c.wpIn F n P Q { a with defers := { target := .collected w.heap.size, args := #[] } :: a.defers } W) :
    (Code.rangeFunc g ps assign body).wpIn F n P Q a w := by
  refine wpIn_rangeFunc ?_
  intro fn hfn
  rw [hro]
  obtain ⟨rec, hrec⟩ : ∃ rec : LoopState → Option Code → Loop, rec = fun st pe => { state := st, pending := pe, fn, tmps := a.tmps, params := ps, assign, body, defers := w.heap.size } := ⟨_, rfl⟩
  obtain ⟨W1, hW1⟩ : ∃ W1, (w.alloc (.deferred (some []))).alloc (.loop (rec .ready none)) = W1 := ⟨_, rfl⟩
  have hI1 : I m0 (.loop (rec .ready none)) W1 := by rw [← hW1]; exact h0 _
  refine ⟨w.heap.size + 1, [{ target := .collected w.heap.size, args := #[] }], W1, { target := .fn (.func gf) lb, args := #[.func (.yield (w.heap.size + 1)) #[] #[]] }, W1, gf,
    #[.func (.yield (w.heap.size + 1)) #[] #[]] ++ lb, W1, ?_, ?_, ?_, ?_, fun _ => h1, ?_⟩
  · rw [← hW1, hrec]; exact run_enterLoop_outer _ _ _ _ _
  · simp only [resolve, hg]
    simp [go_sem]
  · intro f' hf'; simp [Target.leads] at hf'; subst hf'; exact hFg
  · simp [invoke, go_sem, eg]
  · refine (hseq (.loop (rec .ready none)) (fun W => ∃ c, Ix c (.loop (rec .done (some c))) W) ?_ W1 hI1).mono ?_
    · rintro m x W hi
      have hl := (ry m x).get _ _ hi
      have hlt : w.heap.size + 1 < W.heap.size := (Array.getElem?_eq_some_iff.1 hl).1
      have hy := run_yield (P := P) (args := encs x) hl (by rw [hrec]; exact hps x)
      rw [hrec] at hy
      refine ⟨fn, _, assign, body, hy, roundIn_of_wpIn hfn (hassign x W _ ⟨_, run_beginRound hl (by rw [hrec]), ?_⟩)⟩
      refine wpIn_mono (hbody m x (.loop { rec .ready none with state := .busy }) _ ((ry m x).put _ _ _ hi)) ?_
      have fin : ∀ (jump : Option Code) (W3 : World), W3.heap[w.heap.size + 1]? = some (.loop { rec .ready none with state := .busy }) →
          (Instr.endRound (w.heap.size + 1) jump).run P W3 = .ok (.bool jump.isNone) (W3.putObj (w.heap.size + 1) (.loop (rec (if jump.isNone then .ready else .done) jump))) := fun jump W3 hl3 => by
        have := run_endRound (P := P) jump hl3
        rw [hrec] at this ⊢
        exact this
      rintro e a3 W3 hp
      cases e with
      | normal =>
        obtain ⟨m', hm', hi3⟩ := hp
        exact ⟨_, _, fin none W3 ((rI m').get _ _ hi3), .inl ⟨rfl, m', hm', (rI m').put _ _ _ hi3⟩⟩
      | ret => exact ⟨_, _, fin (some .ret) W3 ((rx _).get _ _ hp), .inr ⟨rfl, .ret, (rx _).put _ _ _ hp⟩⟩
      | exit id => exact ⟨_, _, fin (some (.exit id)) W3 ((rx _).get _ _ hp), .inr ⟨rfl, .exit id, (rx _).put _ _ _ hp⟩⟩
      | goto t => exact ⟨_, _, fin (some (.goto t)) W3 ((rx _).get _ _ hp), .inr ⟨rfl, .goto t, (rx _).put _ _ _ hp⟩⟩
      | panic ch => exact hp.elim
      | outgrown => exact hp.elim
    · rintro e W2 ⟨⟨v, rfl⟩, (hi | ⟨c, hi⟩)⟩
      · exact ⟨none, _, by have := run_endLoop (P := P) (re.get _ _ hi) (by rw [hrec]; simp); rw [hrec] at this; exact this, hdone _ _ (re.put _ _ _ hi)⟩
      · exact ⟨some c, _, by have := run_endLoop (P := P) ((rx c).get _ _ hi) (by rw [hrec]; simp); rw [hrec] at this; exact this, hstop c _ _ ((rx c).put _ _ _ hi)⟩

end Go.Proofs.Ytjldmphfdaoecaa

