import Derived.Test.YtjdgeonlbjokaaaGTlr
namespace Go.Proofs.Ytjdgeonlbjokaaa
open Go.RowKit Go.Maps
set_option maxRecDepth 20000
set_option linter.unusedVariables false

theorem OX.tok {w : World} {base : Nat} {v : Value} {l : List Int} (h : OX w base v l) : ∃ d, tokX v = some (d, []) := by
  rcases h with ⟨rfl, _⟩ | ⟨g, f, cap, cur, rfl, _⟩
  · exact ⟨_, rfl⟩
  · exact ⟨_, rfl⟩

theorem step_appX {ops : Array Oper} {o : Oper} {a : Act} {w : World} {K : Act → World → Prop} {Q : Exit → Act → World → Prop} {E : Prop} (hgd : o.guard = none) (s x : Operand)
    (ho : o.op = .call { callee := .builtin .append, args := #[s, x], argTypes := #[56, 56] }) (base : Nat) (v xv : Value) (l : List Int) (y : Int) (hv : a.eval s = v) (hown : OX w base v l) (hx : a.eval x = xv) (hs : Src Try.prog 1 56 xv 1 [Value.int .i64 y] w)
    (hb : l.length ≤ 1000000000) (hbase : base ≤ w.heap.size)
    (h : ∀ v' w', OX w' base v' (l ++ [y]) → Grew w w' v v' → K (a.put o.dst v') w') :
    if Region.wanted o (yielded ops a.tmps) = true then Oper.wp Try.prog o a w K Q else E := by
  have hw : Region.wanted o (yielded ops a.tmps) = true := by simp [Region.wanted, hgd]
  rw [if_pos hw]
  obtain ⟨v', w', hr, h2, h3⟩ := run_appX w base o.type v xv l y hown hs hb hbase
  unfold Oper.wp
  simp [execOp, ho, resolve, invoke, builtin, hv, hx, hr, Result.andThen]
  exact h v' w' h2 h3

theorem src_one {w : World} {b : Nat} {x : Int} (hb : w.heap[b]? = some (.cells #[.int .i64 x] 3 (0, 0))) : Src Try.prog 1 56 (.slice (some ⟨b, 0, none⟩) 1 1) 1 [Value.int .i64 x] w := by
  refine Src.ofSlice _ Try.underlying56 _ _ _ _ (by simp) (fun j u hj => ?_) (fun u hu => by rw [List.mem_singleton.1 hu]; rfl)
  obtain ⟨hj1, rfl⟩ := List.getElem?_eq_some_iff.1 hj
  have : j = 0 := by simp at hj1; exact hj1
  subst this
  exact cellIn hb rfl

theorem built_one (w : World) (x : Int) : Src Try.prog 1 56 (.slice (some ⟨w.heap.size, 0, none⟩) 1 1) 1 [Value.int .i64 x] (w.alloc (.cells #[.int .i64 x] 3)) := built_srcI w [x]

/-- What one place more makes of the teller: from the world after the key's box was made. -/
theorem Tlr.entered {w w3 wA w6 w7 : World} {base g m N W C a n nx : Nat} {v v6 : Value} {D : List Int} {z : Bool} {f : Int × Int × Int → Value} (h : Tlr w base g m N v D W C z f a n nx) (hk : Key3 (thk D (a + n))) (hbw : base ≤ w.heap.size)
    (h3 : Below w.heap.size w w3) (h6 : Below base w3 wA) (h6b : ∀ b, b < w3.heap.size → b ≠ m → wA.heap[b]? = w3.heap[b]?)
    (ho : OX w6 base v6 (ins (plc D (thk D (a + n)) a n) ++ [((a + n : Nat) : Int)])) (hg : Grew wA w6 (f (thk D (a + n))) v6) (h7 : MP w7 m (N + 1) (fup f (thk D (a + n)) v6)) (hgr : w6.grownBy w7 (some m)) :
    Tlr w7 base g m (N + 1) v D W C z (fup f (thk D (a + n)) v6) a (n + 1) nx ∧ Below base w w7 ∧ FT g m f (fup f (thk D (a + n)) v6) w w7 := by
  have hs3 := h3.size
  have hsA := h6.size
  have hgb := hg.by
  have hs6 := hgb.size
  have hs7 := hgr.size
  have hml := h.lt
  have hrow := h.rows _ hk
  have hfr : ∀ b, b < w.heap.size → b ≠ m → (f (thk D (a + n))).ownBlock ≠ some b → w7.heap[b]? = w.heap[b]? := fun b hb hbm hbk =>
    (hgr.block b (by omega) (fun e => hbm (by injection e))).trans ((hgb.block b (by omega) (fun e => hbk e.symm)).trans ((h6b b (by omega) hbm).trans (h3.block b hb)))
  have hv6 : ∀ b, v6.ownBlock = some b → (f (thk D (a + n))).ownBlock = some b ∨ w.heap.size ≤ b := fun b hb => by
    rcases hg.at with e | e
    · rw [e] at hb; injection hb with hb; right; omega
    · rw [e] at hb; exact .inl hb
  have ho7 : OX w7 base v6 (ins (plc D (thk D (a + n)) a (n + 1))) := by
    rw [plc_enter, ins_snoc]
    refine ho.move fun b hb => hgr.block b (ho.lt b hb).2 fun e => ?_
    injection e with e
    rcases hv6 b hb with q | q
    · exact (h.off _ b hk q).2 e
    · omega
  refine ⟨h.turn hk hbw hfr ho7 hv6 h7 fun q hq hne => plc_enter_ne (fun e => hne e.symm), ⟨hgr.os.trans (hgb.os.trans (h6.os.trans h3.os)), hgr.tape.trans (hgb.tape.trans (h6.tape.trans h3.tape)), hgr.output.trans (hgb.output.trans (h6.output.trans h3.output)), by omega, fun b hb => ?_⟩, FT.turn hk (by omega) hfr hv6⟩
  exact hfr b (by omega) (by have := h.bm; omega) (fun e => by have := (hrow.lt b e).1; omega)

set_option maxHeartbeats 4000000 in
theorem enter_any (w : World) (base g m N W C a n nx : Nat) (v : Value) (D : List Int) (z : Bool) (f : Int × Int × Int → Value) (h : Tlr w base g m N v D W C z f a n nx) (hB : Byt D) (hp : a + n + 3 ≤ D.length) (hn : D.length ≤ 1000000000) (hN : N ≤ 1000000000) (hbw : base ≤ w.heap.size) :
    Calls Try.prog 39 #[.pointer (some ⟨g, 0, none⟩), .int .i64 ((a + n : Nat) : Int)] w fun e w' => e = .returned (.tuple #[]) ∧ ∃ f', Tlr w' base g m (N + 1) v D W C z f' a (n + 1) nx ∧ Below base w w' ∧ FT g m f f' w w' := by
  have HT := hide h
  have HBY := hide hB
  have HKY := hide (Tlr.key hB (a + n))
  obtain ⟨hgl, hml⟩ := h.lt
  have hgm := h.gm
  have c0 := h.box.cells.1
  have HTH := hide (three_any v D (a + n) w h.dat hp hn)
  rw [thr_kv] at HTH
  obtain ⟨k, HK⟩ : ∃ k, Hid (k = thk D (a + n)) := ⟨_, rfl⟩
  rw [← HK.out] at HTH HKY
  have hrl : (plc D k a n).length ≤ n := plc_len D k a n
  clear h hB
  obtain ⟨p, HP⟩ : ∃ p : Nat, Hid (p = a + n) := ⟨_, rfl⟩
  rw [← HP.out] at HTH ⊢
  have hp' : p ≤ 1000000000 := by have := HP.out; omega
  go_enter Try.func39, Try.ntmps39
  go_wp2_with fail
  refine HTH.out.mono ?_
  rintro e w2 ⟨rfl, b2⟩
  obtain ⟨k0, k1, k2⟩ := k
  unfold kv
  simp only
  have HW3 : Hid (Below w.heap.size w (w2.alloc (.cells #[.int .u8 k0, .int .u8 k1, .int .u8 k2] 69))) := b2.alloc b2.size _
  obtain ⟨w3, hw3⟩ : ∃ w3, w2.alloc (.cells #[.int .u8 k0, .int .u8 k1, .int .u8 k2] 69) = w3 := ⟨_, rfl⟩
  have kb : w3.heap[w2.heap.size]? = some (.cells #[.int .u8 k0, .int .u8 k1, .int .u8 k2] 69 (0, 0)) := by rw [← hw3]; exact heap_alloc_new w2 _
  have hz3 : w2.heap.size < w3.heap.size := by rw [← hw3]; simp
  have hz2 := b2.size
  rw [hw3] at HW3
  obtain ⟨q, hq⟩ : ∃ q, q = w2.heap.size := ⟨_, rfl⟩
  rw [← hq] at kb hz3 hz2
  have HT3 := hide (HT.out.far HW3.out)
  clear HTH b2
  have HMP : Hid (∀ W : World, W.heap[m]? = w3.heap[m]? → MP W m N f) := fun W hW => HT3.out.map.move hW
  obtain ⟨Z, hZ⟩ : ∃ Z : Obj, Z = .cells #[.int .i64 (p : Int)] 3 := ⟨_, rfl⟩
  obtain ⟨s2, wE2, hE2, gE2, hS2⟩ := MP.entry (HMP.out (w3.alloc Z).drew (Below.heap_alloc w3 Z _ (HT3.out.lt.2))) hN HKY.out
  have l4 : w3.cell? ⟨g, 4, none⟩ = some (.map (some m)) := HT3.out.box.cells.2.2.2.2.1
  have q0 : w3.cell? ⟨q, 0, none⟩ = some (.int .u8 k0) := cellIn kb rfl
  have q1 : w3.cell? ⟨q, 1, none⟩ = some (.int .u8 k1) := cellIn kb rfl
  have q2 : w3.cell? ⟨q, 2, none⟩ = some (.int .u8 k2) := cellIn kb rfl
  unfold kv at hE2
  simp only [goInt] at hE2
  have HROW := hide (HT3.out.rows _ HKY.out)
  have HOFF := hide (HT3.out.off _ m HKY.out)
  obtain ⟨L, HL⟩ : ∃ L, Hid (L = plc D (k0, k1, k2) a n) := ⟨_, hide rfl⟩
  rw [← HL.out] at HROW hrl
  have hLl : (ins L).length ≤ 1000000000 := by rw [ins_len]; omega
  have hmE : m < wE2.heap.size := by have := gE2.size; have := HT3.out.lt.2; simp at *; omega
  have hgl3 : g < w3.heap.size := HT3.out.lt.1
  have hml3 : m < w3.heap.size := HT3.out.lt.2
  have HFR : Hid (∀ b, b < w3.heap.size → b ≠ m → wE2.heap[b]? = w3.heap[b]?) := fun b hb hbm => (gE2.block b (by simp; omega) (fun e => hbm (by injection e))).trans (Below.heap_alloc w3 Z _ hb)
  have HBE : Hid (Below base w3 wE2) := ⟨gE2.os, gE2.tape, gE2.output, by have := gE2.size; simp at this; omega, fun b hb => HFR.out b (by have := HW3.out.size; omega) (by have := HT.out.bm; omega)⟩
  have HSZ : Hid (base ≤ wE2.heap.size) := by show _ ≤ _; have := HBE.out.size; have := HW3.out.size; omega
  have HOX : Hid (OX wE2 base (f (k0, k1, k2)) (ins L)) := HROW.out.move fun b hb => HFR.out b (HROW.out.lt b hb).2 (HT3.out.off _ b HKY.out hb).2
  have HSR : Hid (Src Try.prog 1 56 (.slice (some ⟨w3.heap.size, 0, none⟩) 1 1) 1 [Value.int .i64 (p : Int)] wE2) := src_one ((gE2.block w3.heap.size (by simp) (fun e => by injection e with e; omega)).trans (by rw [hZ]; exact heap_alloc_new w3 _))
  subst hZ
  obtain ⟨fk, HFK⟩ : ∃ fk, Hid (fk = f (k0, k1, k2)) := ⟨_, hide rfl⟩
  rw [← HFK.out] at hE2 HOX HOFF
  have HS2 := hide hS2
  clear hS2 gE2 kb
  go_wp2
  rw [← hq]
  clear hw3 hq
  go_region_law (refine step_appX (by rfl) _ _ (by rfl) base fk (.slice (some ⟨w3.heap.size, 0, none⟩) 1 1) (ins L) (p : Int) (by simp [Act.eval, Act.put]) HOX.out (by simp [Act.eval, Act.put]) HSR.out hLl HSZ.out ?_; intro v6 w6 ho6 hg6; obtain ⟨d6, hd6⟩ := ho6.tok; obtain ⟨w7, hS7, hM7, hG7⟩ := HS2.out w6 v6 d6 (hg6.by.block m hmE (fun e => (HOFF.out e.symm).2 rfl)) hd6; simp only [goInt] at hS7)
  all_goals
    go_end0
    have hpp := HP.out
    rw [HFK.out, HK.out] at hg6
    rw [HK.out] at hM7
    have hky := HKY.out
    rw [HK.out] at hky
    rw [HL.out, HK.out, hpp] at ho6
    exact ⟨rfl, _, HT.out.entered hky hbw HW3.out HBE.out HFR.out ho6 hg6 hM7 hG7⟩
end Go.Proofs.Ytjdgeonlbjokaaa

