import Derived.Test.YtjldmphfdaoecaaG15Meb
import Derived.Test.YtjldmphfdaoecaaG16Mrw
import Derived.Test.YtjldmphfdaoecaaG17Mtw
import Derived.BigQuiet
import Derived.Deep.DeepCutAuto
import Derived.Deep.RegionWith
namespace Go.Proofs.Ytjldmphfdaoecaa
open Go.RowKit Go.Maps Go.Shelf
attribute [local go_sem] Oper.semAt_some
set_option maxRecDepth 20000
set_option linter.unusedVariables false

theorem seq_under : Try.prog.underlying 26 = some (.func #[42] #[] false) := by kernel_rfl

theorem boxA {w w4 w5 : World} {v : Value} {t : TypeId} (h4 : Below (w.alloc (.cells #[v] t)).drew.heap.size (w.alloc (.cells #[v] t)).drew w4) (h5 : Below w4.heap.size w4 w5) : w5.cell? ⟨w.heap.size, 0, none⟩ = some v ∧ w5.frozen? ⟨w.heap.size, 0, none⟩ = false ∧ Hid (w5.heap[w.heap.size]? = some (.cells #[v] t (0, 0)) ∧ w.heap.size < w4.heap.size) := by
  have e0 : (w.alloc (.cells #[v] t)).drew.heap[w.heap.size]? = some (.cells #[v] t (0, 0)) := heap_alloc_new w _
  have l0 : w.heap.size < (w.alloc (.cells #[v] t)).drew.heap.size := (Array.getElem?_eq_some_iff.1 e0).1
  have l1 : w.heap.size < w4.heap.size := Nat.lt_of_lt_of_le l0 h4.size
  have e := (h5.block _ l1).trans ((h4.block _ l0).trans e0)
  exact ⟨cellIn e rfl, frozenIn e, e, l1⟩

theorem boxB {w w5 : World} {v : Value} {t : TypeId} (h5 : Below (w.alloc (.cells #[v] t)).heap.size (w.alloc (.cells #[v] t)) w5) : w5.cell? ⟨w.heap.size, 0, none⟩ = some v ∧ w5.frozen? ⟨w.heap.size, 0, none⟩ = false ∧ Hid (w5.heap[w.heap.size]? = some (.cells #[v] t (0, 0))) := by
  have e0 : (w.alloc (.cells #[v] t)).heap[w.heap.size]? = some (.cells #[v] t (0, 0)) := heap_alloc_new w _
  have l0 : w.heap.size < (w.alloc (.cells #[v] t)).heap.size := (Array.getElem?_eq_some_iff.1 e0).1
  have e := (h5.block _ l0).trans e0
  exact ⟨cellIn e rfl, frozenIn e, e⟩

def Tkb (wb : World) (gk : Nat) (vt : Value) (L : List Tk) (W : World) : Prop := wb.heap.size ≤ gk ∧ W.heap[gk]? = some (.cells #[vt] 29 (0, 0)) ∧ OK W wb.heap.size vt L ∧ vt.ownBlock ≠ some gk ∧ Below wb.heap.size wb W

theorem tkb_set {wb w5 : World} {g base : Nat} {v vt : Value} {L : List Tk} (hg : wb.heap.size ≤ g) (hb : Below wb.heap.size wb w5) (hv : w5.heap[g]? = some (.cells #[v] 29 (0, 0))) (ho : OK w5 base vt L) (hbase : g < base) : Tkb wb g vt L (w5.setCell ⟨g, 0, none⟩ vt) := by
  refine ⟨hg, ?_, ?_, fun q => ?_, hb.setCell (p := ⟨g, 0, none⟩) hg _⟩
  · rw [heap_setCell_at _ hv]; rfl
  · have h2 : OK (w5.setCell ⟨g, 0, none⟩ vt) base vt L := tokown_move ho fun b hb => setCell_others _ _ _ _ b (by have := (ho.lt b hb).1; omega)
    exact h2.base (by omega)
  · have := (ho.lt g q).1; omega

theorem tkb_new {wb w5 : World} {base : Nat} {vt : Value} {L : List Tk} (hb : Below wb.heap.size wb w5) (ho : OK w5 base vt L) (hbase : wb.heap.size ≤ base) : Tkb wb w5.heap.size vt L (w5.alloc (.cells #[vt] 29)) := by
  refine ⟨hb.size, heap_alloc_new _ _, ?_, fun q => ?_, hb.alloc hb.size _⟩
  · have h2 : OK (w5.alloc (.cells #[vt] 29)) base vt L := tokown_move ho fun b hb => Below.heap_alloc _ _ _ (ho.lt b hb).2
    exact h2.base hbase
  · have := (ho.lt _ q).2; omega

theorem Tkb.low {wb W W' : World} {gk : Nat} {vt : Value} {L : List Tk} (h : Tkb wb gk vt L W) (hb : Below W.heap.size W W') : Tkb wb gk vt L W' := by
  obtain ⟨h1, h2, h3, h4, h5⟩ := h
  exact ⟨h1, (hb.block gk (Array.getElem?_eq_some_iff.1 h2).1).trans h2, h3.below hb (Nat.le_refl _), h4, h5.trans (hb.mono h5.size)⟩

theorem Tkb.put {wb W : World} {gk B i : Nat} {vt x : Value} {L : List Tk} (h : Tkb wb gk vt L W) (hB : wb.heap.size ≤ B) (h1 : gk ≠ B) (h2 : vt.ownBlock ≠ some B) : Tkb wb gk vt L (W.setCell ⟨B, i, none⟩ x) := by
  obtain ⟨g1, g2, g3, g4, g5⟩ := h
  refine ⟨g1, (setCell_others _ _ _ _ _ h1).trans g2, ?_, g4, g5.setCell (p := ⟨B, i, none⟩) hB _⟩
  have := tokown_move g3 (w' := W.setCell ⟨B, i, none⟩ x) fun b hb => setCell_others _ _ _ _ b (fun q => h2 (q ▸ hb))
  exact this

def Gv (w : World) (B N : Nat) : Prop := ∃ cur, w.heap[B]? = some (.cells cur 5 (0, 0)) ∧ N ≤ cur.size

theorem Gv.at {w : World} {B N k : Nat} (h : Gv w B N) (hk : k < N) : ∃ u, w.cell? ⟨B, k, none⟩ = some u ∧ w.frozen? ⟨B, k, none⟩ = false := by
  obtain ⟨cur, h1, h2⟩ := h
  refine ⟨cur[k]'(by omega), ?_, frozen_of_row _ _ _ _ _ h1⟩
  unfold World.cell?
  rw [h1]
  simp [show k < cur.size by omega]

theorem Gv.put {w : World} {B N k : Nat} {x : Value} (h : Gv w B N) : Gv (w.setCell ⟨B, k, none⟩ x) B N := by
  obtain ⟨cur, h1, h2⟩ := h
  exact ⟨_, heap_setCell_same w B k _ _ x h1, by simpa using h2⟩

theorem Gv.of {w : World} {base : Nat} {v : Value} {l : List Int} (h : Lent w base v l) : ∃ B c, v = .slice (some ⟨B, 0, none⟩) l.length c ∧ base ≤ B ∧ Gv w B l.length ∧ l.length ≤ c ∧ c ≤ 9223372036854775807 := by
  obtain ⟨B, c, rfl, ho⟩ := h
  have hsb := ho.sb
  refine ⟨B, c, rfl, (ho.lt B rfl).1, ?_, ?_⟩
  · rcases ho.2 with ⟨e, _⟩ | ⟨g, cap, cur, e, h1, h2, h3, h4, h5, h6⟩
    · cases e
    · simp only [Value.slice.injEq, Option.some.injEq, Addr.mk.injEq] at e
      obtain ⟨⟨rfl, -⟩, hn, rfl⟩ := e
      simp at hn h3
      exact ⟨cur, h2, by omega⟩
  · rcases ho.2 with ⟨e, _⟩ | ⟨g, cap, cur, e, h1, h2, h3, h4, h5, h6⟩
    · cases e
    · simp only [Value.slice.injEq, Option.some.injEq, Addr.mk.injEq] at e
      obtain ⟨⟨rfl, -⟩, hn, rfl⟩ := e
      unfold maxLen at h4
      simp at h3
      omega

structure Mem (wb w7 : World) (L : List Tk) (Its : Nat → Prop) (gk gn gt : Nat) (vt : Value) (n tn : Nat) (ds : List Nat) (W : World) : Prop where
  dfs : ∀ d, d ∈ ds → W.heap[d]? = some (.deferred (some []))
  tkb : Tkb wb gk vt L W
  num : W.heap[gn]? = some (.cells #[.int .i64 (n : Int)] 3 (0, 0))
  trn : W.heap[gt]? = some (.cells #[.int .i64 (tn : Int)] 3 (0, 0))
  its : ∀ b, Its b → W.heap[b]? = w7.heap[b]?
  isz : w7.heap.size ≤ W.heap.size
  ige : ∀ b, Its b → b < w7.heap.size
  up : wb.heap.size ≤ gn

theorem Mem.low {wb w7 : World} {L : List Tk} {Its : Nat → Prop} {gk gn gt n tn : Nat} {vt : Value} {ds : List Nat} {W W' : World} (h : Mem wb w7 L Its gk gn gt vt n tn ds W) (hb : Below W.heap.size W W') : Mem wb w7 L Its gk gn gt vt n tn ds W' :=
  ⟨fun d hd => (hb.block d (Array.getElem?_eq_some_iff.1 (h.dfs d hd)).1).trans (h.dfs d hd), h.tkb.low hb, (hb.block gn (Array.getElem?_eq_some_iff.1 h.num).1).trans h.num, (hb.block gt (Array.getElem?_eq_some_iff.1 h.trn).1).trans h.trn, fun b hI => (hb.block b (Nat.lt_of_lt_of_le (h.ige b hI) h.isz)).trans (h.its b hI), Nat.le_trans h.isz hb.size, h.ige, h.up⟩

theorem Mem.start {wb w7 : World} {L : List Tk} {Its : Nat → Prop} {gk n : Nat} {vt : Value} {W : World} (h : Tkb wb gk vt L W) (hI : (∀ b, Its b → W.heap[b]? = w7.heap[b]?) ∧ w7.heap.size ≤ W.heap.size) (hg : ∀ b, Its b → b < w7.heap.size) :
    Mem wb w7 L Its gk W.heap.size (W.heap.size + 1) vt n 0 [] ((W.alloc (.cells #[.int .i64 (n : Int)] 3)).alloc (.cells #[.int .i64 0] 3)) := by
  have b1 : Below W.heap.size W (W.alloc (.cells #[.int .i64 (n : Int)] 3)) := (Below.refl _ _).alloc (Nat.le_refl _) _
  have b2 := b1.alloc b1.size (.cells #[.int .i64 0] 3)
  refine ⟨fun d hd => (by cases hd), h.low b2, ?_, heap_alloc2_new _ _ _, fun b hb => (b2.block b (Nat.lt_of_lt_of_le (hg b hb) hI.2)).trans (hI.1 b hb), Nat.le_trans hI.2 b2.size, hg, h.2.2.2.2.size⟩
  rw [Below.heap_alloc _ _ _ (by simp)]
  exact heap_alloc_new _ _

theorem Mem.next {wb w7 : World} {L : List Tk} {Its : Nat → Prop} {gk gn gt n tn : Nat} {vt : Value} {ds : List Nat} {W : World} (h : Mem wb w7 L Its gk gn gt vt n tn ds W) (x : Int) (hx : x = ((tn + 1 : Nat) : Int)) :
    Mem wb w7 L Its gk gn W.heap.size vt n (tn + 1) ds ((W.alloc (.cells #[.int .i64 (tn : Int)] 3)).setCell ⟨W.heap.size, 0, none⟩ (.int .i64 x)) := by
  subst hx
  have b1 : Below W.heap.size W (W.alloc (.cells #[.int .i64 (tn : Int)] 3)) := (Below.refl _ _).alloc (Nat.le_refl _) _
  have b2 := b1.setCell (p := ⟨W.heap.size, 0, none⟩) (Nat.le_refl _) (.int .i64 ((tn + 1 : Nat) : Int))
  have h2 := h.low b2
  refine ⟨h2.dfs, h2.tkb, h2.num, ?_, h2.its, h2.isz, h2.ige, h2.up⟩
  rw [heap_setCell_at _ (heap_alloc_new _ _)]
  rfl

theorem Mem.cons {wb w7 : World} {L : List Tk} {Its : Nat → Prop} {gk gn gt n tn d : Nat} {vt : Value} {ds : List Nat} {W : World} (h : Mem wb w7 L Its gk gn gt vt n tn ds W) (hd : W.heap[d]? = some (.deferred (some []))) : Mem wb w7 L Its gk gn gt vt n tn (d :: ds) W :=
  ⟨fun e he => by rcases List.mem_cons.1 he with rfl | he; exact hd; exact h.dfs e he, h.tkb, h.num, h.trn, h.its, h.isz, h.ige, h.up⟩

theorem tkj_below {R : List Tk} {W : World} {k : Nat} {S : Nat → Prop} {o ob : Obj} {V : World} (h : TkJ R (W.alloc ob) (W.alloc ob).heap.size W.heap.size k S o V) : Below W.heap.size W V := by
  have hs : (W.alloc ob).heap.size = W.heap.size + 1 := by simp
  have hz := h.size
  exact ⟨h.os, h.tape, h.output, by omega, fun b hb => (h.blk b (by omega) (by omega)).trans (Below.heap_alloc _ _ _ hb)⟩

theorem me_end {w W : World} {g d2 d1 d0 : Nat} (hr : W.heap[g]? = some (.cells #[.bool false] 4 (0, 0))) (h2 : W.heap[d2]? = some (.deferred (some []))) (h1 : W.heap[d1]? = some (.deferred (some []))) (h0 : W.heap[d0]? = some (.deferred (some []))) (hb : Below w.heap.size w W)
    (hn : d2 ≠ g ∧ d1 ≠ g ∧ d0 ≠ g ∧ d1 ≠ d2 ∧ d0 ≠ d2 ∧ d0 ≠ d1 ∧ w.heap.size ≤ d0 ∧ w.heap.size ≤ d1 ∧ w.heap.size ≤ d2) (hg : w.heap.size ≤ g) :
    (W.setCell ⟨g, 0, none⟩ (.bool true)).heap[d2]? = some (.deferred (some [])) ∧ ((W.setCell ⟨g, 0, none⟩ (.bool true)).putObj d2 (.deferred none)).heap[d1]? = some (.deferred (some [])) ∧ (((W.setCell ⟨g, 0, none⟩ (.bool true)).putObj d2 (.deferred none)).putObj d1 (.deferred none)).heap[d0]? = some (.deferred (some [])) ∧
      ((((W.setCell ⟨g, 0, none⟩ (.bool true)).putObj d2 (.deferred none)).putObj d1 (.deferred none)).putObj d0 (.deferred none)).cell? ⟨g, 0, none⟩ = some (.bool true) ∧ Below w.heap.size w ((((W.setCell ⟨g, 0, none⟩ (.bool true)).putObj d2 (.deferred none)).putObj d1 (.deferred none)).putObj d0 (.deferred none)) := by
  obtain ⟨n1, n2, n3, n4, n5, n6, l0, l1, l2⟩ := hn
  have hs : (W.setCell ⟨g, 0, none⟩ (.bool true)).heap[g]? = some (.cells #[.bool true] 4 (0, 0)) := by rw [heap_setCell_at _ hr]; rfl
  refine ⟨(setCell_others _ _ _ _ _ n1).trans h2, ?_, ?_, ?_, ?_⟩
  · rw [putObj_ne _ _ n4]; exact (setCell_others _ _ _ _ _ n2).trans h1
  · rw [putObj_ne _ _ n6, putObj_ne _ _ n5]; exact (setCell_others _ _ _ _ _ n3).trans h0
  · have e := (putObj_ne ((((W.setCell ⟨g, 0, none⟩ (.bool true)).putObj d2 (.deferred none)).putObj d1 (.deferred none))) (.deferred none) (fun q => n3 q.symm)).trans ((putObj_ne (((W.setCell ⟨g, 0, none⟩ (.bool true)).putObj d2 (.deferred none))) (.deferred none) (fun q => n2 q.symm)).trans ((putObj_ne ((W.setCell ⟨g, 0, none⟩ (.bool true))) (.deferred none) (fun q => n1 q.symm)).trans hs))
    exact cellIn e rfl
  · have b1 := hb.setCell (p := ⟨g, 0, none⟩) hg (.bool true)
    refine ⟨b1.os, b1.tape, b1.output, by rw [putObj_size, putObj_size, putObj_size]; exact b1.size, fun b q => ?_⟩
    rw [putObj_ne _ _ (by omega), putObj_ne _ _ (by omega), putObj_ne _ _ (by omega)]
    exact b1.block b q

set_option maxHeartbeats 8000000 in
theorem matchEach_walk (v : Value) (D : List Int) (x y : Int) (z : Bool) (stop : Int) (w : World) (h : SB w v D) (hB : Byt D) (hr : D.length ≤ 140737488351232) :
    Calls Try.prog 3 #[v, .agg #[.int .i64 x, .int .i64 y, .bool z], .int .i64 stop] w fun e w' => e = .returned (.bool true) ∧ Below w.heap.size w w' := by
  have hyl : ∀ (fn : Fn) (a b : Array Value) (w : World), (binOp .eql 26 (.func fn a b) .nilFunc).run Try.prog w = .ok (.bool false) w := fun fn a b w => eql_func w _ seq_under fn a b
  obtain ⟨wb, hwb⟩ : ∃ wb, (w.alloc (.cells #[.int .i64 x, .int .i64 y, .bool z] 24)).alloc (.cells #[.bool false] 4) = wb := ⟨_, rfl⟩
  have HB : Hid (Below w.heap.size w wb) := by rw [← hwb]; have h1 := (Below.refl w.heap.size w).alloc (Nat.le_refl _) (.cells #[.int .i64 x, .int .i64 y, .bool z] 24); exact h1.alloc h1.size _
  have HS := hide (h.below HB.out)
  have hsz : wb.heap.size = w.heap.size + 2 := by rw [← hwb]; simp
  have HE0 : Hid (wb.heap[w.heap.size]? = some (.cells #[.int .i64 x, .int .i64 y, .bool z] 24 (0, 0))) := by rw [← hwb]; exact (Below.heap_alloc _ _ _ (by simp)).trans (heap_alloc_new w _)
  have HR0 : Hid (wb.heap[w.heap.size + 1]? = some (.cells #[.bool false] 4 (0, 0))) := by show _ = _; rw [← hwb]; exact heap_alloc2_new w _ _
  have HC : Hid (∀ wx, Below wb.heap.size wb wx → wx.cell? ⟨w.heap.size, 0, none⟩ = some (.int .i64 x) ∧ wx.cell? ⟨w.heap.size, 1, none⟩ = some (.int .i64 y) ∧ wx.cell? ⟨w.heap.size, 2, none⟩ = some (.bool z)) := fun wx q => by
    have e := (q.block w.heap.size (by omega)).trans HE0.out
    exact ⟨cellIn e rfl, cellIn e rfl, cellIn e rfl⟩
  have HFI : Hid (∀ wx, Below wb.heap.size wb wx → Below w.heap.size w wx) := fun wx q => HB.out.trans (q.mono HB.out.size)
  have HSB : Hid (∀ wx, Below wb.heap.size wb wx → SB wx v D) := fun wx q => HS.out.below q
  have HBT := hide hB
  obtain ⟨ao, cap, rfl, hlc, hcm⟩ := h.open
  obtain ⟨L, HL⟩ : ∃ L, Hid (L = tL D x y z) := ⟨_, rfl⟩
  obtain ⟨E, HE⟩ : ∃ L, Hid (L = tE D x y) := ⟨_, rfl⟩
  have HCP : Hid (∀ wx, Below wb.heap.size wb wx → Calls Try.prog 5 #[.slice ao D.length cap] wx fun e w' => ∃ a c, e = .returned (.slice a D.length c) ∧ OB w' wx.heap.size (.slice a D.length c) D ∧ Below wx.heap.size wx w') := fun wx q => copied_any _ D wx (HSB.out wx q) hr
  have HTO : Hid (∀ wx u, SB wx u D → Calls Try.prog 6 #[u, .agg #[.int .i64 x, .int .i64 y, .bool z]] wx fun e w' => ∃ u, e = .returned (.tuple #[u, .int .i64 E]) ∧ OK w' wx.heap.size u L ∧ Below wx.heap.size wx w') := fun wx u q => by
    have := tokens_any u D x y z wx q HBT.out
    rw [← HL.out, ← HE.out] at this
    exact this
  have HEA : Hid (∀ wx u, SB wx u D → Calls Try.prog 4 #[u, .agg #[.int .i64 x, .int .i64 y, .bool z]] wx fun e w' => ∃ f bs Its, e = .returned (.func f #[] bs) ∧ LoopR (.func f #[] bs) L Its w' ∧ (∀ b, Its b → wx.heap.size ≤ b ∧ b < w'.heap.size) ∧ Below wx.heap.size wx w') := fun wx u q => by
    have := each_any u D x y z wx q HBT.out
    rw [← HL.out] at this
    exact this
  have HB1 : Hid (Below wb.heap.size wb wb.drew) := (Below.refl _ _).drew
  obtain ⟨e1, e2, e3⟩ := HC.out _ HB1.out
  clear h hB
  refine (callsIn_wide (n := 3)).1 ?_
  refine callsIn_of_wp_marks Try.func3 rfl trivial ?_ rfl
  refine wpIn_noPan ?_
  refine wpIn_wide.2 ?_
  simp only [Try.ntmps3, List.size_toArray, List.length_cons, List.length_nil, Nat.reduceAdd, Nat.reduceSub, Array.replicate_succ, Array.replicate_zero, List.push_toArray, List.append_toArray, List.nil_append, List.cons_append]
  go_wp2
  clear hwb
  go_cut [20] from 16 to 20 (fun s20 wx => s20 = .bool false ∧ Hid (Below wb.heap.size wb wx))
  case first =>
    go_region_with (first
      | (go_at_call 5; refine (HCP.out _ HB1.out).mono ?_; rintro e w4 ⟨a4, c4, rfl, o4, b4⟩; have HO4 := hide o4.sb; have HB4 := hide (HB1.out.trans (b4.mono HB1.out.size)); obtain ⟨k1, k2, k3⟩ := HC.out _ HB4.out; clear o4 b4)
      | (go_at_call 4; refine (HEA.out _ _ HO4.out).mono ?_; rintro e w5 ⟨f5, bs5, I5, rfl, lo5, it5, b5⟩; have HB5 := hide (HB4.out.trans (b5.mono HB4.out.size)); clear lo5 it5 b5))
    all_goals
      go_wp2_with fail
      go_meet
      exact ⟨rfl, HB5⟩
  case rest =>
  obtain ⟨rfl, HB5⟩ := hcut
  clear e1 e2 e3
  go_wp2
  have HB6 : Hid (Below wb.heap.size wb wc.drew) := below_drewN HB5.out 1
  have HB7 : Hid (∀ o, Below wb.heap.size wb (wc.alloc o).drew) := fun o => below_drewN (HB5.out.alloc HB5.out.size o) 1
  obtain ⟨e1, e2, e3⟩ := HC.out _ HB6.out
  obtain ⟨e4, e5, e6⟩ := HC.out _ (HB7.out (.cells #[.slice none 0 0] 29))
  go_cut [7, 8] from 7 to 27 (fun s7 s8 wx => ∃ gk ta tc, s7 = .pointer (some ⟨gk, 0, none⟩) ∧ s8 = .int .i64 E ∧ tc ≤ 9223372036854775807 ∧ L.length ≤ tc ∧ Hid (Tkb wb gk (.slice ta L.length tc) L wx))
  case first =>
    go_region_with (first
      | (go_at_call 5; first
        | (refine (HCP.out _ HB6.out).mono ?_; rintro e w4 ⟨a4, c4, rfl, o4, b4⟩; have HO4 := hide o4.sb; have HB4 := hide (HB6.out.trans (b4.mono HB6.out.size)); obtain ⟨k1, k2, k3⟩ := HC.out _ HB4.out; obtain ⟨k4, k5, k6⟩ := HC.out _ (HB4.out.alloc HB4.out.size (.cells #[.slice none 0 0] 29)); have HX4 := hide b4; clear o4 b4)
        | (refine (HCP.out _ (HB7.out _)).mono ?_; rintro e w4 ⟨a4, c4, rfl, o4, b4⟩; have HO4 := hide o4.sb; have HB4 := hide ((HB7.out _).trans (b4.mono (HB7.out _).size)); obtain ⟨k1, k2, k3⟩ := HC.out _ HB4.out; obtain ⟨k4, k5, k6⟩ := HC.out _ (HB4.out.alloc HB4.out.size (.cells #[.slice none 0 0] 29)); have HX4 := hide b4; clear o4 b4))
      | (go_at_call 6; first
        | (refine (HTO.out _ _ HO4.out).mono ?_; rintro e w5 ⟨u5, rfl, o5, b5⟩; have HX5 := hide b5; have HO5 := hide o5; obtain ⟨a5, c5, hu5, hl5, hm5⟩ := o5.shape; subst hu5; clear o5 b5; try (refine (boxA HX4.out HX5.out).elim fun y1 Y => ?_; refine Y.elim fun y2 Y3 => ?_; clear Y))
        | (refine (HTO.out _ _ (HO4.out.below ((Below.refl _ _).alloc (Nat.le_refl _) _))).mono ?_; rintro e w5 ⟨u5, rfl, o5, b5⟩; have HX5 := hide b5; have HO5 := hide o5; obtain ⟨a5, c5, hu5, hl5, hm5⟩ := o5.shape; subst hu5; clear o5 b5; try (refine (boxB HX5.out).elim fun y1 Y => ?_; refine Y.elim fun y2 Y4 => ?_; clear Y))))
    all_goals
      go_wp2_with fail
      go_meet
      first
        | exact ⟨_, _, _, rfl, rfl, hm5, hl5, hide (tkb_new (HB4.out.trans (HX5.out.mono HB4.out.size)) HO5.out HB4.out.size)⟩
        | exact ⟨_, _, _, rfl, rfl, hm5, hl5, hide (tkb_set HB4.out.size ((HB4.out.alloc HB4.out.size _).trans (HX5.out.mono (HB4.out.alloc HB4.out.size _).size)) Y4.out HO5.out (by simp))⟩
        | exact ⟨_, _, _, rfl, rfl, hm5, hl5, hide (tkb_set HB5.out.size (HB4.out.trans (HX5.out.mono HB4.out.size)) Y3.out.1 HO5.out Y3.out.2)⟩
  case rest =>
  obtain ⟨gk, ta, tc, rfl, rfl, htc, hlt, HK⟩ := hcut
  clear e1 e2 e3 e4 e5 e6 HB5 HB6 HB7
  have HLL : Hid (L.length ≤ 16777216 ∧ (E = 0 ∨ L.length = 0)) := by
    rw [HL.out, HE.out]
    by_cases h1 : (D.length : Int) ≤ 16777216 ∧ Dmn x y
    · obtain ⟨q1, q2⟩ := tE_ok (z := z) h1
      rw [q1, q2]
      exact ⟨Nat.le_trans tkl_len (by omega), .inl rfl⟩
    · obtain ⟨q1, q2⟩ := tE_bad (z := z) h1
      rw [q1, q2]
      exact ⟨by simp, .inr rfl⟩
  obtain ⟨e1, e2, e3⟩ := HC.out _ HK.out.2.2.2.2
  have t1 : wc.cell? ⟨gk, 0, none⟩ = some (.slice ta L.length tc) := cellIn HK.out.2.1 rfl
  apply_assumption
  repeat (apply wp_seq_k; intro _ _)
  go_cut [44] from 28 to 44 (fun s44 wx => s44 = .bool false ∧ Hid (Tkb wb gk (.slice ta L.length tc) L wx))
  case first =>
    by_cases h1 : (D.length : Int) ≤ 16777216
    · have HLD := hide (ldom_any x y z wc)
      go_wp2_with fail
      refine HLD.out.mono ?_
      rintro e w6 ⟨rfl, b6⟩
      have HK6 := hide (HK.out.low b6)
      clear b6 e1 e2 e3 HLD t1
      have t1 : w6.cell? ⟨gk, 0, none⟩ = some (.slice ta L.length tc) := cellIn HK6.out.2.1 rfl
      by_cases h2 : Dmn x y
      · have HDD : Hid (dmn x y = true) := decide_eq_true h2
        rw [HDD.out]
        obtain ⟨r1, r2⟩ := tE_ok (D := D) (z := z) ⟨h1, h2⟩
        have hE0 : E = 0 := HE.out.trans r1
        have hL0 : L = tkl D x.toNat y.toNat z := HL.out.trans r2
        unfold Dmn at h2
        obtain ⟨q1, q2⟩ := tkl_all (D := D) (W := x.toNat) (C := y.toNat) (z := z) (by omega)
        rw [← hL0] at q1 q2
        have HMN := hide (means_any _ _ L D (D.length : Int) w6 HK6.out.2.2.1.sk (HSB.out _ HK6.out.2.2.2.2) q1 q2.symm (by omega))
        subst hE0
        clear h2 hL0 r1 r2 q1 q2
        go_wp2_with fail
        refine HMN.out.mono ?_
        rintro e w7 ⟨rfl, b7⟩
        have HK7 := hide (HK6.out.low b7)
        clear b7 t1
        go_wp2_with fail
        go_meet
        exact ⟨rfl, HK7⟩
      · have HDD : Hid (dmn x y = false) := decide_eq_false h2
        rw [HDD.out]
        clear h2
        go_wp2_with fail
        go_meet
        exact ⟨rfl, HK6⟩
    · have h1' : ¬ (D.length : Int) ≤ 16777216 := h1
      go_wp2_with fail
      go_meet
      exact ⟨rfl, HK⟩
  case rest =>
  obtain ⟨rfl, HK2⟩ := hcut
  clear e1 e2 e3 t1 HK
  have HLE := hide (lent_any _ D wc (HSB.out _ HK2.out.2.2.2.2) hr)
  go_wp2_with fail
  refine HLE.out.mono ?_
  rintro e w6 ⟨u6, rfl, l6, b6⟩
  have HK6 := hide (HK2.out.low b6)
  have hb6 := HK6.out.2.2.2.2
  have HEC := hide (HEA.out w6 u6 l6.sb)
  obtain ⟨B, c, rfl, hB6, hG6, hc6, hc7⟩ := Gv.of l6
  obtain ⟨f1, f2, f3⟩ := HC.out _ hb6
  have HSZ : Hid (wb.heap.size ≤ B ∧ B < w6.heap.size ∧ gk ≠ B ∧ (Value.slice ta L.length tc).ownBlock ≠ some B) := by
    have s1 := HK2.out.2.2.2.2.size
    have s2 := (Array.getElem?_eq_some_iff.1 HK2.out.2.1).1
    obtain ⟨cur, hcur, _⟩ := hG6
    have s3 := (Array.getElem?_eq_some_iff.1 hcur).1
    exact ⟨by omega, s3, by omega, fun q => by have := (HK2.out.2.2.1.lt B q).2; omega⟩
  have HL6 := hide l6
  clear l6 b6 hb6 HLE HK2 hG6 hB6
  go_wp2_with fail
  refine HEC.out.mono ?_
  rintro e w7 ⟨f, bs, Its, rfl, lo7, it7, b7⟩
  have HLO := hide lo7
  have HK7 := hide (HK6.out.low b7)
  have HL7 := hide (HL6.out.low b7)
  have HIT : Hid (∀ b, Its b → w6.heap.size ≤ b ∧ b < w7.heap.size) := it7
  have HST := hide (still_any _ _ D w7 _ HL7.out (HSB.out _ HK7.out.2.2.2.2) hr)
  clear lo7 it7 b7 f1 f2 f3 HEC HL6 HK6
  go_wp2_with fail
  refine HST.out.mono ?_
  rintro e w8 ⟨rfl, n8, hw8⟩
  subst hw8
  have HK8 : Hid (Tkb wb gk (.slice ta L.length tc) L (w7.drewN n8)) := HK7.out.low (below_drewN (Below.refl _ _) n8)
  obtain ⟨B', c', hBc, _, hG8, _, _⟩ := Gv.of (HL7.out.low (below_drewN (Below.refl _ _) n8))
  simp only [Value.slice.injEq, Option.some.injEq, Addr.mk.injEq] at hBc
  obtain ⟨⟨rfl, -⟩, -, rfl⟩ := hBc
  have HG8 := hide hG8
  have HI8 : Hid ((∀ b, Its b → (w7.drewN n8).heap[b]? = w7.heap[b]?) ∧ w7.heap.size ≤ (w7.drewN n8).heap.size) := ⟨fun _ _ => rfl, Nat.le_refl _⟩
  obtain ⟨w9, hw9⟩ : ∃ w9, w7.drewN n8 = w9 := ⟨_, rfl⟩
  rw [hw9] at HK8 HG8 HI8 ⊢
  clear HST hG8 HL7 HK7 hw9
  go_wp2
  go_loopw [11] (fun t wr => ∃ k : Nat, k ≤ D.length ∧ t = .int .i64 (k : Int) ∧ Hid (Tkb wb gk (.slice ta L.length tc) L wr) ∧ Hid (Gv wr B D.length) ∧ Hid ((∀ b, Its b → wr.heap[b]? = w7.heap[b]?) ∧ w7.heap.size ≤ wr.heap.size)) (fun t _ => D.length - (intOf t).toNat)
  case atStart => exact ⟨0, Nat.zero_le _, rfl, HK8, HG8, HI8⟩
  case round =>
    obtain ⟨k, hk, rfl, HKr, HGr, HIr⟩ := hrel
    clear HK8 HG8 HI8
    by_cases hlt1 : k < D.length
    · have hlt' : (k : Int) < (D.length : Int) := by omega
      obtain ⟨u0, hu0, hu1⟩ := HGr.out.at hlt1
      have HKn : Hid (Tkb wb gk (.slice ta L.length tc) L (wr.setCell ⟨B, k, none⟩ (.int .u8 42))) := HKr.out.put HSZ.out.1 HSZ.out.2.2.1 HSZ.out.2.2.2
      have HGn : Hid (Gv (wr.setCell ⟨B, k, none⟩ (.int .u8 42)) B D.length) := HGr.out.put
      have HIn : Hid ((∀ b, Its b → (wr.setCell ⟨B, k, none⟩ (.int .u8 42)).heap[b]? = w7.heap[b]?) ∧ w7.heap.size ≤ (wr.setCell ⟨B, k, none⟩ (.int .u8 42)).heap.size) := ⟨fun b hb => (setCell_others _ _ _ _ b (by have := (HIT.out b hb).1; have := HSZ.out.2.1; omega)).trans (HIr.out.1 b hb), by rw [size_setCell]; exact HIr.out.2⟩
      clear HKr HGr HIr
      go_wp2
      go_roundw
      case rel => exact ⟨k + 1, by omega, by go_num, HKn, HGn, HIn⟩
      case measure => simp [intOf]; omega
    · obtain rfl : k = D.length := by omega
      have hlt' : ¬ (D.length : Int) < (D.length : Int) := by omega
      have t1 : wr.cell? ⟨gk, 0, none⟩ = some (.slice ta L.length tc) := cellIn HKr.out.2.1 rfl
      have hw2 : wrap64 ((L.length : Int) + 2) = ((L.length + 2 : Nat) : Int) := by have := HLL.out.1; unfold wrap64; omega
      have HWH := hide (which_any stop ((L.length + 2 : Nat) : Int) (by omega) (by have := HLL.out.1; omega) wr)
      obtain ⟨n, hn⟩ : ∃ n : Nat, stop % ((L.length + 2 : Nat) : Int) = (n : Int) := Int.eq_ofNat_of_zero_le (Int.emod_nonneg _ (by omega))
      rw [hn] at HWH
      clear hn HGr
      go_wp2_with fail
      refine HWH.out.mono ?_
      rintro e wq ⟨rfl, hwq⟩
      subst hwq
      clear HWH t1 hw2
      have HM0 : Hid (Mem wb w7 L Its gk wq.heap.size (wq.heap.size + 1) (.slice ta L.length tc) n 0 [] ((wq.alloc (.cells #[.int .i64 (n : Int)] 3)).alloc (.cells #[.int .i64 0] 3))) := Mem.start HKr.out HIr.out (fun b hb => (HIT.out b hb).2)
      clear HKr HIr
      go_wp2
      obtain ⟨W0, hW0⟩ : ∃ W0, (wq.alloc (.cells #[.int .i64 (n : Int)] 3)).alloc (.cells #[.int .i64 0] 3) = W0 := ⟨_, rfl⟩
      obtain ⟨gn, hgn⟩ : ∃ g, wq.heap.size = g := ⟨_, rfl⟩
      obtain ⟨gt, hgt⟩ : ∃ g, gn + 1 = g := ⟨_, rfl⟩
      rw [hgn, hgt, hW0] at HM0
      rw [hW0, hgn, hgt]
      clear hgn hgt hW0
      refine wp_loop_rounds 4 ?_
      rw [rounds_succ]
      have c0 : W0.cell? ⟨gt, 0, none⟩ = some (.int .i64 0) := cellIn HM0.out.trn rfl
      go_wp2_with fail
      clear c0
      have hgl0 : W0.heap.size < (W0.alloc (.cells #[.slice none 0 0] 29)).heap.size := by simp
      have hsz0 : (W0.alloc (.cells #[.slice none 0 0] 29)).heap.size = W0.heap.size + 1 := by simp
      have HMA0 := hide (HM0.out.low ((Below.refl _ _).alloc (Nat.le_refl _) (.cells #[.slice none 0 0] 29)))
      have HV0 := hide (heap_alloc_new W0 (.cells #[.slice none 0 0] 29))
      have HTI0 : Hid (∀ k S o V, TkJ L (W0.alloc (.cells #[.slice none 0 0] 29)) (W0.alloc (.cells #[.slice none 0 0] 29)).heap.size W0.heap.size k S o V → Mem wb w7 L Its gk gn gt (.slice ta L.length tc) n 0 [] V) := fun k S o V h => HM0.out.low (tkj_below h)
      obtain ⟨gT0, hgT0⟩ : ∃ g, W0.heap.size = g := ⟨_, rfl⟩
      obtain ⟨V0, hV0⟩ : ∃ V, W0.alloc (.cells #[.slice none 0 0] 29) = V := ⟨_, rfl⟩
      have HBV0 : Hid (∀ k S o V, TkJ L V0 V0.heap.size gT0 k S o V → Below wb.heap.size wb V) := by rw [← hV0, ← hgT0]; exact fun k S o V h => (HTI0.out k S o V h).tkb.2.2.2.2
      rw [hgT0] at HV0 hsz0 hgl0 HTI0
      rw [hV0] at HV0 HMA0 HTI0 hsz0 hgl0
      rw [hV0, hgT0]
      have HZ0 := hide hsz0
      clear hV0 hsz0
      have HQ0 : Hid (wb.heap.size ≤ V0.heap.size) := by
        have q := HMA0.out
        exact q.tkb.2.2.2.2.size
      have HGG0 := hide hgT0
      clear hgT0
      have HII0 : Hid (w7.heap.size ≤ V0.heap.size ∧ (∀ b, Its b → V0.heap[b]? = w7.heap[b]?) ∧ ¬ Its gT0) := ⟨HMA0.out.isz, HMA0.out.its, fun q => by have := HMA0.out.ige _ q; have := HM0.out.isz; have := HGG0.out; omega⟩
      refine HLO.out.both gT0 4 n ?act0 (fun k => ¬ (1 ≤ n ∧ n ≤ k)) (by omega) rfl rfl HII0.out.1 HII0.out.2.1 HII0.out.2.2 HV0.out ?assign0 ?body0 ?exit0 ?done0
      case assign0 =>
        intro x V c K hc hK
        gi_wp2
        exact hK
      case body0 =>
        intro k S o V c hk hφ hT hS hc hcl hcS
        obtain ⟨⟨t1, t2, t3⟩, ht⟩ : ∃ t, L.getD k tk0 = t := ⟨_, rfl⟩
        rw [ht] at hc ⊢
        obtain ⟨tv, e1, e2, e3⟩ := hT.var
        have H0 := hide hT
        have HME := hide (HTI0.out k S o V hT)
        obtain ⟨P, HP⟩ : ∃ P, Hid (P = L.take k) := ⟨_, hide rfl⟩
        rw [← HP.out] at e2
        have HV := hide (And.intro e1 (And.intro e2 e3))
        have hV1 : V.cell? ⟨gT0, 0, none⟩ = some tv := cellIn e1 rfl
        have hV2 : V.frozen? ⟨gT0, 0, none⟩ = false := frozenIn e1
        obtain ⟨c0, c1, c2, _, _, _⟩ := tkc_cells hc
        have b0 : V.cell? ⟨c, 0, none⟩ = some (.int .i64 t1) := c0
        have b1 : V.cell? ⟨c, 1, none⟩ = some (.int .i64 t2) := c1
        have b2 : V.cell? ⟨c, 2, none⟩ = some (.int .u8 t3) := c2
        have HSS := hide hS
        obtain ⟨pa, pc, htv, _⟩ := e2.shape
        subst htv
        have hsz := hT.size
        have hpl : P.length = k := by rw [HP.out, List.length_take]; omega
        have HPL := hide hpl
        have HTL : Hid (P.length ≤ 5864062014800) := by show _ ≤ _; have := HLL.out.1; omega
        clear c0 c1 c2 hT e1 e2 e3 hS hpl
        gi_wp2_with (gi_at_builtin; refine wpTokIn rfl _ _ rfl (V0.heap.size + 2) (.slice pa P.length pc) P t1 t2 t3 rfl HV.out.2.1 _ rfl HTL.out hsz ?_)
        intro v9 w9 ho9 hg9 hat9
        have HP9 : Hid (P ++ [(t1, t2, t3)] = L.take (k + 1)) := by show _ = _; rw [tk_snoc hk, ht, HP.out]
        rw [HP9.out] at ho9
        have hb9 : Below V.heap.size V (V.alloc (.cells #[.int .i64 t1, .int .i64 t2, .int .u8 t3] 38)) := (Below.refl _ _).alloc (Nat.le_refl _) _
        have hNX := H0.out.next hgl0 HSS.out HV.out.1 (by rw [← HP.out]; exact HV.out.2.1) HV.out.2.2 hb9 hg9 ho9 (hat9.imp id fun e => ⟨_, e, by omega⟩)
        have HNX := hide hNX
        have l1 := hg9.size
        have f9 : w9.heap[gT0]? = V.heap[gT0]? := (hg9.block gT0 (by simp; omega) (fun e => by have := (HV.out.2.1.lt gT0 e.symm).1; omega)).trans (hb9.block gT0 (by omega))
        have hW1 : w9.cell? ⟨gT0, 0, none⟩ = some (.slice pa P.length pc) := (World.cell?_of_block f9).trans hV1
        have hW2' : w9.frozen? ⟨gT0, 0, none⟩ = false := frozenIn (f9.trans HV.out.1)
        obtain ⟨P9, HPP⟩ : ∃ P9, Hid (P9 = L.take (k + 1)) := ⟨_, hide rfl⟩
        rw [← HPP.out] at ho9
        obtain ⟨m, hm⟩ : ∃ m, k + 1 = m := ⟨_, rfl⟩
        have hp9 : P9.length = m := by rw [HPP.out, List.length_take]; omega
        obtain ⟨a9, c9, hv9, _⟩ := ho9.shape
        rw [hp9] at hv9
        subst hv9
        have HMN := hide (HTI0.out (k + 1) S o _ hNX.1)
        have n1 : (w9.setCell ⟨gT0, 0, none⟩ (.slice a9 m c9)).cell? ⟨gT0, 0, none⟩ = some (.slice a9 m c9) := cellIn (heap_setCell_at (k := 0) (.slice a9 m c9) (f9.trans HV.out.1)) rfl
        have n2 : (w9.setCell ⟨gT0, 0, none⟩ (.slice a9 m c9)).cell? ⟨gt, 0, none⟩ = some (.int .i64 0) := cellIn HMN.out.trn rfl
        have n3 : (w9.setCell ⟨gT0, 0, none⟩ (.slice a9 m c9)).cell? ⟨gn, 0, none⟩ = some (.int .i64 (n : Int)) := cellIn HMN.out.num rfl
        have n4 : (w9.setCell ⟨gT0, 0, none⟩ (.slice a9 m c9)).cell? ⟨gk, 0, none⟩ = some (.slice ta L.length tc) := cellIn HMN.out.tkb.2.1 rfl
        have HM1 := hide hm
        have hgt1 : ¬ (L.length : Int) < (m : Int) := by omega
        clear hNX hg9 ho9 hat9 hb9 l1 f9 b0 b1 b2 hV1 hV2 hp9 hm
        by_cases hbr : m = n
        · subst hbr
          have hbb : ((m : Int) == (m : Int)) = true := by simp
          gi_wp2
          exact ⟨rfl, by have := HM1.out; omega, by omega, S, by have := HNX.out.1; rwa [HM1.out] at this⟩
        · have hbb : ((m : Int) == (n : Int)) = false := by simp; omega
          gi_wp2
          exact ⟨⟨by have := HM1.out; omega, HNX.out.1⟩, HNX.out.2.1, HNX.out.2.2⟩
      case exit0 =>
        intro V h
        refine wp_exit ?_
        exact h
      case done0 =>
        intro V m S o hT hm
        have HME := hide ((HTI0.out _ S o V hT).cons hT.dfr)
        obtain ⟨tv, e1, e2, e3⟩ := hT.var
        have hml : m ≤ L.length := by rcases hm with ⟨q, _⟩ | ⟨q, _, q2⟩ <;> omega
        have hl : (L.take m).length = m := by rw [List.length_take]; omega
        have hn3 : n ≤ L.length → n ≤ tc := fun q => by omega
        have HE2 := hide e2.sk
        have v1 : V.cell? ⟨gT0, 0, none⟩ = some tv := cellIn e1 rfl
        have v2 : V.cell? ⟨gt, 0, none⟩ = some (.int .i64 0) := cellIn HME.out.trn rfl
        have v3 : V.cell? ⟨gn, 0, none⟩ = some (.int .i64 (n : Int)) := cellIn HME.out.num rfl
        have v4 : V.cell? ⟨gk, 0, none⟩ = some (.slice ta L.length tc) := cellIn HME.out.tkb.2.1 rfl
        obtain ⟨pa, pc, htv, _⟩ := e2.shape
        rw [hl] at htv
        subst htv
        clear e1 e2 e3 hT
        apply_assumption
        dsimp only
        repeat (apply wp_seq_k; intro _ _)
        go_cut [114] from 95 to 114 (fun s114 wx => s114 = .bool false ∧ Hid (Mem wb w7 L Its gk gn gt (.slice ta L.length tc) n 0 [V0.heap.size] wx))
        case first =>
          by_cases z0 : n = 0
          · have q1 : decide ((0 : Int) < (n : Int)) = false := decide_eq_false (by omega)
            have q1n : decide (0 < n) = false := decide_eq_false (by omega)
            clear z0 hm
            go_quiet (fail)
            go_wp2_with fail
            go_meet
            exact ⟨rfl, hide (HME.out.low (below_drewN (Below.refl _ _) _))⟩
          · have q1 : decide ((0 : Int) < (n : Int)) = true := decide_eq_true (by omega)
            have q1n : decide (0 < n) = true := decide_eq_true (by omega)
            by_cases z1 : n < L.length
            · have q2 : decide ((n : Int) < (L.length : Int)) = true := decide_eq_true (by omega)
              have q2n : decide (n < L.length) = true := decide_eq_true (by omega)
              obtain rfl : m = n := by rcases hm with ⟨q, q3⟩ | ⟨q, _⟩ <;> omega
              have q3 : m ≤ tc := by omega
              have q4 : (m : Int) ≤ (tc : Int) := by omega
              have HQ : Hid (∀ j, Calls Try.prog 12 #[.slice pa m pc, .slice ta m tc] (V.drewN j) fun e w' => e = .returned (.bool true) ∧ ∃ i, w' = V.drewN i) := fun j => by
                refine (alike_any _ _ _ _ (V.drewN j) (HE2.out.drewN j) ((HME.out.tkb.2.2.1.sk.front (by omega)).drewN j)).mono ?_
                rintro e w' ⟨rfl, i, rfl⟩
                exact ⟨by rw [eqK_self], j + i, by rw [World.drewN_drewN]⟩
              clear z0 z1 hm hn3
              go_quiet (exact HQ.out _)
              go_wp2_with fail
              go_meet
              exact ⟨rfl, hide (HME.out.low (below_drewN (Below.refl _ _) _))⟩
            · have q2 : decide ((n : Int) < (L.length : Int)) = false := decide_eq_false (by omega)
              have q2n : decide (n < L.length) = false := decide_eq_false (by omega)
              clear z0 z1 hm
              go_quiet (fail)
              go_wp2_with fail
              go_meet
              exact ⟨rfl, hide (HME.out.low (below_drewN (Below.refl _ _) _))⟩
        case rest =>
        obtain ⟨rfl, HMF⟩ := hcut
        clear v1 v2 v3 v4 HE2 HME hm
        have v2 : wc.cell? ⟨gt, 0, none⟩ = some (.int .i64 0) := cellIn HMF.out.trn rfl
        obtain ⟨W1, hW1⟩ : ∃ W1, (wc.alloc (.cells #[.int .i64 0] 3)).setCell ⟨wc.heap.size, 0, none⟩ (.int .i64 1) = W1 := ⟨_, rfl⟩
        have HM1' : Hid (Mem wb w7 L Its gk gn wc.heap.size (.slice ta L.length tc) n 1 [V0.heap.size] W1) := by rw [← hW1]; exact HMF.out.next 1 rfl
        go_wp2
        clear hW1 v2 HMF
        obtain ⟨gt1, hgt1⟩ : ∃ g, wc.heap.size = g := ⟨_, rfl⟩
        rw [hgt1] at HM1' ⊢
        clear hgt1
        have HM1 := HM1'
        clear HM1' HM0 HMA0 HTI0 HBV0 HII0 HV0 HGG0
        rw [rounds_succ]
        have c0 : W1.cell? ⟨gt1, 0, none⟩ = some (.int .i64 1) := cellIn HM1.out.trn rfl
        go_wp2_with fail
        clear c0
        have hgl1 : W1.heap.size < (W1.alloc (.cells #[.slice none 0 0] 29)).heap.size := by simp
        have hsz1 : (W1.alloc (.cells #[.slice none 0 0] 29)).heap.size = W1.heap.size + 1 := by simp
        have HMA1 := hide (HM1.out.low ((Below.refl _ _).alloc (Nat.le_refl _) (.cells #[.slice none 0 0] 29)))
        have HV1 := hide (heap_alloc_new W1 (.cells #[.slice none 0 0] 29))
        have HTI1 : Hid (∀ k S o V, TkJ L (W1.alloc (.cells #[.slice none 0 0] 29)) (W1.alloc (.cells #[.slice none 0 0] 29)).heap.size W1.heap.size k S o V → Mem wb w7 L Its gk gn gt1 (.slice ta L.length tc) n 1 [V0.heap.size] V) := fun k S o V h => HM1.out.low (tkj_below h)
        obtain ⟨gT1, hgT1⟩ : ∃ g, W1.heap.size = g := ⟨_, rfl⟩
        obtain ⟨V1, hV1⟩ : ∃ V, W1.alloc (.cells #[.slice none 0 0] 29) = V := ⟨_, rfl⟩
        have HBV1 : Hid (∀ k S o V, TkJ L V1 V1.heap.size gT1 k S o V → Below wb.heap.size wb V) := by rw [← hV1, ← hgT1]; exact fun k S o V h => (HTI1.out k S o V h).tkb.2.2.2.2
        rw [hgT1] at HV1 hsz1 hgl1 HTI1
        rw [hV1] at HV1 HMA1 HTI1 hsz1 hgl1
        rw [hV1, hgT1]
        have HZ1 := hide hsz1
        clear hV1 hsz1
        have HQ1 : Hid (V0.heap.size < V1.heap.size) := by
          have q := HMA1.out
          exact (Array.getElem?_eq_some_iff.1 (q.dfs V0.heap.size (by simp))).1
        have HGG1 := hide hgT1
        clear hgT1
        have HII1 : Hid (w7.heap.size ≤ V1.heap.size ∧ (∀ b, Its b → V1.heap[b]? = w7.heap[b]?) ∧ ¬ Its gT1) := ⟨HMA1.out.isz, HMA1.out.its, fun q => by have := HMA1.out.ige _ q; have := HM1.out.isz; have := HGG1.out; omega⟩
        refine HLO.out _ _ _ _ _ _ _ gT1 (fun _ _ _ => False) ?act1 (fun _ => True) trivial rfl rfl HII1.out.1 HII1.out.2.1 HII1.out.2.2 HV1.out (fun cc => ⟨fun o V h => h.elim, fun o o' V h => h.elim⟩) ?assign1 ?body1 ?done1 ?stop1
        case assign1 =>
          intro x V c K hc hK
          gi_wp2
          exact hK
        case body1 =>
          intro k S o V c hk hφ hT hS hc hcl hcS
          obtain ⟨⟨t1, t2, t3⟩, ht⟩ : ∃ t, L.getD k tk0 = t := ⟨_, rfl⟩
          rw [ht] at hc ⊢
          obtain ⟨tv, e1, e2, e3⟩ := hT.var
          have H1 := hide hT
          have HME := hide (HTI1.out k S o V hT)
          obtain ⟨P, HP⟩ : ∃ P, Hid (P = L.take k) := ⟨_, hide rfl⟩
          rw [← HP.out] at e2
          have HV := hide (And.intro e1 (And.intro e2 e3))
          have hV1 : V.cell? ⟨gT1, 0, none⟩ = some tv := cellIn e1 rfl
          have hV2 : V.frozen? ⟨gT1, 0, none⟩ = false := frozenIn e1
          obtain ⟨c0, c1, c2, _, _, _⟩ := tkc_cells hc
          have b0 : V.cell? ⟨c, 0, none⟩ = some (.int .i64 t1) := c0
          have b1 : V.cell? ⟨c, 1, none⟩ = some (.int .i64 t2) := c1
          have b2 : V.cell? ⟨c, 2, none⟩ = some (.int .u8 t3) := c2
          have HSS := hide hS
          obtain ⟨pa, pc, htv, _⟩ := e2.shape
          subst htv
          have hsz := hT.size
          have hpl : P.length = k := by rw [HP.out, List.length_take]; omega
          have HPL := hide hpl
          have HTL : Hid (P.length ≤ 5864062014800) := by show _ ≤ _; have := HLL.out.1; omega
          clear c0 c1 c2 hT e1 e2 e3 hS hpl
          gi_wp2_with (gi_at_builtin; refine wpTokIn rfl _ _ rfl (V1.heap.size + 2) (.slice pa P.length pc) P t1 t2 t3 rfl HV.out.2.1 _ rfl HTL.out hsz ?_)
          intro v9 w9 ho9 hg9 hat9
          have HP9 : Hid (P ++ [(t1, t2, t3)] = L.take (k + 1)) := by show _ = _; rw [tk_snoc hk, ht, HP.out]
          rw [HP9.out] at ho9
          have hb9 : Below V.heap.size V (V.alloc (.cells #[.int .i64 t1, .int .i64 t2, .int .u8 t3] 38)) := (Below.refl _ _).alloc (Nat.le_refl _) _
          have hNX := H1.out.next hgl1 HSS.out HV.out.1 (by rw [← HP.out]; exact HV.out.2.1) HV.out.2.2 hb9 hg9 ho9 (hat9.imp id fun e => ⟨_, e, by omega⟩)
          have HNX := hide hNX
          have l1 := hg9.size
          have f9 : w9.heap[gT1]? = V.heap[gT1]? := (hg9.block gT1 (by simp; omega) (fun e => by have := (HV.out.2.1.lt gT1 e.symm).1; omega)).trans (hb9.block gT1 (by omega))
          have hW1 : w9.cell? ⟨gT1, 0, none⟩ = some (.slice pa P.length pc) := (World.cell?_of_block f9).trans hV1
          have hW2' : w9.frozen? ⟨gT1, 0, none⟩ = false := frozenIn (f9.trans HV.out.1)
          obtain ⟨P9, HPP⟩ : ∃ P9, Hid (P9 = L.take (k + 1)) := ⟨_, hide rfl⟩
          rw [← HPP.out] at ho9
          obtain ⟨m, hm⟩ : ∃ m, k + 1 = m := ⟨_, rfl⟩
          have hp9 : P9.length = m := by rw [HPP.out, List.length_take]; omega
          obtain ⟨a9, c9, hv9, _⟩ := ho9.shape
          rw [hp9] at hv9
          subst hv9
          have HMN := hide (HTI1.out (k + 1) S o _ hNX.1)
          have n1 : (w9.setCell ⟨gT1, 0, none⟩ (.slice a9 m c9)).cell? ⟨gT1, 0, none⟩ = some (.slice a9 m c9) := cellIn (heap_setCell_at (k := 0) (.slice a9 m c9) (f9.trans HV.out.1)) rfl
          have n2 : (w9.setCell ⟨gT1, 0, none⟩ (.slice a9 m c9)).cell? ⟨gt1, 0, none⟩ = some (.int .i64 1) := cellIn HMN.out.trn rfl
          have n3 : (w9.setCell ⟨gT1, 0, none⟩ (.slice a9 m c9)).cell? ⟨gn, 0, none⟩ = some (.int .i64 (n : Int)) := cellIn HMN.out.num rfl
          have n4 : (w9.setCell ⟨gT1, 0, none⟩ (.slice a9 m c9)).cell? ⟨gk, 0, none⟩ = some (.slice ta L.length tc) := cellIn HMN.out.tkb.2.1 rfl
          have HM1 := hide hm
          have hgt1 : ¬ (L.length : Int) < (m : Int) := by omega
          clear hNX hg9 ho9 hat9 hb9 l1 f9 b0 b1 b2 hV1 hV2 hp9 hm
          gi_wp2
          exact ⟨⟨trivial, HNX.out.1⟩, HNX.out.2.1, HNX.out.2.2⟩
        case stop1 => exact fun cc o V h => h.elim
        case done1 =>
          intro S o V _ hT
          have HME := hide ((HTI1.out _ S o V hT).cons hT.dfr)
          obtain ⟨tv, e1, e2, e3⟩ := hT.var
          rw [List.take_of_length_le (Nat.le_refl _)] at e2
          have HE2 := hide e2.sk
          have v1 : V.cell? ⟨gT1, 0, none⟩ = some tv := cellIn e1 rfl
          have v2 : V.cell? ⟨gt1, 0, none⟩ = some (.int .i64 1) := cellIn HME.out.trn rfl
          have v3 : V.cell? ⟨gn, 0, none⟩ = some (.int .i64 (n : Int)) := cellIn HME.out.num rfl
          have v4 : V.cell? ⟨gk, 0, none⟩ = some (.slice ta L.length tc) := cellIn HME.out.tkb.2.1 rfl
          obtain ⟨pa, pc, htv, _⟩ := e2.shape
          subst htv
          clear e1 e2 e3 hT
          apply_assumption
          dsimp only
          repeat (apply wp_seq_k; intro _ _)
          go_quiet (fail)
          have HAL := hide (alike_any _ _ _ _ (V.drewN nq) (HE2.out.drewN nq) (HME.out.tkb.2.2.1.sk.drewN nq))
          rw [eqK_self] at HAL
          go_wp2_with fail
          refine HAL.out.mono ?_
          rintro e wd ⟨rfl, i, hwd⟩
          have HMF : Hid (Mem wb w7 L Its gk gn gt1 (.slice ta L.length tc) n 1 [V1.heap.size, V0.heap.size] wd) := by rw [hwd]; exact HME.out.low (below_drewN (below_drewN (Below.refl _ _) nq) i)
          clear v1 v2 v3 v4 HE2 HME hwd HAL
          have v2 : wd.cell? ⟨gt1, 0, none⟩ = some (.int .i64 1) := cellIn HMF.out.trn rfl
          obtain ⟨W2, hW2⟩ : ∃ W2, (wd.alloc (.cells #[.int .i64 1] 3)).setCell ⟨wd.heap.size, 0, none⟩ (.int .i64 2) = W2 := ⟨_, rfl⟩
          have HM2' : Hid (Mem wb w7 L Its gk gn wd.heap.size (.slice ta L.length tc) n 2 [V1.heap.size, V0.heap.size] W2) := by rw [← hW2]; exact HMF.out.next 2 rfl
          go_wp2
          clear hW2 v2 HMF
          obtain ⟨gt2, hgt2⟩ : ∃ g, wd.heap.size = g := ⟨_, rfl⟩
          rw [hgt2] at HM2' ⊢
          clear hgt2
          have HM2 := HM2'
          clear HM2' HM1 HMA1 HTI1 HBV1 HII1 HV1 HGG1
          rw [rounds_succ]
          have c0 : W2.cell? ⟨gt2, 0, none⟩ = some (.int .i64 2) := cellIn HM2.out.trn rfl
          go_wp2_with fail
          clear c0
          have hgl2 : W2.heap.size < (W2.alloc (.cells #[.slice none 0 0] 29)).heap.size := by simp
          have hsz2 : (W2.alloc (.cells #[.slice none 0 0] 29)).heap.size = W2.heap.size + 1 := by simp
          have HMA2 := hide (HM2.out.low ((Below.refl _ _).alloc (Nat.le_refl _) (.cells #[.slice none 0 0] 29)))
          have HV2 := hide (heap_alloc_new W2 (.cells #[.slice none 0 0] 29))
          have HTI2 : Hid (∀ k S o V, TkJ L (W2.alloc (.cells #[.slice none 0 0] 29)) (W2.alloc (.cells #[.slice none 0 0] 29)).heap.size W2.heap.size k S o V → Mem wb w7 L Its gk gn gt2 (.slice ta L.length tc) n 2 [V1.heap.size, V0.heap.size] V) := fun k S o V h => HM2.out.low (tkj_below h)
          obtain ⟨gT2, hgT2⟩ : ∃ g, W2.heap.size = g := ⟨_, rfl⟩
          obtain ⟨V2, hV2⟩ : ∃ V, W2.alloc (.cells #[.slice none 0 0] 29) = V := ⟨_, rfl⟩
          have HBV2 : Hid (∀ k S o V, TkJ L V2 V2.heap.size gT2 k S o V → Below wb.heap.size wb V) := by rw [← hV2, ← hgT2]; exact fun k S o V h => (HTI2.out k S o V h).tkb.2.2.2.2
          rw [hgT2] at HV2 hsz2 hgl2 HTI2
          rw [hV2] at HV2 HMA2 HTI2 hsz2 hgl2
          rw [hV2, hgT2]
          have HZ2 := hide hsz2
          clear hV2 hsz2
          have HQ2 : Hid (V1.heap.size < V2.heap.size) := by
            have q := HMA2.out
            exact (Array.getElem?_eq_some_iff.1 (q.dfs V1.heap.size (by simp))).1
          have HGG2 := hide hgT2
          clear hgT2
          have HII2 : Hid (w7.heap.size ≤ V2.heap.size ∧ (∀ b, Its b → V2.heap[b]? = w7.heap[b]?) ∧ ¬ Its gT2) := ⟨HMA2.out.isz, HMA2.out.its, fun q => by have := HMA2.out.ige _ q; have := HM2.out.isz; have := HGG2.out; omega⟩
          refine HLO.out _ _ _ _ _ _ _ gT2 (fun _ _ _ => False) ?act2 (fun _ => True) trivial rfl rfl HII2.out.1 HII2.out.2.1 HII2.out.2.2 HV2.out (fun cc => ⟨fun o V h => h.elim, fun o o' V h => h.elim⟩) ?assign2 ?body2 ?done2 ?stop2
          case assign2 =>
            intro x V c K hc hK
            gi_wp2
            exact hK
          case body2 =>
            intro k S o V c hk hφ hT hS hc hcl hcS
            obtain ⟨⟨t1, t2, t3⟩, ht⟩ : ∃ t, L.getD k tk0 = t := ⟨_, rfl⟩
            rw [ht] at hc ⊢
            obtain ⟨tv, e1, e2, e3⟩ := hT.var
            have H2 := hide hT
            have HME := hide (HTI2.out k S o V hT)
            obtain ⟨P, HP⟩ : ∃ P, Hid (P = L.take k) := ⟨_, hide rfl⟩
            rw [← HP.out] at e2
            have HV := hide (And.intro e1 (And.intro e2 e3))
            have hV1 : V.cell? ⟨gT2, 0, none⟩ = some tv := cellIn e1 rfl
            have hV2 : V.frozen? ⟨gT2, 0, none⟩ = false := frozenIn e1
            obtain ⟨c0, c1, c2, _, _, _⟩ := tkc_cells hc
            have b0 : V.cell? ⟨c, 0, none⟩ = some (.int .i64 t1) := c0
            have b1 : V.cell? ⟨c, 1, none⟩ = some (.int .i64 t2) := c1
            have b2 : V.cell? ⟨c, 2, none⟩ = some (.int .u8 t3) := c2
            have HSS := hide hS
            obtain ⟨pa, pc, htv, _⟩ := e2.shape
            subst htv
            have hsz := hT.size
            have hpl : P.length = k := by rw [HP.out, List.length_take]; omega
            have HPL := hide hpl
            have HTL : Hid (P.length ≤ 5864062014800) := by show _ ≤ _; have := HLL.out.1; omega
            clear c0 c1 c2 hT e1 e2 e3 hS hpl
            gi_wp2_with (gi_at_builtin; refine wpTokIn rfl _ _ rfl (V2.heap.size + 2) (.slice pa P.length pc) P t1 t2 t3 rfl HV.out.2.1 _ rfl HTL.out hsz ?_)
            intro v9 w9 ho9 hg9 hat9
            have HP9 : Hid (P ++ [(t1, t2, t3)] = L.take (k + 1)) := by show _ = _; rw [tk_snoc hk, ht, HP.out]
            rw [HP9.out] at ho9
            have hb9 : Below V.heap.size V (V.alloc (.cells #[.int .i64 t1, .int .i64 t2, .int .u8 t3] 38)) := (Below.refl _ _).alloc (Nat.le_refl _) _
            have hNX := H2.out.next hgl2 HSS.out HV.out.1 (by rw [← HP.out]; exact HV.out.2.1) HV.out.2.2 hb9 hg9 ho9 (hat9.imp id fun e => ⟨_, e, by omega⟩)
            have HNX := hide hNX
            have l1 := hg9.size
            have f9 : w9.heap[gT2]? = V.heap[gT2]? := (hg9.block gT2 (by simp; omega) (fun e => by have := (HV.out.2.1.lt gT2 e.symm).1; omega)).trans (hb9.block gT2 (by omega))
            have hW1 : w9.cell? ⟨gT2, 0, none⟩ = some (.slice pa P.length pc) := (World.cell?_of_block f9).trans hV1
            have hW2' : w9.frozen? ⟨gT2, 0, none⟩ = false := frozenIn (f9.trans HV.out.1)
            obtain ⟨P9, HPP⟩ : ∃ P9, Hid (P9 = L.take (k + 1)) := ⟨_, hide rfl⟩
            rw [← HPP.out] at ho9
            obtain ⟨m, hm⟩ : ∃ m, k + 1 = m := ⟨_, rfl⟩
            have hp9 : P9.length = m := by rw [HPP.out, List.length_take]; omega
            obtain ⟨a9, c9, hv9, _⟩ := ho9.shape
            rw [hp9] at hv9
            subst hv9
            have HMN := hide (HTI2.out (k + 1) S o _ hNX.1)
            have n1 : (w9.setCell ⟨gT2, 0, none⟩ (.slice a9 m c9)).cell? ⟨gT2, 0, none⟩ = some (.slice a9 m c9) := cellIn (heap_setCell_at (k := 0) (.slice a9 m c9) (f9.trans HV.out.1)) rfl
            have n2 : (w9.setCell ⟨gT2, 0, none⟩ (.slice a9 m c9)).cell? ⟨gt2, 0, none⟩ = some (.int .i64 2) := cellIn HMN.out.trn rfl
            have n3 : (w9.setCell ⟨gT2, 0, none⟩ (.slice a9 m c9)).cell? ⟨gn, 0, none⟩ = some (.int .i64 (n : Int)) := cellIn HMN.out.num rfl
            have n4 : (w9.setCell ⟨gT2, 0, none⟩ (.slice a9 m c9)).cell? ⟨gk, 0, none⟩ = some (.slice ta L.length tc) := cellIn HMN.out.tkb.2.1 rfl
            have HM1 := hide hm
            have hgt1 : ¬ (L.length : Int) < (m : Int) := by omega
            clear hNX hg9 ho9 hat9 hb9 l1 f9 b0 b1 b2 hV1 hV2 hp9 hm
            gi_wp2
            exact ⟨⟨trivial, HNX.out.1⟩, HNX.out.2.1, HNX.out.2.2⟩
          case stop2 => exact fun cc o V h => h.elim
          case done2 =>
            intro S o V _ hT
            have HME := hide ((HTI2.out _ S o V hT).cons hT.dfr)
            obtain ⟨tv, e1, e2, e3⟩ := hT.var
            rw [List.take_of_length_le (Nat.le_refl _)] at e2
            have HE2 := hide e2.sk
            have v1 : V.cell? ⟨gT2, 0, none⟩ = some tv := cellIn e1 rfl
            have v2 : V.cell? ⟨gt2, 0, none⟩ = some (.int .i64 2) := cellIn HME.out.trn rfl
            have v3 : V.cell? ⟨gn, 0, none⟩ = some (.int .i64 (n : Int)) := cellIn HME.out.num rfl
            have v4 : V.cell? ⟨gk, 0, none⟩ = some (.slice ta L.length tc) := cellIn HME.out.tkb.2.1 rfl
            obtain ⟨pa, pc, htv, _⟩ := e2.shape
            subst htv
            clear e1 e2 e3 hT
            apply_assumption
            dsimp only
            repeat (apply wp_seq_k; intro _ _)
            go_quiet (fail)
            have HAL := hide (alike_any _ _ _ _ (V.drewN nq) (HE2.out.drewN nq) (HME.out.tkb.2.2.1.sk.drewN nq))
            rw [eqK_self] at HAL
            go_wp2_with fail
            refine HAL.out.mono ?_
            rintro e wd ⟨rfl, i, hwd⟩
            have HMF : Hid (Mem wb w7 L Its gk gn gt2 (.slice ta L.length tc) n 2 [V2.heap.size, V1.heap.size, V0.heap.size] wd) := by rw [hwd]; exact HME.out.low (below_drewN (below_drewN (Below.refl _ _) nq) i)
            clear v1 v2 v3 v4 HE2 HME hwd HAL
            have v2 : wd.cell? ⟨gt2, 0, none⟩ = some (.int .i64 2) := cellIn HMF.out.trn rfl
            obtain ⟨W3, hW3⟩ : ∃ W3, (wd.alloc (.cells #[.int .i64 2] 3)).setCell ⟨wd.heap.size, 0, none⟩ (.int .i64 3) = W3 := ⟨_, rfl⟩
            have HM3' : Hid (Mem wb w7 L Its gk gn wd.heap.size (.slice ta L.length tc) n 3 [V2.heap.size, V1.heap.size, V0.heap.size] W3) := by rw [← hW3]; exact HMF.out.next 3 rfl
            go_wp2
            clear hW3 v2 HMF
            obtain ⟨gt3, hgt3⟩ : ∃ g, wd.heap.size = g := ⟨_, rfl⟩
            rw [hgt3] at HM3' ⊢
            clear hgt3
            have HM3 := HM3'
            clear HM3' HM2 HMA2 HTI2 HBV2 HII2 HV2 HGG2
            rw [rounds_succ]
            have HSZV : Hid (V2.heap.size ≠ w.heap.size + 1 ∧ V1.heap.size ≠ w.heap.size + 1 ∧ V0.heap.size ≠ w.heap.size + 1 ∧ V1.heap.size ≠ V2.heap.size ∧ V0.heap.size ≠ V2.heap.size ∧ V0.heap.size ≠ V1.heap.size ∧ w.heap.size ≤ V0.heap.size ∧ w.heap.size ≤ V1.heap.size ∧ w.heap.size ≤ V2.heap.size) := by
              have a0 := HQ0.out
              have a1 := HQ1.out
              have a2 := HQ2.out
              exact ⟨by omega, by omega, by omega, by omega, by omega, by omega, by omega, by omega, by omega⟩
            have HBF := hide HM3.out.tkb.2.2.2.2
            have HRB : Hid (W3.heap[w.heap.size + 1]? = some (.cells #[.bool false] 4 (0, 0))) := (HBF.out.block _ (by omega)).trans HR0.out
            have r0 : W3.cell? ⟨w.heap.size + 1, 0, none⟩ = some (.bool false) := cellIn HRB.out rfl
            have r1 : W3.frozen? ⟨w.heap.size + 1, 0, none⟩ = false := frozenIn HRB.out
            have c0 : W3.cell? ⟨gt3, 0, none⟩ = some (.int .i64 3) := cellIn HM3.out.trn rfl
            have c1 : W3.cell? ⟨gk, 0, none⟩ = some (.slice ta L.length tc) := cellIn HM3.out.tkb.2.1 rfl
            have HD2 := hide (HM3.out.dfs V2.heap.size (by simp))
            have HD1 := hide (HM3.out.dfs V1.heap.size (by simp))
            have HD0 := hide (HM3.out.dfs V0.heap.size (by simp))
            have HNE : Hid (V2.heap.size ≠ w.heap.size + 1 ∧ V1.heap.size ≠ w.heap.size + 1 ∧ V0.heap.size ≠ w.heap.size + 1 ∧ V1.heap.size ≠ V2.heap.size ∧ V0.heap.size ≠ V2.heap.size ∧ V0.heap.size ≠ V1.heap.size ∧ w.heap.size ≤ V0.heap.size ∧ w.heap.size ≤ V1.heap.size ∧ w.heap.size ≤ V2.heap.size) := HSZV.out
            have HEND := hide (me_end HRB.out HD2.out HD1.out HD0.out (HFI.out _ HBF.out) HNE.out (by omega))
            have HEL : Hid (E = 0 ∨ (L.length : Int) = 0) := HLL.out.2.imp id (fun q => by omega)
            rcases HEL.out with hE0 | hL0
            · have hE1 : (E == 0) = true := by simpa using hE0
              clear hE0
              go_wp2
              refine ⟨by simp, .inl ⟨_, _, rfl, run_takeDeferred HEND.out.1, ?_⟩⟩
              refine ⟨by simp, .inl ⟨_, _, rfl, run_takeDeferred HEND.out.2.1, ?_⟩⟩
              refine ⟨by simp, .inl ⟨_, _, rfl, run_takeDeferred HEND.out.2.2.1, ?_⟩⟩
              have hc := HEND.out.2.2.2.1
              refine ⟨.bool true, ?_, rfl, HEND.out.2.2.2.2⟩
              simp [results, Try.f3, go_sem, hc]
            · have hL1 : ((L.length : Int) == 0) = true := by simpa using hL0
              clear hL0
              cases hE2 : (E == 0) with
              | true =>
                go_wp2
                refine ⟨by simp, .inl ⟨_, _, rfl, run_takeDeferred HEND.out.1, ?_⟩⟩
                refine ⟨by simp, .inl ⟨_, _, rfl, run_takeDeferred HEND.out.2.1, ?_⟩⟩
                refine ⟨by simp, .inl ⟨_, _, rfl, run_takeDeferred HEND.out.2.2.1, ?_⟩⟩
                have hc := HEND.out.2.2.2.1
                refine ⟨.bool true, ?_, rfl, HEND.out.2.2.2.2⟩
                simp [results, Try.f3, go_sem, hc]
              | false =>
                go_wp2
                refine ⟨by simp, .inl ⟨_, _, rfl, run_takeDeferred HEND.out.1, ?_⟩⟩
                refine ⟨by simp, .inl ⟨_, _, rfl, run_takeDeferred HEND.out.2.1, ?_⟩⟩
                refine ⟨by simp, .inl ⟨_, _, rfl, run_takeDeferred HEND.out.2.2.1, ?_⟩⟩
                have hc := HEND.out.2.2.2.1
                refine ⟨.bool true, ?_, rfl, HEND.out.2.2.2.2⟩
                simp [results, Try.f3, go_sem, hc]
end Go.Proofs.Ytjldmphfdaoecaa

