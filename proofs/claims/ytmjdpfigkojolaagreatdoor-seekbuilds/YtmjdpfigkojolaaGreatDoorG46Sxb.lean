import Derived.Test.YtmjdpfigkojolaaGreatDoorG45Sxp
import Derived.Test.YtmjdpfigkojolaaGreatDoorG40Sku
import Derived.BigQuiet
import Derived.Deep.QuietTactic
import Derived.Deep.DeepCutAuto
import Derived.Deep.RegionLaw
namespace Go.Proofs.YtmjdpfigkojolaaGreatDoor
open Go.RowKit Go.Maps
set_option maxRecDepth 20000
set_option linter.unusedVariables false
set_option linter.unusedSimpArgs false

def XAns (w : World) (l : List Int) (limit step : Int) (e : Ending) (w' : World) : Prop :=
  Below w.heap.size w w' ∧ ((¬ (l.length ≤ 33554432 ∧ 0 ≤ limit ∧ limit ≤ 16777216 ∧ 1 ≤ step) ∧ e = .returned (.tuple #[.pointer none, .int .i64 1])) ∨
    ((l.length ≤ 33554432 ∧ 0 ≤ limit ∧ limit ≤ 16777216 ∧ 1 ≤ step) ∧ ∃ ps E q oo, Txt (unpack l) limit.toNat 0 [] ps E q oo ∧ ((E ≠ 0 ∧ e = .returned (.tuple #[.pointer none, .int .i64 E])) ∨
      (E = 0 ∧ ∃ g pv wv, e = .returned (.tuple #[.pointer (some ⟨g, 0, none⟩), .int .i64 0]) ∧ w.heap.size ≤ g ∧ w'.heap[g]? = some (qxO pv wv oo.length) ∧ OM w' w.heap.size pv ((runM step oo ps).1.map mk2)))))

structure XB (w5 : World) (sz : Int) (pv wv : Value) (us : List Value) (ms : List Mk) (wx : World) : Prop where
  bel : Below w5.heap.size w5 wx
  box : wx.heap[w5.heap.size]? = some (qxO pv wv sz)
  pl : OM wx (w5.heap.size + 1) pv (ms.map mk2)
  wn : wx.ownsRow (w5.heap.size + 1) 22 1 wv us.length us
  sep : ∀ b, pv.ownBlock = some b → wv.ownBlock ≠ some b

theorem row_move22 {w w' : World} {base e size n : Nat} {v : Value} {xs : List Value} (h : w.ownsRow base e size v n xs) (hk : ∀ b, v.ownBlock = some b → w'.heap[b]? = w.heap[b]?) : w'.ownsRow base e size v n xs := by
  refine ⟨h.1, ?_⟩
  rcases h.2 with q | ⟨g, cap, cur, rfl, h1, h2, r⟩
  · exact .inl q
  · exact .inr ⟨g, cap, cur, rfl, h1, (hk g rfl).trans h2, r⟩

theorem stepRow2 {w : World} {ops : Array Oper} {o : Oper} {a : Act} {K : Act → World → Prop} {Q : Exit → Act → World → Prop} {E : Prop} (hgd : o.guard = none) (s x : Operand)
    (ho : o.op = .call { callee := .builtin .append, args := #[s, x], argTypes := #[33, 33] })
    (base : Nat) (v : Value) (R : List (Array Value)) (r : Array Value) (B c : Nat) (fr : Nat × Nat) (hs : a.eval s = v) (hown : ORp 38 2 w base v R)
    (hx : a.eval x = .slice (some ⟨B, 0, none⟩) 1 c) (hB : w.heap[B]? = some (.cells r 38 fr)) (hr : r.size = 2) (h1 : ∀ u ∈ r.toList, u.oneCell' = true)
    (hlen : R.length ≤ 268435456) (hbase : base ≤ w.heap.size)
    (h : ∀ v' w', ORp 38 2 w' base v' (R ++ [r]) → w.grownBy w' v.ownBlock → (v.ownBlock = v'.ownBlock ∨ v'.ownBlock = some w.heap.size) → K (a.put o.dst v') w') :
    if Region.wanted o (yielded ops a.tmps) = true then Oper.wp Tryz.prog o a w K Q else E := by
  obtain ⟨i0, hi0, hz0, hz1, hz2⟩ := info_parts infoMk
  have hw : Region.wanted o (yielded ops a.tmps) = true := by simp [Region.wanted, hgd]
  rw [if_pos hw]
  refine wp_append_lies _ s x 33 ho base 38 i0 _ 2 16 Tryz.underlying33 hi0 hz0 hz1 hz2 rfl (by omega) v R.length (flr R) hs hown.2 ⟨B, 0, none⟩ 1 c r.toList hx (by rw [Array.length_toList, hr, Nat.one_mul]) (World.news_of_block hB) h1 (by omega) (by unfold maxLen; omega) (by omega) hbase _ rfl fun g cap w' g1 g2 g4 _ => h _ w' ⟨?_, ?_⟩ g2 (g4.elim .inl fun e => .inr (congrArg some e))
  · intro q hq
    rcases List.mem_append.1 hq with hq | hq
    · exact hown.1 q hq
    · rw [List.mem_singleton.1 hq]; exact hr
  · rw [List.length_append, flr_app]
    simpa [flr] using g1

theorem om_ne_pc {w : World} {B c : Nat} {v : Value} {L : List P2} {a : Array Value} (h : OM w B v L) (hc : w.heap[c]? = some (.cells a 36 (0, 0))) : v.ownBlock ≠ some c := by
  intro q
  rcases h.2.2 with ⟨rfl, _⟩ | ⟨g, cap, cur, rfl, _, hg, _⟩
  · cases q
  · simp only [Value.ownBlock, Option.some.injEq] at q
    subst q
    rw [hc] at hg
    simp at hg

theorem XB.mark {w5 W w1 w8 : World} {sz : Int} {pv wv v' : Value} {us : List Value} {ms : List Mk} {C : Nat} {k A0 A1 N0 N1 : Int} {f : Bool} {o : Obj} (m : Mk) (h : XB w5 sz pv wv us ms W) (hc : W.heap[C]? = some (pcO k f A0 A1 N0 N1)) (hCG : w5.heap.size < C)
    (e : w1.heap = (W.alloc o).heap) (e1 : w1.os = W.os) (e2 : w1.tape = W.tape) (e3 : w1.output = W.output) (ho : ORp 38 2 w8 0 v' ((ms.map mk2).map p2c ++ [p2c (mk2 m)])) (hgr : w1.grownBy w8 pv.ownBlock) (hat : pv.ownBlock = v'.ownBlock ∨ v'.ownBlock = some w1.heap.size) :
    (w8.cell? ⟨w5.heap.size, 0, none⟩ = some pv ∧ w8.frozen? ⟨w5.heap.size, 0, none⟩ = false) ∧ (∃ a c, v' = .slice a (ms.length + 1) c) ∧ w8.heap[C]? = some (pcO k f A0 A1 N0 N1) ∧ (w8.setCell ⟨w5.heap.size, 0, none⟩ v').heap[C]? = some (pcO k f A0 A1 N0 N1) ∧ W.heap.size ≤ w8.heap.size ∧ XB w5 sz v' wv us (ms ++ [m]) (w8.setCell ⟨w5.heap.size, 0, none⟩ v') := by
  have lC := (Array.getElem?_eq_some_iff.1 hc).1
  have lG := (Array.getElem?_eq_some_iff.1 h.box).1
  have hs1 : w1.heap.size = W.heap.size + 1 := by rw [e]; exact size_alloc' _ _
  have hb1 : ∀ b, b < W.heap.size → w1.heap[b]? = W.heap[b]? := fun b q => by rw [e]; exact Below.heap_alloc _ _ _ q
  have hb8 : ∀ b, b < W.heap.size → pv.ownBlock ≠ some b → w8.heap[b]? = W.heap[b]? := fun b q n => (hgr.block b (by omega) (fun r => n r.symm)).trans (hb1 b q)
  have lp := ORp.lt h.pl
  have lw := World.ownsRow.lt h.wn
  have hGp : pv.ownBlock ≠ some w5.heap.size := fun q => by have := (lp _ q).1; omega
  have h8G := (hb8 _ lG hGp).trans h.box
  have h8C := (hb8 _ lC (om_ne_pc h.pl hc)).trans hc
  have hv : ∀ b, v'.ownBlock = some b → pv.ownBlock = some b ∨ W.heap.size ≤ b := fun b q => by
    rcases hat with r | r
    · exact .inl (r.trans q)
    · rw [q] at r; injection r with r; exact .inr (by omega)
  have h8s := hgr.size
  obtain ⟨z0, -, -, zf⟩ := qxO_cells h8G
  refine ⟨⟨z0, zf 0⟩, ?_, h8C, (setCell_others _ _ _ _ _ (by omega)).trans h8C, by omega, ⟨?_, ?_, ?_, ?_, ?_⟩⟩
  · obtain ⟨a, c, hh, -, -⟩ := ho.shape
    exact ⟨a, c, by rw [hh]; simp⟩
  · have hh : Below w5.heap.size w5 w8 := by
      have b := h.bel
      have := b.size
      exact ⟨hgr.os.trans (e1.trans b.os), hgr.tape.trans (e2.trans b.tape), hgr.output.trans (e3.trans b.output), by omega, fun q hq => (hb8 q (by omega) (fun r => by have := (lp _ r).1; omega)).trans (b.block q hq)⟩
    exact hh.setCell (p := ⟨w5.heap.size, 0, none⟩) (Nat.le_refl _) _
  · unfold qxO at h8G ⊢
    rw [heap_setCell_at _ h8G]; rfl
  · have hm := ho.move (w' := w8.setCell ⟨w5.heap.size, 0, none⟩ v') fun b q => setCell_others _ _ _ _ b (fun r => by
      subst r
      rcases hv _ q with t | t
      · exact hGp t
      · omega)
    have hm2 : OM (w8.setCell ⟨w5.heap.size, 0, none⟩ v') 0 v' ((ms ++ [m]).map mk2) := by
      unfold OM
      rw [List.map_append, List.map_append]
      exact hm
    refine ⟨hm2.1, hm2.2.1, ?_⟩
    rcases hm2.2.2 with q | ⟨gg, cap, cur, rfl, _, r⟩
    · exact .inl q
    · refine .inr ⟨gg, cap, cur, rfl, ?_, r⟩
      rcases hv gg rfl with t | t
      · exact (lp _ t).1
      · omega
  · exact row_move22 h.wn fun b q => (setCell_others _ _ _ _ b (by have := (lw b q).1; omega)).trans (hb8 b (lw b q).2 (fun t => h.sep b t q))
  · intro b q r
    rcases hv b q with t | t
    · exact h.sep b t r
    · have := (lw b r).2; omega

theorem part22 {W : World} {B : Nat} {a : Option Addr} {c : Nat} {l : List Int} (h : OB W B (.slice a l.length c) l) {n0 n1 : Nat} (h0 : n0 ≤ n1) (h1 : n1 ≤ l.length) (sp : Option Addr) (hsp : (if c = n0 then a else a.map fun x => x.add n0) = sp) :
    SB W (.slice sp (n1 - n0) (c - n0)) ((l.drop n0).take (n1 - n0)) := by
  have hs := h.sb
  obtain ⟨a', c', e, q1, q2, q3, q4⟩ := hs
  simp only [Value.slice.injEq] at e
  obtain ⟨rfl, -, rfl⟩ := e
  have hlen : ((l.drop n0).take (n1 - n0)).length = n1 - n0 := by rw [List.length_take, List.length_drop]; omega
  refine ⟨sp, c - n0, by rw [hlen], by rw [hlen]; omega, by omega, fun e => ?_, fun y hy i hi => ?_⟩
  · subst hsp
    by_cases hc : c = n0
    · omega
    · rw [if_neg hc] at e
      cases a with
      | none => have := q3 rfl; omega
      | some x => simp at e
  · rw [hlen] at hi
    have hc : c ≠ n0 := by omega
    rw [if_neg hc] at hsp
    cases a with
    | none => have := q3 rfl; omega
    | some x =>
      have hxs := q4 x rfl (n0 + i) (by omega)
      obtain ⟨b, o, rfl⟩ := addr_lit (q4 x rfl 0 (by omega))
      simp only [Option.map_some, Addr.add_lit] at hsp
      subst hsp
      cases hy
      rw [Addr.add_lit] at hxs ⊢
      rw [Nat.add_assoc, hxs]
      simp only [List.getD, List.getElem?_take, List.getElem?_drop]
      rw [if_pos hi]

theorem XB.below {w5 W W' : World} {sz : Int} {pv wv : Value} {us : List Value} {ms : List Mk} (h : XB w5 sz pv wv us ms W) (hb : Below W.heap.size W W') : XB w5 sz pv wv us ms W' :=
  have lg := (Array.getElem?_eq_some_iff.1 h.box).1
  ⟨h.bel.trans (hb.mono h.bel.size), (hb.block _ lg).trans h.box, h.pl.move fun b q => hb.block b (ORp.lt h.pl b q).2, row_move22 h.wn fun b q => hb.block b (World.ownsRow.lt h.wn b q).2, h.sep⟩

theorem XB.win {w5 W w8 : World} {sz : Int} {pv wv v' u : Value} {us : List Value} {ms : List Mk} {o : Obj} (h : XB w5 sz pv wv us ms W)
    (ho : w8.ownsRow (w5.heap.size + 1) 22 1 v' (us.length + 1) (us ++ [u])) (hgr : (W.alloc o).grownBy w8 wv.ownBlock) (hat : v'.ownBlock = wv.ownBlock ∨ v'.ownBlock = some (W.alloc o).heap.size) :
    (w8.cell? ⟨w5.heap.size, 1, none⟩ = some wv ∧ w8.frozen? ⟨w5.heap.size, 1, none⟩ = false) ∧ XB w5 sz pv v' (us ++ [u]) ms (w8.setCell ⟨w5.heap.size, 1, none⟩ v') := by
  have lG := (Array.getElem?_eq_some_iff.1 h.box).1
  have hs1 : (W.alloc o).heap.size = W.heap.size + 1 := size_alloc' _ _
  have hb1 : ∀ b, b < W.heap.size → (W.alloc o).heap[b]? = W.heap[b]? := fun b q => Below.heap_alloc _ _ _ q
  have hb8 : ∀ b, b < W.heap.size → wv.ownBlock ≠ some b → w8.heap[b]? = W.heap[b]? := fun b q n => (hgr.block b (by omega) (fun r => n r.symm)).trans (hb1 b q)
  have lp := ORp.lt h.pl
  have lw := World.ownsRow.lt h.wn
  have hGw : wv.ownBlock ≠ some w5.heap.size := fun q => by have := (lw _ q).1; omega
  have h8G := (hb8 _ lG hGw).trans h.box
  have h8s := hgr.size
  have lv := World.ownsRow.lt ho
  obtain ⟨-, z1, -, zf⟩ := qxO_cells h8G
  have hv : ∀ b, v'.ownBlock = some b → wv.ownBlock = some b ∨ W.heap.size ≤ b := fun b q => by
    rcases hat with r | r
    · exact .inl (r.symm.trans q)
    · rw [q] at r; injection r with r; exact .inr (by omega)
  refine ⟨⟨z1, zf 1⟩, ⟨?_, ?_, ?_, ?_, ?_⟩⟩
  · have hh : Below w5.heap.size w5 w8 := by
      have b := h.bel
      have := b.size
      exact ⟨hgr.os.trans b.os, hgr.tape.trans b.tape, hgr.output.trans b.output, by omega, fun q hq => (hb8 q (by omega) (fun r => by have := (lw _ r).1; omega)).trans (b.block q hq)⟩
    exact hh.setCell (p := ⟨w5.heap.size, 1, none⟩) (Nat.le_refl _) _
  · unfold qxO at h8G ⊢
    rw [heap_setCell_at _ h8G]; rfl
  · exact h.pl.move fun b q => (setCell_others _ _ _ _ b (by have := (lp b q).1; omega)).trans (hb8 b (lp b q).2 (fun t => h.sep b q t))
  · rw [List.length_append]
    exact row_move22 ho fun b q => setCell_others _ _ _ _ b (by have := (lv b q).1; omega)
  · intro b q r
    rcases hv b r with t | t
    · exact h.sep b q t
    · have := (lp b q).2; omega

theorem info28s : (Tryz.prog.info? 22).map (fun i => (i.zero, i.size, i.bytes)) = some (some (.slice none 0 0), 1, 24) := by kernel_rfl

theorem fold_ne {step : Int} {oo : List Int} : ∀ (ps : List Pc) (s : List Mk × List Int), s.1 ≠ [] → (ps.foldl (stepM step oo) s).1 ≠ []
  | [], s, h => h
  | x :: ps, s, h => by
    rw [List.foldl_cons]
    refine fold_ne ps _ ?_
    unfold stepM
    split
    · simp [addM]
    · exact h

theorem runM_ne {step : Int} {oo : List Int} {ps : List Pc} (h : ps ≠ []) : (runM step oo ps).1 ≠ [] := by
  cases ps with
  | nil => exact absurd rfl h
  | cons x ps =>
    unfold runM
    rw [List.foldl_cons]
    refine fold_ne ps _ ?_
    simp [stepM, asksB, addM]

set_option maxHeartbeats 8000000 in
theorem xBuild {w : World} {v : Value} {l : List Int} (h : SB w v l) (hB : Byt l) (limit step : Int) (X : Xodr w) :
    Calls Tryz.prog 13 #[v, .int .i64 limit, .int .i64 step] w (XAns w l limit step) := by
  have HS := hide h
  have HBY := hide hB
  have HX := hide X
  obtain ⟨a0, c0, rfl, -⟩ := h
  clear hB X
  by_cases c1 : l.length ≤ 33554432
  case neg =>
    have c1' : (33554432 : Int) < (l.length : Int) := by omega
    have HR : Hid (¬ (l.length ≤ 33554432 ∧ 0 ≤ limit ∧ limit ≤ 16777216 ∧ 1 ≤ step)) := fun q => c1 q.1
    clear c1
    go_enter Tryz.func13, Tryz.ntmps13
    go_wp2
    go_ret2
    exact ⟨Below.refl _ _, .inl ⟨HR.out, rfl⟩⟩
  have c1' : ¬ (33554432 : Int) < (l.length : Int) := by omega
  by_cases c2 : 0 ≤ limit
  case neg =>
    have c2' : limit < 0 := by omega
    have HR : Hid (¬ (l.length ≤ 33554432 ∧ 0 ≤ limit ∧ limit ≤ 16777216 ∧ 1 ≤ step)) := fun q => c2 q.2.1
    clear c2
    go_enter Tryz.func13, Tryz.ntmps13
    go_wp2
    go_ret2
    exact ⟨Below.refl _ _, .inl ⟨HR.out, rfl⟩⟩
  have c2' : ¬ limit < 0 := by omega
  by_cases c3 : limit ≤ 16777216
  case neg =>
    have c3' : 16777216 < limit := by omega
    have HR : Hid (¬ (l.length ≤ 33554432 ∧ 0 ≤ limit ∧ limit ≤ 16777216 ∧ 1 ≤ step)) := fun q => c3 q.2.2.1
    clear c3
    go_enter Tryz.func13, Tryz.ntmps13
    go_wp2
    go_ret2
    exact ⟨Below.refl _ _, .inl ⟨HR.out, rfl⟩⟩
  have c3' : ¬ 16777216 < limit := by omega
  by_cases c4 : 1 ≤ step
  case neg =>
    have c4' : step < 1 := by omega
    have HR : Hid (¬ (l.length ≤ 33554432 ∧ 0 ≤ limit ∧ limit ≤ 16777216 ∧ 1 ≤ step)) := fun q => c4 q.2.2.2
    clear c4
    go_enter Tryz.func13, Tryz.ntmps13
    go_wp2
    go_ret2
    exact ⟨Below.refl _ _, .inl ⟨HR.out, rfl⟩⟩
  have c4' : ¬ step < 1 := by omega
  have HR : Hid (l.length ≤ 33554432 ∧ 0 ≤ limit ∧ limit ≤ 16777216 ∧ 1 ≤ step) := ⟨c1, c2, c3, c4⟩
  have HLM : Hid (((limit.toNat : Nat) : Int) = limit) := by show _ = _; omega
  have HPG := hide (vprogS HS.out HBY.out c1 (L := limit.toNat) (by omega) HX.out)
  rw [HLM.out] at HPG
  clear c1 c2 c3 c4
  go_enter Tryz.func13, Tryz.ntmps13
  go_wp2_with fail
  refine HPG.out.mono ?_
  rintro e w5 ⟨g, ps, E, q, oo, t, a, c, aw, cw, rfl, ht, hp, hb5⟩
  have HT := hide ht
  have HP := hide hp
  have HB5 := hide hb5
  have p2 := hp.out
  have p3 := hp.wh
  have p6 := hp.err
  clear ht hb5 HPG
  by_cases hE : E = 0
  case neg =>
    have hne : (E != 0) = true := by simpa using hE
    clear hp p2 p3
    go_wp2
    go_quiet (fail)
    go_wp2
    go_ret2
    exact ⟨below_drewN HB5.out _, .inr ⟨HR.out, ps, E, q, oo, HT.out, .inl ⟨hE, rfl⟩⟩⟩
  subst hE
  obtain rfl : t = [] := hp.non rfl
  rw [List.append_nil] at p2
  clear hp
  obtain ⟨P, HPN⟩ : ∃ P, Hid (P = ps.length) := ⟨_, rfl⟩
  rw [← HPN.out] at p3
  obtain ⟨Z, HZ⟩ : ∃ Z, Hid (Z = oo.length) := ⟨_, rfl⟩
  rw [← HZ.out] at p2
  go_wp2
  go_loopw [10, 11, 12] (fun i _ _ wx => ∃ k : Nat, k ≤ P ∧ i = .int .i64 k ∧ ∃ pv wv us, us.length ≤ k ∧ XB w5 Z pv wv us (runM step oo (ps.take k)).1 wx) (fun i _ _ _ => P - (intOf i).toNat)
  case atStart =>
    refine ⟨0, Nat.zero_le _, rfl, .slice none 0 0, .slice none 0 0, [], Nat.le_refl _, ⟨(Below.refl _ _).alloc (Nat.le_refl _) _, heap_alloc_new w5 _, ?_, World.ownsRow_nil _ _ _ _, (fun b e => by cases e)⟩⟩
    rw [List.take_zero]
    exact ORp.nil _ _ _ _
  case round =>
    obtain ⟨k, hkP, rfl, pv, wv, us, hus, hx⟩ := hrel
    by_cases hk : k < P
    · have hk' : (k : Int) < (P : Int) := by omega
      have hPk := HP.out.keep hx.bel.size (fun b hb => hx.bel.block b hb)
      obtain ⟨x, hxk⟩ : ∃ x, ps[k]? = some x := ⟨ps[k]'(by have := HPN.out; omega), by simp⟩
      obtain ⟨gw, rfl, hgw, w1, w2, y0, y1, y2, y3, y4, y5⟩ := hPk.at hxk
      have z3 := hPk.wh
      have z2 := hPk.out
      rw [← HPN.out] at z3 w1
      rw [List.append_nil, ← HZ.out] at z2
      have hfa := run_facts HT.out step hxk
      have HK := hide hxk
      have HFA := hide hfa
      have HXB := hide hx
      obtain ⟨b0, b1, b2, bf⟩ := qxO_cells hx.box
      obtain ⟨kk, ff, A0, A1, N0, N1⟩ := x
      simp only at y0 y1 y2 y3 y4 y5
      have HZZ : Hid (oo.length ≤ 16777216 ∧ P ≤ 100000000) := by
        have hlen : (unpack l).length = 8 * l.length := length_unpack l
        have hle := HT.out.le (bit_unpack l) (Nat.zero_le _) (Nat.zero_le _)
        have hcc := (HT.out.chn (bit_unpack l)).cnt22
        have := HR.out
        have := HPN.out
        exact ⟨by omega, by omega⟩
      obtain ⟨ms, HMS⟩ : ∃ ms, Hid (ms = (runM step oo (ps.take k)).1) := ⟨_, rfl⟩
      rw [← HMS.out] at hx hfa
      obtain ⟨ap, cp, hpv, hp1, hp2⟩ := hx.pl.shape
      rw [List.length_map] at hpv hp1
      obtain ⟨M, HM⟩ : ∃ M, Hid (M = ms.length) := ⟨_, rfl⟩
      rw [← HM.out] at hpv hp1
      subst hpv
      have hN0 : N0 ≤ 16777216 := by have q1 := hfa.2.2.2.2.1; have q2 := hfa.2.2.2.2.2; have := HZZ.out; simp only at q1 q2; omega
      clear hPk hxk
      go_wp2
      obtain ⟨W1, hW1⟩ : ∃ W1, wr.alloc (.cells #[.int .i64 kk, .bool ff, .int .i64 A0, .int .i64 A1, .int .i64 N0, .int .i64 N1] 36) = W1 := ⟨_, rfl⟩
      rw [hW1]
      have hbW : Below wr.heap.size wr W1 := by rw [← hW1]; exact (Below.refl _ _).alloc (Nat.le_refl _) _
      have hcW : W1.heap[wr.heap.size]? = some (pcO kk ff A0 A1 N0 N1) := by rw [← hW1]; exact heap_alloc_new _ _
      obtain ⟨r0, r1, r2, r3, r4, r5, rf⟩ := pc_cells hcW
      have hxW : XB w5 Z (.slice ap M cp) wv us ms W1 := by
        have lg := (Array.getElem?_eq_some_iff.1 hx.box).1
        have hs := hx.bel.size
        exact ⟨hx.bel.trans (hbW.mono hs), (hbW.block _ lg).trans hx.box, hx.pl.move fun b hb => hbW.block b (ORp.lt hx.pl b hb).2, row_move22 hx.wn fun b hb => hbW.block b (World.ownsRow.lt hx.wn b hb).2, hx.sep⟩
      have hsW : W1.heap.size = wr.heap.size + 1 := by rw [← hW1]; simp
      obtain ⟨C, hC⟩ : ∃ C, wr.heap.size = C := ⟨_, rfl⟩
      rw [hC] at r0 r1 r2 r3 r4 r5 rf hsW hcW ⊢
      have HX2 := hide hxW
      have HCW := hide (And.intro hcW hsW)
      have HCG : Hid (w5.heap.size < C) := by rw [← hC]; exact (Array.getElem?_eq_some_iff.1 hx.box).1
      have z2' : W1.cell? ⟨g, 2, none⟩ = some (.slice a Z c) := (World.cell?_of_block (hbW.block _ (Nat.lt_of_lt_of_le HP.out.lt hx.bel.size))).trans z2
      clear b0 b1 b2 bf y0 y1 y2 y3 y4 y5 z2 z3 hW1
      obtain ⟨b0, b1, b2, bf⟩ := qxO_cells hxW.box
      clear hx
      have hx := hxW
      clear hxW
      go_cut [84] from 47 to 121 (fun d wx => d = .bool (!asksB step ms N0) ∧ ∃ nq, wx = W1.drewN nq)
      case first =>
        by_cases k0 : k = 0
        · subst k0
          have hd : decide ((0 : Int) < ((0 : Nat) : Int)) = false := rfl
          have hms : ms = [] := by rw [HMS.out, List.take_zero]; rfl
          have HAK : Hid (asksB step ms N0 = true) := by show _ = _; rw [hms]; rfl
          clear hfa hx
          go_wp2
          go_quiet (fail)
          go_wp2
          go_meet
          case rel => exact ⟨by rw [HAK.out]; rfl, _, rfl⟩
        · have hne : ms ≠ [] := by
            rw [HMS.out]
            exact runM_ne (fun e => by have := congrArg List.length e; rw [List.length_take, List.length_nil] at this; have := HPN.out; omega)
          have hml : 0 < ms.length := List.length_pos_iff.2 hne
          have hlast := lastA_at hne
          obtain ⟨gp, c', e', -, -, -, -, hc⟩ := hx.pl.at (by rw [List.length_map]; exact hml)
          rw [List.length_map] at e'
          simp only [Value.slice.injEq] at e'
          obtain ⟨rfl, -, rfl⟩ := e'
          obtain ⟨-, v1⟩ := hc (ms.length - 1) (by rw [List.length_map]; omega)
          have e1 : ((ms.map mk2).getD (ms.length - 1) (0, 0)).2 = (lastA ms : Nat) := by
            rw [hlast, List.getD_eq_getElem?_getD, List.getElem?_map, List.getD_eq_getElem?_getD, List.getElem?_eq_getElem (by omega)]; rfl
          rw [e1, ← HM.out] at v1
          obtain ⟨A, HA⟩ : ∃ A : Nat, Hid (A = lastA ms) := ⟨_, rfl⟩
          rw [← HA.out] at v1
          obtain ⟨NM, HNM⟩ : ∃ NM : Nat, Hid (NM = M - 1) := ⟨_, rfl⟩
          rw [← HNM.out] at v1
          have hM0 : 0 < M := by rw [HM.out]; exact hml
          have m1 : (M : Int) - 1 = (NM : Int) := by rw [HNM.out]; omega
          have m2 : (NM : Int) < (M : Int) := by omega
          have m3 : (0 : Int) ≤ (NM : Int) := by omega
          have hA : A ≤ N0 := by rw [HA.out]; exact hfa.1
          have hw1 : IntKind.i64.wrap ((N0 : Int) - (A : Int)) = (N0 : Int) - (A : Int) := by rw [IntKind.wrap_i64]; omega
          have hd : decide ((0 : Int) < (k : Int)) = true := decide_eq_true (by omega)
          have hd2 : 0 < k := by omega
          have hd3 : decide (0 < k) = true := decide_eq_true hd2
          have HAK : Hid (asksB step ms N0 = decide (step ≤ (N0 : Int) - (A : Int))) := by
            show _ = _
            unfold asksB
            have hi : ms.isEmpty = false := by cases ms with | nil => simp at hml | cons => rfl
            rw [hi, ← HA.out]; rfl
          clear hfa hx hc e1 hlast hne
          by_cases hs : (N0 : Int) - (A : Int) < step
          · have HS2 : Hid (decide (step ≤ (N0 : Int) - (A : Int)) = false) := decide_eq_false (by omega)
            go_wp2
            go_quiet (fail)
            go_wp2
            go_meet
            case rel => exact ⟨by rw [HAK.out, HS2.out]; first | rfl | (simp; done) | (simp; omega), _, rfl⟩
          · have HS2 : Hid (decide (step ≤ (N0 : Int) - (A : Int)) = true) := decide_eq_true (by omega)
            have HS3 : Hid (step ≤ (N0 : Int) - (A : Int)) := by show _ ≤ _; omega
            go_wp2
            go_quiet (fail)
            go_wp2
            go_meet
            case rel => exact ⟨by rw [HAK.out, HS2.out]; first | rfl | (simp; exact HS3.out), _, rfl⟩
      case rest =>
        obtain ⟨rfl, nq, hwc⟩ := hcut
        subst hwc
        have htk : ps.take (k + 1) = ps.take k ++ [⟨kk, ff, A0, A1, N0, N1⟩] := by rw [List.take_add_one, HK.out]; rfl
        have HTK := hide htk
        clear htk
        by_cases hask : asksB step ms N0 = true
        · rw [hask]
          have HST : Hid ((runM step oo (ps.take (k + 1))).1 = ms ++ [(addM (oo.take N0) (runM step oo (ps.take k)) ⟨kk, ff, A0, A1, N0, N1⟩).1.getLast?.getD (0, 0, 0)]) := by
            show _ = _
            rw [HTK.out, runM_snoc]
            unfold stepM
            rw [if_pos (by simp only; rw [← HMS.out]; exact hask)]
            simp [addM, HMS.out]
          go_wp2_with fail
          go_cut [] from 85 to 98 (fun wx => Hid (∃ pv, XB w5 Z pv wv us (ms ++ [(A0, N0, 0)]) wx ∧ wx.heap[C]? = some (pcO kk ff A0 A1 N0 N1)))
          case first =>
            go_wp2_with fail
            obtain ⟨Wd, hWd⟩ : ∃ Wd, W1.drewN nq = Wd := ⟨_, rfl⟩
            rw [hWd]
            have hq := HX2.out
            have HXD : Hid (XB w5 Z (.slice ap M cp) wv us ms Wd) := by rw [← hWd]; exact ⟨below_drewN hq.bel _, hq.box, hq.pl.move fun _ _ => rfl, row_move22 hq.wn fun _ _ => rfl, hq.sep⟩
            have HCD : Hid (Wd.heap[C]? = some (pcO kk ff A0 A1 N0 N1) ∧ Wd.heap.size = C + 1) := by rw [← hWd]; exact HCW.out
            clear hq hx z2' r0 r1 r2 r3 r4 r5 rf hcW hsW b0 b1 b2 bf hWd hbW
            obtain ⟨b0, b1, b2, bf⟩ := qxO_cells HXD.out.box
            obtain ⟨r0, r1, r2, r3, r4, r5, rf⟩ := pc_cells HCD.out.1
            have HS0 : Hid (Wd.cell? ⟨C, 2, none⟩ = some (.int .i64 (A0 : Nat)) ∧ Wd.cell? ⟨C, 4, none⟩ = some (.int .i64 (N0 : Nat))) := ⟨r2, r4⟩
            refine wp_region_held_drew (S := (fun W => W.cell? ⟨C, 2, none⟩ = some (.int .i64 (A0 : Nat)) ∧ W.cell? ⟨C, 4, none⟩ = some (.int .i64 (N0 : Nat)))) (by kernel_rfl) HS0.out (fun hHeld => ?_)
            refine wpAnyH_take (i := 0) (v := .pointer (some ⟨w5.heap.size, 0, none⟩)) rfl (by kernel_rfl) (by kernel_rfl) (by kernel_rfl) (fun _ _ _ h => h) (Or.inl ⟨by kernel_rfl, ?_⟩) hHeld ?_
            · intro W hSw
              have s1 := hSw.1
              have s2 := hSw.2
              go_simp
            show wpAnyH _ _ _ _ _ _ _ (Act.put _ (some 85) _) _
            simp only [Act.put, List.setIfInBounds_toArray, List.set_cons_zero, List.set_cons_succ]
            refine wpAnyH_take (i := 1) (v := .pointer (some ⟨w5.heap.size, 0, none⟩)) rfl (by kernel_rfl) (by kernel_rfl) (by kernel_rfl) (fun _ _ _ h => h) (Or.inl ⟨by kernel_rfl, ?_⟩) hHeld ?_
            · intro W hSw
              have s1 := hSw.1
              have s2 := hSw.2
              go_simp
            show wpAnyH _ _ _ _ _ _ _ (Act.put _ (some 86) _) _
            simp only [Act.put, List.setIfInBounds_toArray, List.set_cons_zero, List.set_cons_succ]
            refine wpAnyH_take (i := 2) (v := .pointer (some ⟨w5.heap.size, 0, none⟩)) rfl (by kernel_rfl) (by kernel_rfl) (by kernel_rfl) (fun _ _ _ h => h) (Or.inl ⟨by kernel_rfl, ?_⟩) hHeld ?_
            · intro W hSw
              have s1 := hSw.1
              have s2 := hSw.2
              go_simp
            show wpAnyH _ _ _ _ _ _ _ (Act.put _ (some 87) _) _
            simp only [Act.put, List.setIfInBounds_toArray, List.set_cons_zero, List.set_cons_succ]
            refine wpAnyH_take (i := 3) (v := .pointer (some ⟨w5.heap.size, 0, none⟩)) rfl (by kernel_rfl) (by kernel_rfl) (by kernel_rfl) (fun _ _ _ h => h) (Or.inl ⟨by kernel_rfl, ?_⟩) hHeld ?_
            · intro W hSw
              have s1 := hSw.1
              have s2 := hSw.2
              go_simp
            show wpAnyH _ _ _ _ _ _ _ (Act.put _ (some 88) _) _
            simp only [Act.put, List.setIfInBounds_toArray, List.set_cons_zero, List.set_cons_succ]
            refine wpAnyH_take (i := 5) (v := .pointer (some ⟨C, 2, none⟩)) rfl (by kernel_rfl) (by kernel_rfl) (by kernel_rfl) (fun _ _ _ h => h) (Or.inl ⟨by kernel_rfl, ?_⟩) hHeld ?_
            · intro W hSw
              have s1 := hSw.1
              have s2 := hSw.2
              go_simp
            show wpAnyH _ _ _ _ _ _ _ (Act.put _ (some 90) _) _
            simp only [Act.put, List.setIfInBounds_toArray, List.set_cons_zero, List.set_cons_succ]
            refine wpAnyH_take (i := 6) (v := .int .i64 (A0 : Nat)) rfl (by kernel_rfl) (by kernel_rfl) (by kernel_rfl) (fun _ _ _ h => h) (Or.inl ⟨by kernel_rfl, ?_⟩) hHeld ?_
            · intro W hSw
              have s1 := hSw.1
              have s2 := hSw.2
              go_simp
            show wpAnyH _ _ _ _ _ _ _ (Act.put _ (some 91) _) _
            simp only [Act.put, List.setIfInBounds_toArray, List.set_cons_zero, List.set_cons_succ]
            refine wpAnyH_take (i := 7) (v := .pointer (some ⟨C, 4, none⟩)) rfl (by kernel_rfl) (by kernel_rfl) (by kernel_rfl) (fun _ _ _ h => h) (Or.inl ⟨by kernel_rfl, ?_⟩) hHeld ?_
            · intro W hSw
              have s1 := hSw.1
              have s2 := hSw.2
              go_simp
            show wpAnyH _ _ _ _ _ _ _ (Act.put _ (some 92) _) _
            simp only [Act.put, List.setIfInBounds_toArray, List.set_cons_zero, List.set_cons_succ]
            refine wpAnyH_take (i := 8) (v := .int .i64 (N0 : Nat)) rfl (by kernel_rfl) (by kernel_rfl) (by kernel_rfl) (fun _ _ _ h => h) (Or.inl ⟨by kernel_rfl, ?_⟩) hHeld ?_
            · intro W hSw
              have s1 := hSw.1
              have s2 := hSw.2
              go_simp
            show wpAnyH _ _ _ _ _ _ _ (Act.put _ (some 93) _) _
            simp only [Act.put, List.setIfInBounds_toArray, List.set_cons_zero, List.set_cons_succ]
            refine wpAnyH_take (i := 9) (v := .agg #[.int .i64 (A0 : Nat), .int .i64 (N0 : Nat)]) rfl (by kernel_rfl) (by kernel_rfl) (by kernel_rfl) (fun _ _ _ h => h) (Or.inl ⟨by kernel_rfl, ?_⟩) hHeld ?_
            · intro W hSw
              have s1 := hSw.1
              have s2 := hSw.2
              go_simp
            show wpAnyH _ _ _ _ _ _ _ (Act.put _ (some 94) _) _
            simp only [Act.put, List.setIfInBounds_toArray, List.set_cons_zero, List.set_cons_succ]
            have HSA : Hid ((Wd.drew.alloc (.cells #[.int .i64 (A0 : Nat), .int .i64 (N0 : Nat)] 38)).cell? ⟨C, 2, none⟩ = some (.int .i64 (A0 : Nat)) ∧ (Wd.drew.alloc (.cells #[.int .i64 (A0 : Nat), .int .i64 (N0 : Nat)] 38)).cell? ⟨C, 4, none⟩ = some (.int .i64 (N0 : Nat))) := by
              have hb : (Wd.drew.alloc (.cells #[.int .i64 (A0 : Nat), .int .i64 (N0 : Nat)] 38)).heap[C]? = some (pcO kk ff A0 A1 N0 N1) := (Below.heap_alloc _ _ _ (by have := HCD.out.2; show C < Wd.heap.size; omega)).trans HCD.out.1
              obtain ⟨-, -, q2, -, q4, -, -⟩ := pc_cells hb
              exact ⟨q2, q4⟩
            have e1 : Wd.drew.cell? ⟨w5.heap.size, 0, none⟩ = some (.slice ap M cp) := b0
            have lgW := (Array.getElem?_eq_some_iff.1 HXD.out.box).1
            have e2 : (Wd.drew.alloc (.cells #[.int .i64 (A0 : Nat), .int .i64 (N0 : Nat)] 38)).cell? ⟨w5.heap.size, 0, none⟩ = some (.slice ap M cp) := by
              rw [((Below.refl Wd.drew.heap.size Wd.drew).alloc (Nat.le_refl _) _).cell lgW]; exact b0
            have HROW : Hid (∀ W' : World, W'.heap = (Wd.drew.alloc (.cells #[.int .i64 (A0 : Nat), .int .i64 (N0 : Nat)] 38)).heap → ORp 38 2 W' 0 (.slice ap M cp) ((ms.map mk2).map p2c) ∧ W'.heap[Wd.heap.size]? = some (.cells #[.int .i64 (A0 : Nat), .int .i64 (N0 : Nat)] 38 (0, 0))) := fun W' hW =>
              ⟨(ORp.base HXD.out.pl (Nat.zero_le _)).move fun b hb => by rw [hW]; exact Below.heap_alloc _ _ _ (ORp.lt HXD.out.pl b hb).2, by rw [hW]; exact heap_alloc_new Wd.drew _⟩
            have HML : Hid (((ms.map mk2).map p2c).length ≤ 268435456) := by
              show _ ≤ _
              rw [List.length_map, List.length_map]
              have := HFA.out.2.2.1
              rw [← HMS.out] at this
              have := HZZ.out
              omega
            have HFI : Hid (∀ (w1 w8 : World) (v' : Value), w1.heap = (Wd.drew.alloc (.cells #[.int .i64 (A0 : Nat), .int .i64 (N0 : Nat)] 38)).heap → w1.os = Wd.os → w1.tape = Wd.tape → w1.output = Wd.output → ORp 38 2 w8 0 v' ((ms.map mk2).map p2c ++ [#[.int .i64 (A0 : Nat), .int .i64 (N0 : Nat)]]) → w1.grownBy w8 (Value.slice ap M cp).ownBlock → ((Value.slice ap M cp).ownBlock = v'.ownBlock ∨ v'.ownBlock = some w1.heap.size) →
                (w8.cell? ⟨w5.heap.size, 0, none⟩ = some (.slice ap M cp) ∧ w8.frozen? ⟨w5.heap.size, 0, none⟩ = false) ∧ (∃ a c, v' = .slice a (ms.length + 1) c) ∧ w8.heap[C]? = some (pcO kk ff A0 A1 N0 N1) ∧ (w8.setCell ⟨w5.heap.size, 0, none⟩ v').heap[C]? = some (pcO kk ff A0 A1 N0 N1) ∧ Wd.heap.size ≤ w8.heap.size ∧ XB w5 Z v' wv us (ms ++ [(A0, N0, 0)]) (w8.setCell ⟨w5.heap.size, 0, none⟩ v')) :=
              fun w1 w8 v' e e1 e2 e3 ho hgr hat => HXD.out.mark (A0, N0, 0) HCD.out.1 HCG.out e e1 e2 e3 ho hgr hat
            obtain ⟨Y, HY⟩ : ∃ Y : Nat, Hid (Y = ms.length) := ⟨_, rfl⟩
            refine wpAnyH_ready (rs := [4, 10]) (by kernel_rfl) (by simp) ?_
            refine AllReadyH.cons rfl (fun K hK => ?_) (AllReadyH.cons rfl (fun K hK => ?_) AllReadyH.nil)
            · go_simp
              refine hK.out _ _ HS0.out (fun hHeld1 => ?_)
              clear hK K
              try simp only [Act.put, List.setIfInBounds_toArray, List.set_cons_zero, List.set_cons_succ]
              refine wpAnyH_ready (rs := [10]) (by kernel_rfl) (by simp) ?_
              refine AllReadyH.cons rfl (fun K hK => ?_) AllReadyH.nil
              go_simp
              refine hK.out _ _ HSA.out (fun hHeld2 => ?_)
              clear hK K
              try simp only [Act.put, List.setIfInBounds_toArray, List.set_cons_zero, List.set_cons_succ]
              refine wpAnyH_ready (rs := [11]) (by kernel_rfl) (by simp) ?_
              refine AllReadyH.cons rfl (fun K hK => ?_) AllReadyH.nil
              refine stepRow2 (by rfl) _ _ (by rfl) 0 (.slice ap M cp) ((ms.map mk2).map p2c) #[.int .i64 (A0 : Nat), .int .i64 (N0 : Nat)] Wd.heap.size 1 (0, 0) (by simp [Act.eval, Act.put]) (HROW.out _ (by rfl)).1 (by simp [Act.eval, Act.put]) (HROW.out _ (by rfl)).2 rfl (by simp [Value.oneCell']) HML.out (Nat.zero_le _) ?_
              intro v8 w8 ho8 hg8 hat8
              obtain ⟨⟨t6, t7⟩, ⟨a8, c8, hv8⟩, u1, u2, u3, u4⟩ := HFI.out _ w8 _ (by rfl) (by rfl) (by rfl) (by rfl) ho8 hg8 hat8
              rw [← HY.out] at hv8
              subst hv8
              obtain ⟨-, -, x2, -, x4, -, -⟩ := pc_cells u1
              obtain ⟨-, -, y2, -, y4, -, -⟩ := pc_cells u2
              have HE := hide (And.intro u2 (And.intro u3 u4))
              have HSB2 : Hid (w8.cell? ⟨C, 2, none⟩ = some (.int .i64 (A0 : Nat)) ∧ w8.cell? ⟨C, 4, none⟩ = some (.int .i64 (N0 : Nat))) := ⟨x2, x4⟩
              have HSC2 := hide (And.intro y2 y4)
              clear u1 u2 u3 u4 ho8 hg8 hat8 x2 x4 y2 y4
              refine hK.out _ _ HSB2.out (fun hHeld3 => ?_)
              clear hK K
              try simp only [Act.put, List.setIfInBounds_toArray, List.set_cons_zero, List.set_cons_succ]
              refine wpAnyH_take (i := 12) (v := .pointer (some ⟨w5.heap.size, 0, none⟩)) rfl (by kernel_rfl) (by kernel_rfl) (by kernel_rfl) (fun _ _ _ h => h) (Or.inl ⟨by kernel_rfl, ?_⟩) hHeld3 ?_
              · intro W hSw
                have s1 := hSw.1
                have s2 := hSw.2
                go_simp
              show wpAnyH _ _ _ _ _ _ _ (Act.put _ (some 97) _) _
              simp only [Act.put, List.setIfInBounds_toArray, List.set_cons_zero, List.set_cons_succ]
              refine wpAnyH_take (i := 13) (v := .pointer (some ⟨w5.heap.size, 0, none⟩)) rfl (by kernel_rfl) (by kernel_rfl) (by kernel_rfl) (fun _ _ _ h => h) (Or.inl ⟨by kernel_rfl, ?_⟩) hHeld3 ?_
              · intro W hSw
                have s1 := hSw.1
                have s2 := hSw.2
                go_simp
              show wpAnyH _ _ _ _ _ _ _ (Act.put _ (some 98) _) _
              simp only [Act.put, List.setIfInBounds_toArray, List.set_cons_zero, List.set_cons_succ]
              refine wpAnyH_ready (rs := [14]) (by kernel_rfl) (by simp) ?_
              refine AllReadyH.cons rfl (fun K hK => ?_) AllReadyH.nil
              go_simp
              refine hK.out _ _ HSC2.out (fun hHeld4 => ?_)
              clear hK K
              try simp only [Act.put, List.setIfInBounds_toArray, List.set_cons_zero, List.set_cons_succ]
              refine wpAnyH_done (by kernel_rfl) ?_ _
              have HEE : Hid (∃ pv, XB w5 Z pv wv us (ms ++ [(A0, N0, 0)]) (w8.setCell ⟨w5.heap.size, 0, none⟩ (.slice a8 (Y + 1) c8)) ∧ (w8.setCell ⟨w5.heap.size, 0, none⟩ (.slice a8 (Y + 1) c8)).heap[C]? = some (pcO kk ff A0 A1 N0 N1)) := ⟨_, HE.out.2.2, HE.out.1⟩
              clear HE HSB2 HSC2 HSA HROW HML HFI HS0 hHeld hHeld1 hHeld2 hHeld3 hHeld4
              go_wp2
              go_meet
              case rel => exact HEE
            · go_simp
              refine hK.out _ _ HSA.out (fun hHeld1 => ?_)
              clear hK K
              try simp only [Act.put, List.setIfInBounds_toArray, List.set_cons_zero, List.set_cons_succ]
              refine wpAnyH_ready (rs := [4]) (by kernel_rfl) (by simp) ?_
              refine AllReadyH.cons rfl (fun K hK => ?_) AllReadyH.nil
              go_simp
              refine hK.out _ _ HSA.out (fun hHeld2 => ?_)
              clear hK K
              try simp only [Act.put, List.setIfInBounds_toArray, List.set_cons_zero, List.set_cons_succ]
              refine wpAnyH_ready (rs := [11]) (by kernel_rfl) (by simp) ?_
              refine AllReadyH.cons rfl (fun K hK => ?_) AllReadyH.nil
              refine stepRow2 (by rfl) _ _ (by rfl) 0 (.slice ap M cp) ((ms.map mk2).map p2c) #[.int .i64 (A0 : Nat), .int .i64 (N0 : Nat)] Wd.heap.size 1 (0, 0) (by simp [Act.eval, Act.put]) (HROW.out _ (by rfl)).1 (by simp [Act.eval, Act.put]) (HROW.out _ (by rfl)).2 rfl (by simp [Value.oneCell']) HML.out (Nat.zero_le _) ?_
              intro v8 w8 ho8 hg8 hat8
              obtain ⟨⟨t6, t7⟩, ⟨a8, c8, hv8⟩, u1, u2, u3, u4⟩ := HFI.out _ w8 _ (by rfl) (by rfl) (by rfl) (by rfl) ho8 hg8 hat8
              rw [← HY.out] at hv8
              subst hv8
              obtain ⟨-, -, x2, -, x4, -, -⟩ := pc_cells u1
              obtain ⟨-, -, y2, -, y4, -, -⟩ := pc_cells u2
              have HE := hide (And.intro u2 (And.intro u3 u4))
              have HSB2 : Hid (w8.cell? ⟨C, 2, none⟩ = some (.int .i64 (A0 : Nat)) ∧ w8.cell? ⟨C, 4, none⟩ = some (.int .i64 (N0 : Nat))) := ⟨x2, x4⟩
              have HSC2 := hide (And.intro y2 y4)
              clear u1 u2 u3 u4 ho8 hg8 hat8 x2 x4 y2 y4
              refine hK.out _ _ HSB2.out (fun hHeld3 => ?_)
              clear hK K
              try simp only [Act.put, List.setIfInBounds_toArray, List.set_cons_zero, List.set_cons_succ]
              refine wpAnyH_take (i := 12) (v := .pointer (some ⟨w5.heap.size, 0, none⟩)) rfl (by kernel_rfl) (by kernel_rfl) (by kernel_rfl) (fun _ _ _ h => h) (Or.inl ⟨by kernel_rfl, ?_⟩) hHeld3 ?_
              · intro W hSw
                have s1 := hSw.1
                have s2 := hSw.2
                go_simp
              show wpAnyH _ _ _ _ _ _ _ (Act.put _ (some 97) _) _
              simp only [Act.put, List.setIfInBounds_toArray, List.set_cons_zero, List.set_cons_succ]
              refine wpAnyH_take (i := 13) (v := .pointer (some ⟨w5.heap.size, 0, none⟩)) rfl (by kernel_rfl) (by kernel_rfl) (by kernel_rfl) (fun _ _ _ h => h) (Or.inl ⟨by kernel_rfl, ?_⟩) hHeld3 ?_
              · intro W hSw
                have s1 := hSw.1
                have s2 := hSw.2
                go_simp
              show wpAnyH _ _ _ _ _ _ _ (Act.put _ (some 98) _) _
              simp only [Act.put, List.setIfInBounds_toArray, List.set_cons_zero, List.set_cons_succ]
              refine wpAnyH_ready (rs := [14]) (by kernel_rfl) (by simp) ?_
              refine AllReadyH.cons rfl (fun K hK => ?_) AllReadyH.nil
              go_simp
              refine hK.out _ _ HSC2.out (fun hHeld4 => ?_)
              clear hK K
              try simp only [Act.put, List.setIfInBounds_toArray, List.set_cons_zero, List.set_cons_succ]
              refine wpAnyH_done (by kernel_rfl) ?_ _
              have HEE : Hid (∃ pv, XB w5 Z pv wv us (ms ++ [(A0, N0, 0)]) (w8.setCell ⟨w5.heap.size, 0, none⟩ (.slice a8 (Y + 1) c8)) ∧ (w8.setCell ⟨w5.heap.size, 0, none⟩ (.slice a8 (Y + 1) c8)).heap[C]? = some (pcO kk ff A0 A1 N0 N1)) := ⟨_, HE.out.2.2, HE.out.1⟩
              clear HE HSB2 HSC2 HSA HROW HML HFI HS0 hHeld hHeld1 hHeld2 hHeld3 hHeld4
              go_wp2
              go_meet
              case rel => exact HEE
          case rest =>
          obtain ⟨wm, hwm⟩ : ∃ wm, wm = wc := ⟨wc, rfl⟩
          subst hwm
          obtain ⟨pv2, hX2, hC2⟩ := hcut.out
          clear hx z2' r0 r1 r2 r3 r4 r5 rf hcW hsW b0 b1 b2 bf hbW
          have HX3 := hide hX2
          have HC3 := hide hC2
          have hPm := HP.out.keep hX2.bel.size (fun b hb => hX2.bel.block b hb)
          have g2 := hPm.out
          have hob := hPm.ob
          rw [List.append_nil] at g2 hob
          obtain ⟨-, -, -, s1, s2⟩ := id hob.sb
          obtain ⟨d0, d1, d2, d3, d4, d5, -⟩ := pc_cells hC2
          have hN1 : N0 ≤ oo.length := by have q1 := HFA.out.2.2.2.2.1; have q2 := HFA.out.2.2.2.2.2; omega
          obtain ⟨X, HXX⟩ : ∃ X : Nat, Hid (X = N0 - 32768) := ⟨_, rfl⟩
          have hmx : (if (32768 : Int) < (N0 : Int) then (N0 : Int) - 32768 else 0) = (X : Int) := by have := HXX.out; split <;> omega
          have hw1 : IntKind.i64.wrap ((N0 : Int) - 32768) = (N0 : Int) - 32768 := by rw [IntKind.wrap_i64]; omega
          have hXN : X ≤ N0 := by have := HXX.out; omega
          have hxi : (X : Int) ≤ (N0 : Int) := by omega
          have hcz : Z ≤ c := by
            obtain ⟨a', c', e, q1, _⟩ := hob.sb
            simp only [Value.slice.injEq] at e
            obtain ⟨-, -, rfl⟩ := e
            rw [HZ.out]; exact q1
          have hnc : (N0 : Int) ≤ (c : Int) := by have := HZ.out; omega
          obtain ⟨sp, hsp⟩ : ∃ sp, (if c = X then a else a.map fun x => x.add X) = sp := ⟨_, rfl⟩
          have hpart := part22 hob hXN hN1 sp hsp
          have hpl : ((oo.drop X).take (N0 - X)).length = N0 - X := by rw [List.length_take, List.length_drop]; omega
          rw [← HZ.out] at g2
          obtain ⟨news, HNW⟩ : ∃ news, Hid (news = (oo.drop X).take (N0 - X)) := ⟨_, rfl⟩
          rw [← HNW.out] at hpart hpl
          have HSRC : Hid (∀ W' : World, W'.heap = wm.heap → Src Tryz.prog 1 22 (.slice sp (N0 - X) (c - X)) news.length (news.map (Value.int .u8)) W') := fun W' e => by
            have q := (hpart.heap e).src
            exact q
          have HNL : Hid (([] : List Int).length + news.length ≤ 140737488355328) := by show _ ≤ _; rw [hpl]; simp; omega
          have HXE : Hid (∀ (w1 w6 : World) (v' : Value), w1.heap = wm.heap → w1.os = wm.os → w1.tape = wm.tape → w1.output = wm.output → Grew w1 w6 (.slice none 0 0) v' → XB w5 Z pv2 wv us (ms ++ [(A0, N0, 0)]) w6) := fun w1 w6 v' e e1 e2 e3 hg => by
            have g2 := hg.by
            refine HX3.out.below ⟨g2.os.trans e1, g2.tape.trans e2, g2.output.trans e3, by have := g2.size; rw [e] at this; exact this, fun b hb => (g2.block b (by rw [e]; exact hb) (fun q => by cases q)).trans (by rw [e])⟩
          obtain ⟨NX, HNX⟩ : ∃ NX : Nat, Hid (NX = news.length) := ⟨_, rfl⟩
          clear hX2 hC2 hPm hob hpart
          go_wp2_with fail
          go_cut [12] from 99 to 111 (fun u wx => Hid ((∃ a n c, u = .slice a n c) ∧ XB w5 Z pv2 wv us (ms ++ [(A0, N0, 0)]) wx))
          case first =>
            have HS0 : Hid (wm.cell? ⟨g, 2, none⟩ = some (.slice a Z c) ∧ wm.cell? ⟨C, 4, none⟩ = some (.int .i64 (N0 : Nat))) := ⟨g2, d4⟩
            have HSN : Hid (∀ (w1 w6 : World) (v' : Value), w1.heap = wm.heap → Grew w1 w6 (.slice none 0 0) v' → w6.cell? ⟨g, 2, none⟩ = some (.slice a Z c) ∧ w6.cell? ⟨C, 4, none⟩ = some (.int .i64 (N0 : Nat))) := fun w1 w6 v' e hg => by
              have q := hg.by
              have k1 : ∀ b : Nat, b < wm.heap.size → w6.heap[b]? = wm.heap[b]? := fun b hb => (q.block b (by rw [e]; exact hb) (fun r => by cases r)).trans (by rw [e])
              exact ⟨(World.cell?_of_block (k1 g (World.block_lt_of_cell? _ _ HS0.out.1))).trans HS0.out.1, (World.cell?_of_block (k1 C (World.block_lt_of_cell? _ _ HS0.out.2))).trans HS0.out.2⟩
            refine wp_region_held_drew (S := (fun W => W.cell? ⟨g, 2, none⟩ = some (.slice a Z c) ∧ W.cell? ⟨C, 4, none⟩ = some (.int .i64 (N0 : Nat)))) (by kernel_rfl) HS0.out (fun hHeld => ?_)
            refine wpAnyH_take (i := 0) (v := .slice none 0 0) rfl (by kernel_rfl) (by kernel_rfl) (by kernel_rfl) (fun _ _ _ h => h) (Or.inl ⟨by kernel_rfl, ?_⟩) hHeld ?_
            · intro W hSw
              have s1 := hSw.1
              have s2 := hSw.2
              go_simp
            show wpAnyH _ _ _ _ _ _ _ (Act.put _ (some 99) _) _
            simp only [Act.put, List.setIfInBounds_toArray, List.set_cons_zero, List.set_cons_succ]
            refine wpAnyH_take (i := 1) (v := .pointer (some ⟨g, 0, none⟩)) rfl (by kernel_rfl) (by kernel_rfl) (by kernel_rfl) (fun _ _ _ h => h) (Or.inl ⟨by kernel_rfl, ?_⟩) hHeld ?_
            · intro W hSw
              have s1 := hSw.1
              have s2 := hSw.2
              go_simp
            show wpAnyH _ _ _ _ _ _ _ (Act.put _ (some 100) _) _
            simp only [Act.put, List.setIfInBounds_toArray, List.set_cons_zero, List.set_cons_succ]
            refine wpAnyH_take (i := 2) (v := .pointer (some ⟨g, 0, none⟩)) rfl (by kernel_rfl) (by kernel_rfl) (by kernel_rfl) (fun _ _ _ h => h) (Or.inl ⟨by kernel_rfl, ?_⟩) hHeld ?_
            · intro W hSw
              have s1 := hSw.1
              have s2 := hSw.2
              go_simp
            show wpAnyH _ _ _ _ _ _ _ (Act.put _ (some 101) _) _
            simp only [Act.put, List.setIfInBounds_toArray, List.set_cons_zero, List.set_cons_succ]
            refine wpAnyH_take (i := 3) (v := .pointer (some ⟨g, 2, none⟩)) rfl (by kernel_rfl) (by kernel_rfl) (by kernel_rfl) (fun _ _ _ h => h) (Or.inl ⟨by kernel_rfl, ?_⟩) hHeld ?_
            · intro W hSw
              have s1 := hSw.1
              have s2 := hSw.2
              go_simp
            show wpAnyH _ _ _ _ _ _ _ (Act.put _ (some 102) _) _
            simp only [Act.put, List.setIfInBounds_toArray, List.set_cons_zero, List.set_cons_succ]
            refine wpAnyH_take (i := 4) (v := .slice a Z c) rfl (by kernel_rfl) (by kernel_rfl) (by kernel_rfl) (fun _ _ _ h => h) (Or.inl ⟨by kernel_rfl, ?_⟩) hHeld ?_
            · intro W hSw
              have s1 := hSw.1
              have s2 := hSw.2
              go_simp
            show wpAnyH _ _ _ _ _ _ _ (Act.put _ (some 103) _) _
            simp only [Act.put, List.setIfInBounds_toArray, List.set_cons_zero, List.set_cons_succ]
            refine wpAnyH_take (i := 5) (v := .pointer (some ⟨C, 4, none⟩)) rfl (by kernel_rfl) (by kernel_rfl) (by kernel_rfl) (fun _ _ _ h => h) (Or.inl ⟨by kernel_rfl, ?_⟩) hHeld ?_
            · intro W hSw
              have s1 := hSw.1
              have s2 := hSw.2
              go_simp
            show wpAnyH _ _ _ _ _ _ _ (Act.put _ (some 104) _) _
            simp only [Act.put, List.setIfInBounds_toArray, List.set_cons_zero, List.set_cons_succ]
            refine wpAnyH_take (i := 6) (v := .int .i64 (N0 : Nat)) rfl (by kernel_rfl) (by kernel_rfl) (by kernel_rfl) (fun _ _ _ h => h) (Or.inl ⟨by kernel_rfl, ?_⟩) hHeld ?_
            · intro W hSw
              have s1 := hSw.1
              have s2 := hSw.2
              go_simp
            show wpAnyH _ _ _ _ _ _ _ (Act.put _ (some 105) _) _
            simp only [Act.put, List.setIfInBounds_toArray, List.set_cons_zero, List.set_cons_succ]
            refine wpAnyH_take (i := 7) (v := .int .i64 ((N0 : Int) - 32768)) rfl (by kernel_rfl) (by kernel_rfl) (by kernel_rfl) (fun _ _ _ h => h) (Or.inl ⟨by kernel_rfl, ?_⟩) hHeld ?_
            · intro W hSw
              have s1 := hSw.1
              have s2 := hSw.2
              go_simp
            show wpAnyH _ _ _ _ _ _ _ (Act.put _ (some 106) _) _
            simp only [Act.put, List.setIfInBounds_toArray, List.set_cons_zero, List.set_cons_succ]
            refine wpAnyH_take (i := 8) (v := .int .i64 (X : Nat)) rfl (by kernel_rfl) (by kernel_rfl) (by kernel_rfl) (fun _ _ _ h => h) (Or.inl ⟨by kernel_rfl, ?_⟩) hHeld ?_
            · intro W hSw
              have s1 := hSw.1
              have s2 := hSw.2
              go_simp
            show wpAnyH _ _ _ _ _ _ _ (Act.put _ (some 107) _) _
            simp only [Act.put, List.setIfInBounds_toArray, List.set_cons_zero, List.set_cons_succ]
            refine wpAnyH_take (i := 9) (v := .pointer (some ⟨C, 4, none⟩)) rfl (by kernel_rfl) (by kernel_rfl) (by kernel_rfl) (fun _ _ _ h => h) (Or.inl ⟨by kernel_rfl, ?_⟩) hHeld ?_
            · intro W hSw
              have s1 := hSw.1
              have s2 := hSw.2
              go_simp
            show wpAnyH _ _ _ _ _ _ _ (Act.put _ (some 108) _) _
            simp only [Act.put, List.setIfInBounds_toArray, List.set_cons_zero, List.set_cons_succ]
            refine wpAnyH_take (i := 10) (v := .int .i64 (N0 : Nat)) rfl (by kernel_rfl) (by kernel_rfl) (by kernel_rfl) (fun _ _ _ h => h) (Or.inl ⟨by kernel_rfl, ?_⟩) hHeld ?_
            · intro W hSw
              have s1 := hSw.1
              have s2 := hSw.2
              go_simp
            show wpAnyH _ _ _ _ _ _ _ (Act.put _ (some 109) _) _
            simp only [Act.put, List.setIfInBounds_toArray, List.set_cons_zero, List.set_cons_succ]
            refine wpAnyH_take (i := 11) (v := .slice sp (N0 - X) (c - X)) rfl (by kernel_rfl) (by kernel_rfl) (by kernel_rfl) (fun _ _ _ h => h) (Or.inl ⟨by kernel_rfl, ?_⟩) hHeld ?_
            · intro W hSw
              have s1 := hSw.1
              have s2 := hSw.2
              go_simp
            show wpAnyH _ _ _ _ _ _ _ (Act.put _ (some 110) _) _
            simp only [Act.put, List.setIfInBounds_toArray, List.set_cons_zero, List.set_cons_succ]
            refine wpAnyH_ready (rs := [12]) (by kernel_rfl) (by simp) ?_
            refine AllReadyH.cons rfl (fun K hK => ?_) AllReadyH.nil
            refine step_appE (by rfl) _ _ (by rfl) (.slice none 0 0) (.slice sp (N0 - X) (c - X)) [] news (by simp [Act.eval, Act.put]) (by simp [Act.eval, Act.put]) (World.ownsRow_nil _ _ _ _) (HSRC.out _ (by rfl)) HNL.out ?_
            intro v6 w6 ho6 hg6
            obtain ⟨a6, c6, hv6⟩ := ho6.shape
            rw [List.nil_append, ← HNX.out] at hv6
            subst hv6
            have HF6 := hide (HXE.out _ w6 _ (by rfl) (by rfl) (by rfl) (by rfl) hg6)
            have HS6 := hide (HSN.out _ w6 _ (by rfl) hg6)
            clear ho6 hg6
            refine hK.out _ _ HS6.out (fun hHeld1 => ?_)
            clear hK K
            try simp only [Act.put, List.setIfInBounds_toArray, List.set_cons_zero, List.set_cons_succ]
            refine wpAnyH_ready (rs := [13]) (by kernel_rfl) (by simp) ?_
            refine AllReadyH.cons rfl (fun K hK => ?_) AllReadyH.nil
            go_simp
            refine hK.out _ _ HS6.out (fun hHeld2 => ?_)
            clear hK K
            try simp only [Act.put, List.setIfInBounds_toArray, List.set_cons_zero, List.set_cons_succ]
            refine wpAnyH_done (by kernel_rfl) ?_ _
            clear HS6 HSN HS0 hHeld hHeld1 hHeld2 HSRC HXE
            go_wp2
            go_meet
            case rel => exact ⟨⟨_, _, _, rfl⟩, HF6.out⟩
          case rest =>
          obtain ⟨wn, hwn⟩ : ∃ wn, wn = wc := ⟨wc, rfl⟩
          subst hwn
          obtain ⟨⟨ua, un, uc, rfl⟩, hX4⟩ := hcut.out
          have HX4 := hide hX4
          obtain ⟨i0, hi0, hz0, hz1, hz2⟩ := info_parts info28s
          obtain ⟨f0, f1, f2, f3⟩ := qxO_cells hX4.box
          have HROW : Hid ((wn.alloc (.cells #[.slice ua un uc] 22)).ownsRow (w5.heap.size + 1) 22 1 wv us.length us) := row_move22 hX4.wn fun b hb => Below.heap_alloc _ _ _ (World.ownsRow.lt hX4.wn b hb).2
          have hbs : w5.heap.size + 1 ≤ wn.heap.size := (Array.getElem?_eq_some_iff.1 hX4.box).1
          have hul : us.length ≤ 100000000 := by have := HZZ.out; omega
          clear hX4 hcut d0 d1 d2 d3 d4 d5 g2 hmx hw1 hxi hnc hsp hpl HSRC HNL HXE
          go_wp2_with (at_builtin; refine wpList_append_own_at _ rfl _ _ 76 rfl (w5.heap.size + 1) 22 i0 _ 1 24 Tryz.underlying76 hi0 hz0 hz1 hz2 rfl (by omega) wv us.length us rfl HROW.out ⟨wn.heap.size, 0, none⟩ 1 1 [.slice ua un uc] rfl rfl (World.news_of_block (heap_alloc_new wn _)) (by simp [Value.oneCell']) (by unfold maxLen; omega) (by omega) (by simp; omega) ?_)
          intro v7 w7 g1 g2 g3 g4
          obtain ⟨a7, n7, c7, rfl⟩ : ∃ a n c, v7 = .slice a n c := by
            rcases g1.2 with ⟨q, _⟩ | ⟨_, _, _, q, _⟩
            · exact ⟨_, _, _, q⟩
            · exact ⟨_, _, _, q⟩
          obtain ⟨⟨t6, t7⟩, hX5⟩ := HX4.out.win g1 g2 (by rw [size_alloc']; exact g4)
          have HX5 := hide hX5
          clear g1 g2 g3 g4 hX5 f0 f1 f2 f3
          go_wp2
          go_roundw
          case rel =>
            refine ⟨k + 1, by omega, by go_num, pv2, .slice a7 n7 c7, us ++ [.slice ua un uc], by rw [List.length_append]; simp; exact hus, ?_⟩
            rw [HST.out]
            have q := HX5.out
            refine ⟨q.bel, q.box, ?_, q.wn, q.sep⟩
            have e : (ms ++ [(addM (oo.take N0) (runM step oo (ps.take k)) ⟨kk, ff, A0, A1, N0, N1⟩).1.getLast?.getD (0, 0, 0)]).map mk2 = (ms ++ [((A0, N0, 0) : Mk)]).map mk2 := by
              simp [addM, mk2]
            rw [e]
            exact q.pl
          case measure => simp [intOf]; omega
        · have hf : asksB step ms N0 = false := by simpa using hask
          rw [hf]
          have HST : Hid (runM step oo (ps.take (k + 1)) = runM step oo (ps.take k)) := by
            show _ = _
            rw [HTK.out, runM_snoc]
            unfold stepM
            rw [if_neg (by simp only; rw [← HMS.out, hf]; simp)]
          go_wp2
          go_roundw
          case rel =>
            refine ⟨k + 1, by omega, by go_num, .slice ap M cp, wv, us, Nat.le_succ_of_le hus, ?_⟩
            rw [HST.out, ← HMS.out]
            have q := HX2.out
            exact ⟨below_drewN q.bel _, q.box, q.pl.move fun _ _ => rfl, row_move22 q.wn fun _ _ => rfl, q.sep⟩
          case measure => simp [intOf]; omega
    · obtain rfl : k = P := by omega
      have hk' : ¬ (k : Int) < (k : Int) := by omega
      have z3 := (HP.out.keep hx.bel.size (fun b hb => hx.bel.block b hb)).wh
      rw [← HPN.out] at z3
      have HXB := hide hx
      have HPL := hide hx.pl
      clear hx
      go_wp2
      go_ret2
      have hb := HXB.out.bel
      have hbw : Below w.heap.size w wr := HB5.out.trans (hb.mono HB5.out.size)
      refine ⟨hbw, .inr ⟨HR.out, ps, 0, q, oo, HT.out, .inr ⟨rfl, w5.heap.size, pv, wv, rfl, HB5.out.size, by have := HXB.out.box; rw [HZ.out] at this; exact this, ?_⟩⟩⟩
      have := HPL.out
      rw [List.take_of_length_le (by have := HPN.out; omega)] at this
      exact ORp.base this (by have := HB5.out.size; omega)
end Go.Proofs.YtmjdpfigkojolaaGreatDoor

