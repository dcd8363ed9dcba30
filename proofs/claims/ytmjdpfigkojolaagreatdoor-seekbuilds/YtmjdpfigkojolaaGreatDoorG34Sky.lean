import Derived.Test.YtmjdpfigkojolaaGreatDoorG33Skx
import Derived.Test.YtmjdpfigkojolaaGreatDoorG13Wkq
import Derived.Deep.DeepCutAuto
import Derived.Deep.RegionLaw
import Derived.Deep.RegionHeld3
import Derived.Deep.AppendLies
namespace Go.Proofs.YtmjdpfigkojolaaGreatDoor
open Go.RowKit Go.Maps
set_option maxRecDepth 20000
set_option linter.unusedVariables false
set_option linter.unusedSimpArgs false

theorem step_appE {ops : Array Oper} {o : Oper} {a : Act} {w : World} {Kk : Act → World → Prop} {Q : Exit → Act → World → Prop} {E : Prop}
    (hg : o.guard = none) (s x : Operand) (hop : o.op = Op.call { callee := Callee.builtin Builtin.append, args := #[s, x], argTypes := #[22, 22] })
    (v xv : Value) (l news : List Int) (hs : a.eval s = v) (hx : a.eval x = xv) (hown : OB w 0 v l) (hsrc : Src Tryz.prog 1 22 xv news.length (news.map (Value.int .u8)) w) (hb : l.length + news.length ≤ 140737488355328)
    (hK : ∀ v' w', OB w' 0 v' (l ++ news) → Grew w w' v v' → Kk (a.put o.dst v') w') :
    if Region.wanted o (yielded ops a.tmps) = true then Oper.wp Tryz.prog o a w Kk Q else E := by
  have hw : Region.wanted o (yielded ops a.tmps) = true := by simp [Region.wanted, hg]
  rw [if_pos hw]
  obtain ⟨v', w', hr, h2, h3⟩ := run_app w 0 22 o.type v xv l news hown hsrc hb (Nat.zero_le _)
  unfold Oper.wp
  simp [execOp, hop, resolve, invoke, builtin, hs, hx, hr, Result.andThen]
  exact hK v' w' h2 h3

theorem infoKm : (Tryz.prog.info? 70).map (fun i => (i.zero, i.size, i.bytes)) = some (some (.agg #[.int .i64 0, .int .i64 0, .int .i64 0]), 3, 24) := by kernel_rfl

theorem stepRowk {w : World} {ops : Array Oper} {o : Oper} {a : Act} {K : Act → World → Prop} {Q : Exit → Act → World → Prop} {E : Prop} (hgd : o.guard = none) (s x : Operand)
    (ho : o.op = .call { callee := .builtin .append, args := #[s, x], argTypes := #[59, 59] })
    (base : Nat) (v : Value) (R : List (Array Value)) (r : Array Value) (B c : Nat) (fr : Nat × Nat) (hs : a.eval s = v) (hown : ORp 70 3 w base v R)
    (hx : a.eval x = .slice (some ⟨B, 0, none⟩) 1 c) (hB : w.heap[B]? = some (.cells r 70 fr)) (hr : r.size = 3) (h1 : ∀ u ∈ r.toList, u.oneCell' = true)
    (hlen : R.length ≤ 268435456) (hbase : base ≤ w.heap.size)
    (h : ∀ v' w', ORp 70 3 w' base v' (R ++ [r]) → w.grownBy w' v.ownBlock → (v.ownBlock = v'.ownBlock ∨ v'.ownBlock = some w.heap.size) → K (a.put o.dst v') w') :
    if Region.wanted o (yielded ops a.tmps) = true then Oper.wp Tryz.prog o a w K Q else E := by
  obtain ⟨i0, hi0, hz0, hz1, hz2⟩ := info_parts infoKm
  have hw : Region.wanted o (yielded ops a.tmps) = true := by simp [Region.wanted, hgd]
  rw [if_pos hw]
  refine wp_append_lies _ s x 59 ho base 70 i0 _ 3 24 Tryz.underlying59 hi0 hz0 hz1 hz2 rfl (by omega) v R.length (flr R) hs hown.2 ⟨B, 0, none⟩ 1 c r.toList hx (by rw [Array.length_toList, hr, Nat.one_mul]) (World.news_of_block hB) h1 (by omega) (by unfold maxLen; omega) (by omega) hbase _ rfl fun g cap w' g1 g2 g4 _ => h _ w' ⟨?_, ?_⟩ g2 (g4.elim .inl fun e => .inr (congrArg some e))
  · intro q hq
    rcases List.mem_append.1 hq with hq | hq
    · exact hown.1 q hq
    · rw [List.mem_singleton.1 hq]; exact hr
  · rw [List.length_append, flr_app]
    simpa [flr] using g1

structure Mv2 (X : Nat → Prop) (w w' : World) : Prop where
  os : w'.os = w.os
  tape : w'.tape = w.tape
  output : w'.output = w.output
  size : w.heap.size ≤ w'.heap.size
  blk : ∀ b, b < w.heap.size → ¬ X b → w'.heap[b]? = w.heap[b]?

structure Gkp (w0 : World) (B g pB : Nat) (sz : Int) (ms : List Mk) (K : List Int) (mv kv : Value) (x : Pc) (K' : List Int) (w : World) : Prop where
  kv' : ∃ a c, w.heap[g]? = some (ixO sz mv (.slice a K'.length c)) ∧ OB w B (.slice a K'.length c) K' ∧ ∀ b, (Value.slice a K'.length c).ownBlock = some b → kv.ownBlock = some b ∨ w0.heap.size ≤ b
  marks : ORp 70 3 w B mv (ms.map mkc)
  pbox : w.heap[pB]? = some (pcO x.kind x.fin x.at0 x.at1 x.to0 x.to1)
  mv2 : Mv2 (fun b => b = g ∨ kv.ownBlock = some b) w0 w

theorem ix_set2 {w : World} {g : Nat} {sz : Int} {mv kv : Value} (h : w.heap[g]? = some (ixO sz mv kv)) (u : Value) : (w.setCell ⟨g, 2, none⟩ u).heap[g]? = some (ixO sz mv u) := by
  rw [heap_setCell_at _ h]; rfl
theorem ix_set1 {w : World} {g : Nat} {sz : Int} {mv kv : Value} (h : w.heap[g]? = some (ixO sz mv kv)) (u : Value) : (w.setCell ⟨g, 1, none⟩ u).heap[g]? = some (ixO sz u kv) := by
  rw [heap_setCell_at _ h]; rfl

theorem Gkp.of {w0 w6 : World} {B g pB : Nat} {sz : Int} {ms : List Mk} {K K' : List Int} {mv kv v' : Value} {x : Pc} (h : Ix w0 B g sz ms K mv kv) (hp : w0.heap[pB]? = some (pcO x.kind x.fin x.at0 x.at1 x.to0 x.to1)) (hne : pB ≠ g) (hg : kv.ownBlock ≠ some g) (hmg : mv.ownBlock ≠ some g) (hmk : ∀ b, mv.ownBlock = some b → kv.ownBlock ≠ some b) (hkp : kv.ownBlock ≠ some pB)
    (w1 : World) (hw1 : w1.heap = w0.heap) (h1 : w1.os = w0.os) (h2 : w1.tape = w0.tape) (h3 : w1.output = w0.output) (hv : ∃ a c, v' = .slice a K'.length c) (ho : OB w6 0 v' K') (hgr : Grew w1 w6 kv v') (hB : B ≤ w0.heap.size) : Gkp w0 B g pB sz ms K mv kv x K' (w6.setCell ⟨g, 2, none⟩ v') := by
  have hs : w1.heap.size = w0.heap.size := by rw [hw1]
  have key : Mv2 (fun b => kv.ownBlock = some b) w0 w6 ∧ ∀ b, v'.ownBlock = some b → kv.ownBlock = some b ∨ w0.heap.size ≤ b := by
    rcases hgr with ⟨rfl, rfl⟩ | ⟨e, hb⟩ | ⟨e, hz, hgw⟩
    · exact ⟨⟨h1, h2, h3, by omega, fun b _ _ => by rw [hw1]⟩, fun b hb => .inl hb⟩
    · refine ⟨⟨hb.os.trans h1, hb.tape.trans h2, hb.output.trans h3, by have := hb.size; omega, fun b q _ => (hb.block b (by omega)).trans (by rw [hw1])⟩, fun b q => .inr ?_⟩
      rw [e] at q; injection q with q; omega
    · exact ⟨⟨hgw.os.trans h1, hgw.tape.trans h2, hgw.output.trans h3, by omega, fun b q n => (hgw.block b (by omega) (fun r => n r.symm)).trans (by rw [hw1])⟩, fun b q => .inl (e ▸ q)⟩
  obtain ⟨km, ko⟩ := key
  obtain ⟨a, c, rfl⟩ := hv
  have lg := (Array.getElem?_eq_some_iff.1 h.box).1
  have lp := (Array.getElem?_eq_some_iff.1 hp).1
  have hbox : w6.heap[g]? = some (ixO sz mv kv) := (km.blk g lg hg).trans h.box
  have up : ∀ b, (Value.slice a K'.length c).ownBlock = some b → B ≤ b ∧ b ≠ g := fun b q => by
    rcases ko b q with r | r
    · exact ⟨(h.kept.lt b r).1, fun e => hg (e ▸ r)⟩
    · exact ⟨by omega, by omega⟩
  refine ⟨⟨a, c, ix_set2 hbox _, ?_, ko⟩, ?_, ?_, ?_⟩
  · have hm := ho.move (w' := w6.setCell ⟨g, 2, none⟩ (.slice a K'.length c)) fun b q => setCell_others _ _ _ _ b (up b q).2
    exact ob_up hm fun b q => (up b q).1
  · refine h.marks.move fun b q => ?_
    have l := h.marks.lt b q
    exact (setCell_others _ _ _ _ b (fun e => hmg (by rw [← e]; exact q))).trans (km.blk b l.2 (hmk b q))
  · exact (setCell_others _ _ _ _ _ hne).trans ((km.blk pB lp hkp).trans hp)
  · exact ⟨km.os, km.tape, km.output, by rw [size_setCell]; exact km.size, fun b q n => (setCell_others _ _ _ _ b (fun e => n (.inl e))).trans (km.blk b q (fun r => n (.inr r)))⟩
theorem xpc_cells {w : World} {g : Nat} {k : Int} {f : Bool} {a b c d : Int} (h : w.heap[g]? = some (pcO k f a b c d)) :
    w.cell? ⟨g, 0, none⟩ = some (.int .i64 k) ∧ w.cell? ⟨g, 1, none⟩ = some (.bool f) ∧ w.cell? ⟨g, 2, none⟩ = some (.int .i64 a) ∧ w.cell? ⟨g, 3, none⟩ = some (.int .i64 b) ∧ w.cell? ⟨g, 4, none⟩ = some (.int .i64 c) ∧ w.cell? ⟨g, 5, none⟩ = some (.int .i64 d) ∧ ∀ i, w.frozen? ⟨g, i, none⟩ = false := by
  refine ⟨?_, ?_, ?_, ?_, ?_, ?_, fun i => ?_⟩
  all_goals first | (unfold World.cell?; rw [h]; rfl) | (unfold World.frozen?; rw [h]; rfl)

theorem Ix.heap {w w' : World} {B g : Nat} {sz : Int} {ms : List Mk} {K : List Int} {mv kv : Value} (h : Ix w B g sz ms K mv kv) (e : w'.heap = w.heap) : Ix w' B g sz ms K mv kv :=
  ⟨by rw [e]; exact h.box, h.marks.move fun k _ => by rw [e], h.kept.move fun k _ => by rw [e]⟩

theorem OB.suffix {w : World} {B : Nat} {a : Option Addr} {c : Nat} {l : List Int} (h : OB w B (.slice a l.length c) l) {f : Nat} (hf : f ≤ l.length) : (a = none ∧ l = [] ∧ c = 0) ∨ ∃ b, a = some ⟨b, 0, none⟩ ∧ l.length ≤ c ∧ c ≤ 9223372036854775807 ∧ SB w (.slice (some ⟨b, f, none⟩) (l.length - f) (c - f)) (l.drop f) := by
  have hsb := h.sb
  have hx := h.2
  rcases hx with ⟨hn, h0⟩ | ⟨g, cap, cur, hv, -, -, hc1, hc2, -⟩
  · left
    simp only [Value.slice.injEq] at hn
    exact ⟨hn.1, List.eq_nil_of_length_eq_zero hn.2.1, hn.2.2⟩
  · right
    simp only [Value.slice.injEq] at hv
    obtain ⟨rfl, -, rfl⟩ := hv
    have := SB.part8 hsb (at' := f) (n := l.length - f) (by omega)
    rw [Nat.zero_add, List.take_of_length_le (by rw [List.length_drop]; omega)] at this
    exact ⟨g, rfl, hc1, hc2, this⟩
theorem OB.suffix2 {w : World} {B n f : Nat} {a : Option Addr} {c : Nat} {l : List Int} (h : OB w B (.slice a n c) l) (hn : n = l.length) (hf : f ≤ n) : SB w (.slice (if c = f then a else a.map (fun x => x.add f)) (n - f) (c - f)) (l.drop f) := by
  subst hn
  rcases h.suffix hf with ⟨rfl, rfl, rfl⟩ | ⟨b, rfl, h1, h2, h3⟩
  · have : f = 0 := by simpa using hf
    subst this
    exact h.sb
  · by_cases e : c = f
    · rw [if_pos e]
      have e2 : l.length - f = 0 := by omega
      have e3 : l.drop f = [] := by rw [List.drop_eq_nil_iff]; omega
      rw [e2, e3]
      rw [e2, e3] at h3
      exact ⟨_, _, rfl, Nat.zero_le _, by unfold maxLen; omega, (fun q => by cases q), fun y _ i hi => by simp at hi⟩
    · rw [if_neg e, Option.map_some, Addr.add_lit, Nat.zero_add]
      exact h3

structure Added (w w' : World) (B g : Nat) (sz : Int) (ms : List Mk) (K : List Int) (mv kv : Value) (ms' : List Mk) (K' : List Int) (mv' kv' : Value) : Prop where
  ix : Ix w' B g sz ms' K' mv' kv'
  mv2 : Mv2 (fun b => b = g ∨ kv.ownBlock = some b ∨ mv.ownBlock = some b) w w'
  kb : ∀ b, kv'.ownBlock = some b → kv.ownBlock = some b ∨ w.heap.size ≤ b
  mb : ∀ b, mv'.ownBlock = some b → mv.ownBlock = some b ∨ w.heap.size ≤ b
  kg : kv'.ownBlock ≠ some g
  mg : mv'.ownBlock ≠ some g
  sep : ∀ b, mv'.ownBlock = some b → kv'.ownBlock ≠ some b

theorem Gkp.added {w w1 w8 wx : World} {B g pB : Nat} {sz : Int} {ms : List Mk} {K K' : List Int} {mv kv v' : Value} {x : Pc} {o : Obj} {m : Mk} (h : Gkp w B g pB sz ms K mv kv x K' wx) (hi : Ix w B g sz ms K mv kv)
    (hg : kv.ownBlock ≠ some g) (hmg : mv.ownBlock ≠ some g) (hmk : ∀ b, mv.ownBlock = some b → kv.ownBlock ≠ some b) (hB : B ≤ w.heap.size)
    (e : w1.heap = (wx.alloc o).heap) (e1 : w1.os = wx.os) (e2 : w1.tape = wx.tape) (e3 : w1.output = wx.output) (ho : ORp 70 3 w8 0 v' (ms.map mkc ++ [mkc m])) (hgr : w1.grownBy w8 mv.ownBlock) (hat : mv.ownBlock = v'.ownBlock ∨ v'.ownBlock = some w1.heap.size) :
    ∃ kv', Added w (w8.setCell ⟨g, 1, none⟩ v') B g sz ms K mv kv (ms ++ [m]) K' v' kv' := by
  obtain ⟨⟨ak, ck, hbk, hok, hkk⟩, hmx2, hpb2, hmv⟩ := h
  have lg := (Array.getElem?_eq_some_iff.1 hi.box).1
  have lgx := (Array.getElem?_eq_some_iff.1 hbk).1
  have hs1 : w1.heap.size = wx.heap.size + 1 := by rw [e]; exact size_alloc' _ _
  have hb1 : ∀ b, b < wx.heap.size → w1.heap[b]? = wx.heap[b]? := fun b q => by rw [e]; exact Below.heap_alloc _ _ _ q
  have hb8 : ∀ b, b < wx.heap.size → mv.ownBlock ≠ some b → w8.heap[b]? = wx.heap[b]? := fun b q n => (hgr.block b (by omega) (fun r => n r.symm)).trans (hb1 b q)
  have hv : ∀ b, v'.ownBlock = some b → mv.ownBlock = some b ∨ w1.heap.size ≤ b := fun b q => by
    rcases hat with r | r
    · exact .inl (r.trans q)
    · rw [q] at r; injection r with r; exact .inr (by omega)
  have hsx := hmv.size
  have hvg : v'.ownBlock ≠ some g := fun q => by
    rcases hv g q with r | r
    · exact hmg r
    · omega
  have hkl := hok.lt
  have hvk : ∀ b, v'.ownBlock = some b → (Value.slice ak K'.length ck).ownBlock ≠ some b := fun b q r => by
    have l := (hkl b r).2
    rcases hv b q with t | t
    · rcases hkk b r with u | u
      · exact hmk b t u
      · have := (hi.marks.lt b t).2; omega
    · omega
  have hmkx : ∀ b, mv.ownBlock = some b → (Value.slice ak K'.length ck).ownBlock ≠ some b := fun b t r => by
    rcases hkk b r with u | u
    · exact hmk b t u
    · have := (hi.marks.lt b t).2; omega
  have hgk : (Value.slice ak K'.length ck).ownBlock ≠ some g := fun r => by
    rcases hkk g r with u | u
    · exact hg u
    · omega
  have hbox : w8.heap[g]? = some (ixO sz mv (.slice ak K'.length ck)) := (hb8 g lgx hmg).trans hbk
  refine ⟨.slice ak K'.length ck, ⟨ix_set1 hbox _, ?_, ?_⟩, ⟨?_, ?_, ?_, ?_, ?_⟩, hkk, ?_, hgk, hvg, hvk⟩
  · have hm := ho.move (w' := w8.setCell ⟨g, 1, none⟩ v') fun b q => setCell_others _ _ _ _ b (fun r => hvg (by rw [← r]; exact q))
    rw [List.map_append, List.map_singleton]
    refine ⟨hm.1, ?_⟩
    have hup : ∀ b, v'.ownBlock = some b → B ≤ b := fun b q => by
      rcases hv b q with r | r
      · exact (hi.marks.lt b r).1
      · omega
    refine ⟨hm.2.1, ?_⟩
    rcases hm.2.2 with h2 | ⟨gg, cap, cur, rfl, _, r⟩
    · exact .inl h2
    · exact .inr ⟨gg, cap, cur, rfl, hup gg rfl, r⟩
  · exact hok.move fun b q => (setCell_others _ _ _ _ b (fun r => hgk (by rw [← r]; exact q))).trans (hb8 b (hkl b q).2 (fun t => hmkx b t q))
  · exact (hgr.os.trans e1).trans hmv.os
  · exact (hgr.tape.trans e2).trans hmv.tape
  · exact (hgr.output.trans e3).trans hmv.output
  · rw [size_setCell]; have := hgr.size; omega
  · intro b q n
    have n1 : b ≠ g := fun r => n (.inl r)
    have n2 : kv.ownBlock ≠ some b := fun r => n (.inr (.inl r))
    have n3 : mv.ownBlock ≠ some b := fun r => n (.inr (.inr r))
    exact (setCell_others _ _ _ _ b n1).trans ((hb8 b (by omega) n3).trans (hmv.blk b q (fun r => r.elim n1 n2)))
  · intro b q
    rcases hv b q with r | r
    · exact .inl r
    · exact .inr (by omega)
end Go.Proofs.YtmjdpfigkojolaaGreatDoor

