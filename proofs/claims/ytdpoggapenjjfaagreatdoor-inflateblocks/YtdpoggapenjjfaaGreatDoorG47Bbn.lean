import Derived.Test.YtdpoggapenjjfaaGreatDoorG40Bkj
import Derived.Test.YtdpoggapenjjfaaGreatDoorG35Ibt
import Derived.Test.YtdpoggapenjjfaaGreatDoorG46Smn
namespace Go.Proofs.YtdpoggapenjjfaaGreatDoor
open Go.RowKit Go.Maps Go.Shelf
attribute [local go_sem] Oper.semAt_some
set_option maxRecDepth 20000
set_option linter.unusedVariables false

structure Sta (W : World) (g : Nat) (ps : List Pc) (oo t : List Int) (a : Option Addr) (c : Nat) (aw : Option Addr) (cw : Nat) : Prop where
  lt : g < W.heap.size
  out : W.cell? ⟨g, 2, none⟩ = some (.slice a (oo ++ t).length c)
  wh : W.cell? ⟨g, 3, none⟩ = some (.slice aw ps.length cw)
  ob : OB W 0 (.slice a (oo ++ t).length c) (oo ++ t)
  rp : ORp 36 6 W 0 (.slice aw ps.length cw) (ps.map pcq)

theorem Sta.keep {W W' : World} {g : Nat} {ps : List Pc} {oo t : List Int} {a aw : Option Addr} {c cw : Nat} (h : Sta W g ps oo t a c aw cw) (hs : W.heap.size ≤ W'.heap.size) (hk : ∀ b, b < W.heap.size → W'.heap[b]? = W.heap[b]?) : Sta W' g ps oo t a c aw cw where
  lt := Nat.lt_of_lt_of_le h.lt hs
  out := (World.cell?_of_block (hk g h.lt)).trans h.out
  wh := (World.cell?_of_block (hk g h.lt)).trans h.wh
  ob := h.ob.move fun b hb => hk b (h.ob.lt b hb).2
  rp := h.rp.move fun b hb => hk b (h.rp.lt b hb).2

def StaUp (W : World) (g : Nat) (ps : List Pc) (oo t : List Int) (a : Option Addr) (c : Nat) (aw : Option Addr) (cw : Nat) (B : Nat) : Prop :=
  Sta W g ps oo t a c aw cw ∧ ∀ k, (k = g ∨ (Value.slice a (oo ++ t).length c).ownBlock = some k ∨ (Value.slice aw ps.length cw).ownBlock = some k) → B ≤ k

theorem Sta.set {W W' : World} {g : Nat} {ps : List Pc} {oo t : List Int} {a aw : Option Addr} {c cw : Nat} (h : Sta W g ps oo t a c aw cw) (x : Nat) {o : Obj} (hw : Wrt x o W W') (hne : ∀ k, (k = g ∨ (Value.slice a (oo ++ t).length c).ownBlock = some k ∨ (Value.slice aw ps.length cw).ownBlock = some k) → k ≠ x) : Sta W' g ps oo t a c aw cw where
  lt := by rw [hw.size]; exact h.lt
  out := (World.cell?_of_block (hw.ne g (hne g (.inl rfl)))).trans h.out
  wh := (World.cell?_of_block (hw.ne g (hne g (.inl rfl)))).trans h.wh
  ob := h.ob.move fun b hb => hw.ne b (hne b (.inr (.inl hb)))
  rp := h.rp.move fun b hb => hw.ne b (hne b (.inr (.inr hb)))

theorem vsta_all {w : World} {v : Value} {l : List Int} {L : Nat} (h : SB w v l) (hB : Byt l) (hl : l.length ≤ 33554432) (hL : L ≤ 16777216) (O : Xodr w) :
    Calls Tryz.prog 7 #[v, .int .i64 L] w fun e w' => ∃ g ps E q oo t a c aw cw, e = .returned (.pointer (some ⟨g, 0, none⟩)) ∧ Txt (unpack l) L 0 [] ps E q oo ∧ StaUp w' g ps oo t a c aw cw w.heap.size ∧ Below w.heap.size w w' := by
  refine (vprogress h hB hl hL O).mono ?_
  rintro e w' ⟨g, rfl, r, p, out, wh, us, dn, er, ys, HX, HV, hor⟩
  have hgu : w.heap.size ≤ g := by
    obtain ⟨Kt, Kr, Ko, Kw, a, c, aw, cw, HH, hk⟩ := HX
    have h0 : (tb g (stO r L a out.length c aw wh.length cw us dn er)).P w' Kt := HH.rep 0 _ rfl
    exact HH.up 0 _ rfl g h0.2.1
  obtain ⟨a, c, aw, cw, h1, h2, h3, h4⟩ := HX.own
  have hlt : g < w'.heap.size := (Array.getElem?_eq_some_iff.1 h1).1
  obtain ⟨-, -, k2, k3, -⟩ := stO_cells h1
  rcases HV with ⟨pre, he, hw, ⟨hd, _⟩ | ⟨hd, hu, ht2⟩⟩ | ⟨he, ps2, q2, o2, ht2, hw, t, hto⟩
  · rcases hor with h | h
    · rw [hd] at h; cases h
    · exact absurd he h
  · subst hw
    rw [List.length_map] at k3 h3
    refine ⟨g, pre, 0, p, out, [], a, c, aw, cw, rfl, ht2, ⟨⟨hlt, by rw [List.append_nil]; exact k2, k3, ?_, h3.1⟩, fun k hk => ?_⟩, h4⟩
    · rw [List.append_nil]
      exact h2.base (Nat.zero_le _)
    · rcases hk with rfl | hk | hk
      · exact hgu
      · rw [List.append_nil] at hk; exact (h2.lt k hk).1
      · exact h3.2 k hk
  · subst hw
    rw [List.length_map] at k3 h3
    rw [hto] at k2 h2
    refine ⟨g, ps2, er, q2, o2, t, a, c, aw, cw, rfl, ht2, ⟨⟨hlt, k2, k3, h2.base (Nat.zero_le _), h3.1⟩, fun k hk => ?_⟩, h4⟩
    rcases hk with rfl | hk | hk
    · exact hgu
    · exact (h2.lt k hk).1
    · exact h3.2 k hk

theorem cell8 {w : World} {c : Nat} {A : Array Value} {t : TypeId} {k : Nat × Nat} (h : w.heap[c]? = some (.cells A t k)) (i : Nat) {u : Value} (hu : A[i]? = some u) : w.cell? ⟨c, i, none⟩ = some u := by
  unfold World.cell?; rw [h]; exact hu

theorem sta_zero {W : World} {g : Nat} {x y z u v : Value} (h : W.heap[g]? = some (.cells #[x, y, .slice none 0 0, .slice none 0 0, z, u, v] 32 (0, 0))) : Sta W g [] [] [] none 0 none 0 where
  lt := (Array.getElem?_eq_some_iff.1 h).1
  out := cell8 h 2 rfl
  wh := cell8 h 3 rfl
  ob := World.ownsRow_nil _ _ _ _
  rp := ORp.nil _ _ _ _

theorem Sta.at {W : World} {g : Nat} {ps : List Pc} {oo t : List Int} {a aw : Option Addr} {c cw : Nat} (h : Sta W g ps oo t a c aw cw) {k : Nat} {x : Pc} (hk : ps[k]? = some x) : ∃ gw, aw = some ⟨gw, 0, none⟩ ∧ ps.length ≤ cw ∧ cw ≤ 9223372036854775807 ∧
    W.cell? ⟨gw, k * 6, none⟩ = some (.int .i64 x.kind) ∧ W.cell? ⟨gw, k * 6 + 1, none⟩ = some (.bool x.fin) ∧ W.cell? ⟨gw, k * 6 + 2, none⟩ = some (.int .i64 x.at0) ∧ W.cell? ⟨gw, k * 6 + 3, none⟩ = some (.int .i64 x.at1) ∧ W.cell? ⟨gw, k * 6 + 4, none⟩ = some (.int .i64 x.to0) ∧ W.cell? ⟨gw, k * 6 + 5, none⟩ = some (.int .i64 x.to1) := by
  have hlt : k < ps.length := (List.getElem?_eq_some_iff.1 hk).1
  have hx : ps.getD k pc0 = x := by rw [List.getD_eq_getElem?_getD, hk]; rfl
  obtain ⟨gw, cc, e, h1, h2, r⟩ := h.rp.cells8 hlt
  rw [hx] at r
  simp only [Value.slice.injEq, true_and] at e
  obtain ⟨rfl, rfl⟩ := e
  exact ⟨gw, rfl, h1, h2, r⟩

theorem Sta.part {W : World} {g : Nat} {ps : List Pc} {oo t : List Int} {a aw : Option Addr} {c cw : Nat} (h : Sta W g ps oo t a c aw cw) {n0 n1 : Nat} (h0 : n0 ≤ n1) (h1 : n1 ≤ oo.length) (sp : Option Addr) (hsp : (if c = n0 then a else a.map fun x => x.add n0) = sp) :
    SB W (.slice sp (n1 - n0) (c - n0)) ((oo.drop n0).take (n1 - n0)) := by
  have hs := h.ob.sb
  have hl : (oo ++ t).length = oo.length + t.length := List.length_append
  obtain ⟨a', c', e, q1, q2, q3, q4⟩ := hs
  simp only [Value.slice.injEq] at e
  obtain ⟨rfl, -, rfl⟩ := e
  have hlen : ((oo.drop n0).take (n1 - n0)).length = n1 - n0 := by rw [List.length_take, List.length_drop]; omega
  refine ⟨sp, c - n0, by rw [hlen], by rw [hlen]; omega, by omega, fun e => ?_, fun y hy i hi => ?_⟩
  · subst hsp
    by_cases hc : c = n0
    · omega
    · rw [if_neg hc] at e
      cases a with
      | none => have := q3 rfl; omega
      | some x => simp at e
  · rw [hlen] at hi
    have hc : c ≠ n0 := by omega
    rw [if_neg hc] at hsp
    cases a with
    | none => have := q3 rfl; omega
    | some x =>
      have hxs := q4 x rfl (n0 + i) (by omega)
      obtain ⟨b, o, rfl⟩ := addr_lit (q4 x rfl 0 (by omega))
      simp only [Option.map_some, Addr.add_lit] at hsp
      subst hsp
      cases hy
      rw [Addr.add_lit] at hxs ⊢
      rw [Nat.add_assoc, hxs]
      simp only [List.getD, List.getElem?_take, List.getElem?_drop]
      rw [if_pos hi, List.getElem?_append_left (by omega)]
end Go.Proofs.YtdpoggapenjjfaaGreatDoor

