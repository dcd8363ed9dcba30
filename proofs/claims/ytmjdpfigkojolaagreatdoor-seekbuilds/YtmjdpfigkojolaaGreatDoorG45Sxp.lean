import Derived.Test.YtmjdpfigkojolaaGreatDoorG41Val
import Derived.Test.YtmjdpfigkojolaaGreatDoorG42Wkp
import Derived.Test.YtmjdpfigkojolaaGreatDoorG44Sks
namespace Go.Proofs.YtmjdpfigkojolaaGreatDoor
open Go.RowKit Go.Maps
set_option maxRecDepth 20000
set_option linter.unusedVariables false
set_option linter.unusedSimpArgs false

/-! What the document's Build reads: the state of a text. -/

structure Pg22 (W : World) (B g : Nat) (ps : List Pc) (E : Int) (oo t : List Int) (a : Option Addr) (c : Nat) (aw : Option Addr) (cw : Nat) : Prop where
  lt : g < W.heap.size
  ge : B ≤ g
  out : W.cell? ⟨g, 2, none⟩ = some (.slice a (oo ++ t).length c)
  wh : W.cell? ⟨g, 3, none⟩ = some (.slice aw ps.length cw)
  err : W.cell? ⟨g, 6, none⟩ = some (.int .i64 E)
  ob : OB W B (.slice a (oo ++ t).length c) (oo ++ t)
  rp : ORp 36 6 W 0 (.slice aw ps.length cw) (ps.map pcq)
  non : E = 0 → t = []

theorem Pg22.keep {W W' : World} {B g : Nat} {ps : List Pc} {E : Int} {oo t : List Int} {a aw : Option Addr} {c cw : Nat} (h : Pg22 W B g ps E oo t a c aw cw) (hs : W.heap.size ≤ W'.heap.size) (hk : ∀ b, b < W.heap.size → W'.heap[b]? = W.heap[b]?) : Pg22 W' B g ps E oo t a c aw cw where
  lt := Nat.lt_of_lt_of_le h.lt hs
  ge := h.ge
  out := (World.cell?_of_block (hk g h.lt)).trans h.out
  wh := (World.cell?_of_block (hk g h.lt)).trans h.wh
  err := (World.cell?_of_block (hk g h.lt)).trans h.err
  ob := h.ob.move fun b hb => hk b (h.ob.lt b hb).2
  rp := h.rp.move fun b hb => hk b (h.rp.lt b hb).2
  non := h.non

theorem vprogS {w : World} {v : Value} {l : List Int} {L : Nat} (h : SB w v l) (hB : Byt l) (hl : l.length ≤ 33554432) (hL : L ≤ 16777216) (O : Xodr w) :
    Calls Tryz.prog 30 #[v, .int .i64 L] w fun e w' => ∃ g ps E q oo t a c aw cw, e = .returned (.pointer (some ⟨g, 0, none⟩)) ∧ Txt (unpack l) L 0 [] ps E q oo ∧ Pg22 w' w.heap.size g ps E oo t a c aw cw ∧ Below w.heap.size w w' := by
  refine (vprogress h hB hl hL O).mono ?_
  rintro e w' ⟨g, rfl, r, p, out, wh, us, dn, er, ys, HX, HV, hor⟩
  have hgu : w.heap.size ≤ g := by
    obtain ⟨Kt, Kr, Ko, Kw, a, c, aw, cw, HH, hk⟩ := HX
    have h0 : (tb g (stO r L a out.length c aw wh.length cw us dn er)).P w' Kt := HH.rep 0 _ rfl
    exact HH.up 0 _ rfl g h0.2.1
  obtain ⟨a, c, aw, cw, h1, h2, h3, h4⟩ := HX.own
  have hlt : g < w'.heap.size := (Array.getElem?_eq_some_iff.1 h1).1
  obtain ⟨-, -, k2, k3, -, -, k6, -⟩ := stO_cells h1
  rcases HV with ⟨pre, he, hw, ⟨hd, _⟩ | ⟨hd, hu, ht2⟩⟩ | ⟨he, ps2, q2, o2, ht2, hw, t, hto⟩
  · rcases hor with h | h
    · rw [hd] at h; cases h
    · exact absurd he h
  · subst hw
    subst he
    rw [List.length_map] at k3 h3
    exact ⟨g, pre, 0, p, out, [], a, c, aw, cw, rfl, ht2, ⟨hlt, hgu, by rw [List.append_nil]; exact k2, k3, k6, by rw [List.append_nil]; exact h2, h3.1, fun _ => rfl⟩, h4⟩
  · subst hw
    rw [List.length_map] at k3 h3
    rw [hto] at k2 h2
    exact ⟨g, ps2, er, q2, o2, t, a, c, aw, cw, rfl, ht2, ⟨hlt, hgu, k2, k3, k6, h2, h3.1, fun e => absurd e he⟩, h4⟩

theorem Pg22.at {W : World} {B g : Nat} {ps : List Pc} {E : Int} {oo t : List Int} {a aw : Option Addr} {c cw : Nat} (h : Pg22 W B g ps E oo t a c aw cw) {k : Nat} {x : Pc} (hk : ps[k]? = some x) : ∃ gw, aw = some ⟨gw, 0, none⟩ ∧ gw < W.heap.size ∧ ps.length ≤ cw ∧ cw ≤ 9223372036854775807 ∧
    W.cell? ⟨gw, k * 6, none⟩ = some (.int .i64 x.kind) ∧ W.cell? ⟨gw, k * 6 + 1, none⟩ = some (.bool x.fin) ∧ W.cell? ⟨gw, k * 6 + 2, none⟩ = some (.int .i64 x.at0) ∧ W.cell? ⟨gw, k * 6 + 3, none⟩ = some (.int .i64 x.at1) ∧ W.cell? ⟨gw, k * 6 + 4, none⟩ = some (.int .i64 x.to0) ∧ W.cell? ⟨gw, k * 6 + 5, none⟩ = some (.int .i64 x.to1) := by
  have hlt : k < ps.length := (List.getElem?_eq_some_iff.1 hk).1
  have hx : ps.getD k pc0 = x := by rw [List.getD_eq_getElem?_getD, hk]; rfl
  obtain ⟨gw, cc, e, h1, h2, r⟩ := h.rp.cells8 hlt
  rw [hx] at r
  have hgl : gw < W.heap.size := (h.rp.lt gw (by rw [e]; rfl)).2
  simp only [Value.slice.injEq, true_and] at e
  obtain ⟨rfl, rfl⟩ := e
  exact ⟨gw, rfl, hgl, h1, h2, r⟩
end Go.Proofs.YtmjdpfigkojolaaGreatDoor

