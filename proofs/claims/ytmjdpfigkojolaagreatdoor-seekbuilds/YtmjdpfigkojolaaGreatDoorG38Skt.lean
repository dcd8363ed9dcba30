import Derived.Test.YtmjdpfigkojolaaGreatDoorG37Skv
namespace Go.Proofs.YtmjdpfigkojolaaGreatDoor
open Go.RowKit Go.Maps Go.Shelf
set_option maxRecDepth 20000
set_option linter.unusedVariables false
set_option linter.unusedSimpArgs false

variable {ps : List Pc} {o0 : List Int} {step : Int} {wb : World} {d gI gP gW k : Nat} {S : Nat → Prop} {o : Obj} {W : World}

theorem SkJ.mid {x : Pc} {u mv kv vt : Value} {V w6 : World} {c : Nat} (h : SkJ ps o0 step wb d gI gP gW k S o V) (hI : gI < d) (hP : gP < d) (hW : gW < d) (n1 : gI ≠ gP) (n2 : gI ≠ gW) (hS : ∀ b, S b → b < V.heap.size) (hu : ∀ b, u.ownBlock = some b → S b)
    (e1 : Ix V (d + 2) gI 0 (runM step o0 (ps.take k)).1 (runM step o0 (ps.take k)).2 mv kv) (e2 : V.heap[gP]? = some (.cells #[vt] 22 (0, 0))) (e3 : OB V (d + 2) vt ((ps.take k).flatMap (sgb o0))) (e4 : Off3 S mv kv vt) (ho : OB V 0 u (sgb o0 x))
    (hc : V.heap[c]? = some (.cells (pcq x) 36 (0, 0))) (hcd : d + 1 < c) (hck : kv.ownBlock ≠ some c) (hcm : mv.ownBlock ≠ some c)
    (m1 : Mvb (fun b => b = gI ∨ kv.ownBlock = some b ∨ mv.ownBlock = some b) V w6) :
    w6.heap[gP]? = some (.cells #[vt] 22 (0, 0)) ∧ OB w6 (d + 2) vt ((ps.take k).flatMap (sgb o0)) ∧ OB w6 0 u (sgb o0 x) ∧ w6.heap[c]? = some (.cells (pcq x) 36 (0, 0)) ∧ w6.heap[gW]? = some (.cells #[.bool (finK ps k)] 4 (0, 0)) ∧ d + 2 ≤ w6.heap.size := by
  have hz := h.size
  have z1 := m1.size
  have lk := e1.kept.lt
  have lm := e1.marks.lt
  have hcl := (Array.getElem?_eq_some_iff.1 hc).1
  have k1 : ∀ b, b < V.heap.size → b ≠ gI → kv.ownBlock ≠ some b → mv.ownBlock ≠ some b → w6.heap[b]? = V.heap[b]? := fun b q1 q2 q3 q4 => m1.blk b q1 (fun e => by rcases e with e | e | e; exact q2 e; exact q3 e; exact q4 e)
  have low : ∀ b, b < d + 2 → b ≠ gI → w6.heap[b]? = V.heap[b]? := fun b q1 q2 => k1 b (by omega) q2 (fun e => by have := (lk b e).1; omega) (fun e => by have := (lm b e).1; omega)
  refine ⟨(low _ (by omega) (by omega)).trans e2, e3.move fun b hb => k1 b (e3.lt b hb).2 (by have := (e3.lt b hb).1; omega) (fun e => e4.kt b e hb) (fun e => e4.mt b e hb), ho.move fun b hb => ?_, (k1 c hcl (by omega) hck hcm).trans hc, (low _ (by omega) (by omega)).trans h.whl, by omega⟩
  have q := hu b hb
  have := h.sge b q
  exact k1 b (hS b q) (by omega) (fun e => e4.k b e q) (fun e => e4.m b e q)

theorem SkJ.fin {x : Pc} {u mv kv vt mv' kv' vt' : Value} {V w6 w7 : World} {c : Nat} (h : SkJ ps o0 step wb d gI gP gW k S o V) (hI : gI < d) (hP : gP < d) (hW : gW < d) (n1 : gI ≠ gP) (n2 : gI ≠ gW) (n3 : gP ≠ gW) (hS : ∀ b, S b → b < V.heap.size) (hk : ps[k]? = some x)
    (e1 : Ix V (d + 2) gI 0 (runM step o0 (ps.take k)).1 (runM step o0 (ps.take k)).2 mv kv) (e3 : OB V (d + 2) vt ((ps.take k).flatMap (sgb o0))) (e4 : Off3 S mv kv vt)
    (m1 : Mvb (fun b => b = gI ∨ kv.ownBlock = some b ∨ mv.ownBlock = some b) V w6) (a1 : Ix w6 (d + 2) gI 0 (stepM step o0 (runM step o0 (ps.take k)) x).1 (stepM step o0 (runM step o0 (ps.take k)) x).2 mv' kv')
    (a2 : ∀ b, kv'.ownBlock = some b → kv.ownBlock = some b ∨ V.heap.size ≤ b) (a3 : ∀ b, mv'.ownBlock = some b → mv.ownBlock = some b ∨ V.heap.size ≤ b) (a4 : ∀ b, mv'.ownBlock = some b → kv'.ownBlock ≠ some b)
    (q1 : w6.heap[gP]? = some (.cells #[vt] 22 (0, 0))) (q2 : OB w6 (d + 2) vt ((ps.take k).flatMap (sgb o0))) (q4 : w6.heap[c]? = some (.cells (pcq x) 36 (0, 0))) (q5 : w6.heap[gW]? = some (.cells #[.bool (finK ps k)] 4 (0, 0))) (q6 : d + 2 ≤ w6.heap.size) (hcd : d + 1 < c) (hct : vt.ownBlock ≠ some c)
    (ho : OB w7 (d + 2) vt' ((ps.take k).flatMap (sgb o0) ++ sgb o0 x)) (hgr : Grew w6 w7 vt vt') :
    w7.heap[gP]? = some (.cells #[vt] 22 (0, 0)) ∧ (w7.setCell ⟨gP, 0, none⟩ vt').heap[c]? = some (.cells (pcq x) 36 (0, 0)) ∧ (w7.setCell ⟨gP, 0, none⟩ vt').heap[gW]? = some (.cells #[.bool (finK ps k)] 4 (0, 0)) ∧
    SkJ ps o0 step wb d gI gP gW (k + 1) (fun b => S b ∧ u.ownBlock ≠ some b) o ((w7.setCell ⟨gP, 0, none⟩ vt').setCell ⟨gW, 0, none⟩ (.bool x.fin)) ∧ (∀ b, S b → u.ownBlock ≠ some b → ((w7.setCell ⟨gP, 0, none⟩ vt').setCell ⟨gW, 0, none⟩ (.bool x.fin)).heap[b]? = V.heap[b]?) ∧ V.heap.size ≤ ((w7.setCell ⟨gP, 0, none⟩ vt').setCell ⟨gW, 0, none⟩ (.bool x.fin)).heap.size := by
  have lt := q2.lt
  have hcl := (Array.getElem?_eq_some_iff.1 q4).1
  have hm2 : Mvb (fun b => vt.ownBlock = some b) w6 w7 ∧ ∀ b, vt'.ownBlock = some b → vt.ownBlock = some b ∨ w6.heap.size ≤ b := by
    rcases hgr with ⟨e, rfl⟩ | ⟨e, hb⟩ | ⟨e, hs, hg⟩
    · exact ⟨⟨rfl, rfl, rfl, Nat.le_refl _, fun _ _ _ => rfl⟩, fun b hb => .inl (by rw [← e]; exact hb)⟩
    · exact ⟨Mvb.of hb, fun b hb2 => .inr (by rw [e] at hb2; cases hb2; exact Nat.le_refl _)⟩
    · exact ⟨⟨hg.os, hg.tape, hg.output, by omega, fun b hb hn => hg.block b hb (fun q => hn q.symm)⟩, fun b hb => .inl (by rw [← e]; exact hb)⟩
  have r1 : w7.heap[gP]? = some (.cells #[vt] 22 (0, 0)) := (hm2.1.blk _ (by omega) (fun e => by have := (lt _ e).1; omega)).trans q1
  have hw := wrt_set r1 vt'
  have r2 : (w7.setCell ⟨gP, 0, none⟩ vt').heap[gW]? = some (.cells #[.bool (finK ps k)] 4 (0, 0)) := (hw.ne _ (by omega)).trans ((hm2.1.blk _ (by omega) (fun e => by have := (lt _ e).1; omega)).trans q5)
  refine ⟨r1, (hw.ne _ (by omega)).trans ((hm2.1.blk _ hcl (fun e => hct e)).trans q4), r2, ?_⟩
  exact h.next (u := u) hI hP hW n1 n2 n3 hS hk e1 e3 e4 m1 a1 a2 a3 a4 ((hm2.1.mono fun b _ e => .inr e).trans (hw.mvb (.inl rfl))) hw.at (ho.move fun b hb => hw.ne b (by have := (ho.lt b hb).1; omega)) hm2.2 (wrt_set r2 (.bool x.fin))
end Go.Proofs.YtmjdpfigkojolaaGreatDoor

