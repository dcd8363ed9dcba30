import Derived.Test.YteiajeeincapoacAddPc
namespace Go.Proofs.Yteiajeeincapoac
open Go.RowKit Go.Maps

def endP (p : Nat × Nat × List Int) : Nat := p.1 + p.2.1 + p.2.2.length

def growSt (st : St) (e : Nat) : St := if st.now.length < e then { st with now := resz st.now e, sizes := st.sizes ++ [e] } else st

def putSt (st : St) (p : Nat × Nat × List Int) : St := { growSt st (endP p) with now := paintL (growSt st (endP p)).now p }

def rnds (a0 a : Nat) : Nat := if a = a0 then 0 else (a + 511) / 512 + 1

def pcsTo (pcs : Nat → List (Nat × Nat × List Int)) (p : Nat × Nat × List Int) (a : Nat) : Nat → List (Nat × Nat × List Int) := fun s =>
  if s * 512 < a ∧ p.1 < (s + 1) * 512 ∧ p.1 < a then pcs s ++ [partP p (max p.1 (s * 512)) (min (endP p) ((s + 1) * 512))] else pcs s

def laySt (st : St) (p : Nat × Nat × List Int) (a : Nat) : St := { st with pcs := pcsTo st.pcs p a, ents := st.ents + rnds p.1 a }

theorem Rep.paintNow {w w' : World} {K : Nat → Nat} {g : Nat} {st : St} {vn vd : Value} {m : Nat} {vs : Value} {D : DataW Unit} {l : List Int} (h : RepV w K g st vn vd m vs D) (hob : OB w' 0 vn l) (hg : w.grownBy w' vn.ownBlock) :
    RepV w' K g { st with now := l } vn vd m vs D ∧ Fr K K w w' := by
  have u : Upd w w' K K (fun r => r = 2) := ⟨hg.size, fun _ _ => rfl, fun k k0 hS => hg.block k (h.sup k k0) (fun e => hS (h.kn k e.symm))⟩
  have hgne : some g ≠ vn.ownBlock := fun e => by have := h.kn g e.symm; rw [h.kg] at this; omega
  refine ⟨{ dc := (hg.block g h.dc.lt hgne).trans h.dc, kg := h.kg, hn := hob, kn := h.kn, hd := h.dur' u (by simp), kd := h.kd, hm := h.map' u (by simp), km := h.km, hs := h.sizes' u (by simp), ks := h.ks, rows := fun s => h.row' u (by simp) s (by omega), keys := h.keys, sup := fun k hk => Nat.lt_of_lt_of_le (h.sup k hk) hg.size }, ⟨hg.os, hg.tape, hg.output, hg.size, fun k hk k0 => hg.block k hk (fun e => by have := h.kn k e.symm; omega), fun _ _ => rfl⟩⟩

theorem growSt_now (st : St) (e : Nat) (h : st.cap ≤ 16777216) (hn : st.now.length ≤ st.cap) (he : e ≤ st.cap) : (growSt st e).now.length ≤ 16777216 := by
  unfold growSt
  split
  · simp only [length_resz]; omega
  · omega

theorem SB.alloc' {w : World} {v : Value} {l : List Int} (h : SB w v l) (o : Obj) : SB (w.alloc o) v l := h.below ((Below.refl _ _).alloc (Nat.le_refl _) _)

theorem part_any' {w : World} {vd : Value} {d : List Int} {at' z a b : Nat} (hvd : SB w vd d) (hz : at' + z + d.length ≤ 16777216) (ha : at' ≤ a) (hab : a < b) (hb : b ≤ at' + z + d.length) :
    Calls Try.prog 56 #[.agg #[.int .i64 at', .int .i64 z, vd], .int .i64 a, .int .i64 b] w fun e w' => ∃ ap np cp, e = .returned (.agg #[.int .i64 (partP (at', z, d) a b).1, .int .i64 (partP (at', z, d) a b).2.1, .slice ap np cp]) ∧
      SB w' (.slice ap np cp) (partP (at', z, d) a b).2.2 ∧ ((Value.slice ap np cp).ownBlock = none ∨ (Value.slice ap np cp).ownBlock = vd.ownBlock) ∧ Below w.heap.size w w' := by
  refine (part_any hvd hz ha hab hb).mono ?_
  rintro e w' ⟨vp, rfl, h1, h2, h3⟩
  obtain ⟨ap, cp, rfl, _⟩ := id h1
  exact ⟨ap, _, cp, rfl, h1, h2, h3⟩

theorem pcsTo_cur {pcs : Nat → List (Nat × Nat × List Int)} {p : Nat × Nat × List Int} {a e : Nat} (h3 : a = p.1 ∨ a % 512 = 0 ∨ a = e) (hlt : a < e) : pcsTo pcs p a (a / 512) = pcs (a / 512) := by
  unfold pcsTo
  rw [if_neg (by omega)]

theorem pcsTo_step {pcs : Nat → List (Nat × Nat × List Int)} {p : Nat × Nat × List Int} {a : Nat} (h1 : p.1 ≤ a) (h3 : a = p.1 ∨ a % 512 = 0 ∨ a = endP p) (hlt : a < endP p) :
    pcsTo pcs p (min ((a / 512 + 1) * 512) (endP p)) = fun t => if t = a / 512 then pcsTo pcs p a (a / 512) ++ [partP p a (min ((a / 512 + 1) * 512) (endP p))] else pcsTo pcs p a t := by
  funext t
  by_cases ht : t = a / 512
  · subst ht
    rw [pcsTo_cur h3 hlt]
    unfold pcsTo
    rw [if_pos (by omega), if_pos rfl]
    congr 2
    · rw [show max p.1 (a / 512 * 512) = a by omega, Nat.min_comm]
  · rw [if_neg ht]
    unfold pcsTo
    by_cases hcond : t * 512 < a ∧ p.1 < (t + 1) * 512 ∧ p.1 < a
    · rw [if_pos hcond, if_pos (by omega)]
    · rw [if_neg hcond, if_neg (by omega)]

theorem rnds_step {a0 a e : Nat} (h1 : a0 ≤ a) (h3 : a = a0 ∨ a % 512 = 0 ∨ a = e) (hlt : a < e) : rnds a0 a + 1 ≤ rnds a0 (min ((a / 512 + 1) * 512) e) := by
  unfold rnds
  rw [if_neg (show ¬ min ((a / 512 + 1) * 512) e = a0 by omega)]
  split <;> omega

theorem Rep.ents {w : World} {K : Nat → Nat} {g : Nat} {st : St} {n : Nat} (h : Rep w K g st) (hn : st.ents ≤ n) : Rep w K g { st with ents := n } := by
  obtain ⟨vn, vd, m, vs, D, h⟩ := h
  obtain ⟨k, hk, hm⟩ := h.hm
  exact ⟨vn, vd, m, vs, D, { dc := h.dc, kg := h.kg, hn := h.hn, kn := h.kn, hd := h.hd, kd := h.kd, hm := ⟨k, Nat.le_trans hk hn, hm⟩, km := h.km, hs := h.hs, ks := h.ks, rows := h.rows, keys := h.keys, sup := h.sup }⟩

theorem infoStretch : (Try.prog.info? 73).map (fun i => (i.zero, i.size, i.bytes)) = some (some (.agg #[.int .i64 0, .int .i64 0, .slice none 0 0]), 3, 40) := by kernel_rfl

theorem lay_fin {w4 w5 w6 w7 W0 : World} {K K' : Nat → Nat} {g : Nat} {st2 : St} {p : Nat × Nat × List Int} {a nx sc : Nat} {vn4 vd4 : Value} {m4 : Nat} {vs4 : Value} {D4 : DataW Unit} {ar : Option Addr} {nr cr : Nat} {cs0 : List Value} {n4 : Nat} {ap : Option Addr} {np cp gg cap6 : Nat} {vd : Value} {O : Obj}
    (hV : RepV w4 K' g (laySt st2 p a) vn4 vd4 m4 vs4 D4) (hF : Fr K K' W0 w4) (h1 : p.1 ≤ a) (h3 : a = p.1 ∨ a % 512 = 0 ∨ a = endP p) (hlt : a < endP p) (hsc : a / 512 = sc) (hnx : min ((a / 512 + 1) * 512) (endP p) = nx) (hsc40 : sc ≤ 40000)
    (hro : Role K' (.slice ar nr cr) (7 + sc)) (hpk : PcsOK w4 K' cs0 ((laySt st2 p a).pcs sc)) (hnr : ((laySt st2 p a).pcs sc).length = nr) (hb6 : Below w4.heap.size w4 w5)
    (hsp : SB w5 (.slice ap np cp) (partP p a nx).2.2) (hop : (Value.slice ap np cp).ownBlock = none ∨ (Value.slice ap np cp).ownBlock = vd.ownBlock) (hk6 : Role K' vd 6)
    (hown : w6.ownsRow 0 73 3 (.slice (some ⟨gg, 0, none⟩) (nr + 1) cap6) (nr + 1) (cs0 ++ [.int .i64 (partP p a nx).1, .int .i64 (partP p a nx).2.1, .slice ap np cp]))
    (hgrow : (w5.alloc O).grownBy w6 (Value.slice ar nr cr).ownBlock) (hat : (Value.slice ar nr cr).ownBlock = some gg ∨ gg = w5.heap.size + 1) (hgg : gg < w6.heap.size) (hn4 : n4 ≤ (laySt st2 p a).ents)
    (hm7 : w7.ownsMap Try.prog 3 tokR m4 (n4 + 1) (D4.put (.int .i64 sc) (.agg [.lit (.int .i64 gg), .lit (.int .i64 (nr + 1 : Nat)), .lit (.int .i64 cap6)]))) (hgr7 : w6.grownBy w7 (some m4)) :
    ∃ K'', Rep w7 K'' g (laySt st2 p nx) ∧ Fr K K'' W0 w7 := by
  subst hnr
  have hs5 := hb6.size
  obtain ⟨K7, h7, f7⟩ := hV.addPc (s := sc) hsc40 (v := .slice ar ((laySt st2 p a).pcs sc).length cr) (cs0 := cs0) hro hpk (p := partP p a nx) (vp := .slice ap np cp) (w2 := w5.alloc O) (hb6.alloc hs5 O) (hsp.alloc' O)
    (fun k hk => by
      rcases hop with e | e
      · rw [e] at hk; cases hk
      · exact hk6 k (by rw [← e]; exact hk)) hown hgrow (hat.elim Or.inl (fun e => Or.inr (by omega))) hgg hn4 hm7 hgr7
  refine ⟨K7, ?_, hF.trans f7⟩
  have hr := Rep.ents (n := st2.ents + rnds p.1 nx) ⟨_, _, _, _, _, h7⟩ (by
    have := rnds_step h1 h3 hlt
    rw [hnx] at this
    show st2.ents + rnds p.1 a + 1 ≤ _
    omega)
  have e : pcsTo st2.pcs p nx = fun t => if t = sc then (laySt st2 p a).pcs sc ++ [partP p a nx] else (laySt st2 p a).pcs t := by
    have := pcsTo_step (pcs := st2.pcs) h1 h3 hlt
    rw [hnx, hsc] at this
    exact this
  unfold laySt at hr ⊢
  rw [e]
  exact hr
end Go.Proofs.Yteiajeeincapoac
