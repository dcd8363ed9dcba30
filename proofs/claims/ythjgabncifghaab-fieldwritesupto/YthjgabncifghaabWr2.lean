import Derived.Test.YthjgabncifghaabWr
namespace Go.Proofs.Ythjgabncifghaab
open Go.RowKit Go.Maps
set_option maxRecDepth 20000

abbrev Trip := Value × Value × List Int

theorem row_cell {w : World} {a : Option Addr} {n c j : Nat} {vs : List Value} {x : Value} (h : w.ownsRow 0 28 1 (.slice a n c) vs.length vs) (hx : vs[j]? = some x) : ∃ g, a = some ⟨g, 0, none⟩ ∧ w.cell? ⟨g, j, none⟩ = some x := by
  have hj := (List.getElem?_eq_some_iff.1 hx).1
  rcases h.2 with ⟨_, h0⟩ | ⟨g8, c8, cur, hv, _⟩
  · omega
  · have hc := World.ownsRow.cells h (g := g8) (by rw [hv]; rfl) j _ hx
    rw [Addr.add_lit] at hc
    simp only [Value.slice.injEq] at hv
    exact ⟨g8, hv.1, by simpa using hc⟩

def pairs (ps : List Trip) : List (Value × List Int) := ps.map fun p => (p.1, p.2.2)

theorem pairs_get {ps : List Trip} {j : Nat} {q : Value × List Int} (h : (pairs ps)[j]? = some q) : ∃ p, ps[j]? = some p ∧ q = (p.1, p.2.2) := by
  unfold pairs at h
  rw [List.getElem?_map] at h
  obtain ⟨p, hp, e⟩ := Option.map_eq_some_iff.1 h
  exact ⟨p, hp, e.symm⟩

theorem Rnd.at {W w : World} {g r k n : Nat} {kv wv : Value} {K1 K2 K3 K4 : Nat → Nat} {s1 s2 : BSt} {ps : List Trip} (_ : Rnd W w g r k n kv wv K1 K2 K3 K4 s1 s2 ps) {j : Nat} {p : Trip} (hp : ps[j]? = some p) :
    (front K1 K2 K3 K4 g r s1 s2 kv wv ps ++ tail ps)[4 + 2 * j]? = some (roleOf p.1, 0, .list p.1 p.2.2) ∧ (front K1 K2 K3 K4 g r s1 s2 kv wv ps ++ tail ps)[4 + 2 * j + 1]? = some (roleOf p.2.1, 0, .list p.2.1 p.2.2) := by
  have e : (front K1 K2 K3 K4 g r s1 s2 kv wv ps).length = 4 := rfl
  rw [List.getElem?_append_right (by omega), List.getElem?_append_right (by omega), e, show 4 + 2 * j - 4 = 2 * j by omega, show 4 + 2 * j + 1 - 4 = 2 * j + 1 by omega]
  exact tail_get hp

theorem Rnd.kept {W w : World} {g r k n ck cw : Nat} {ak aw : Option Addr} {K1 K2 K3 K4 : Nat → Nat} {s1 s2 : BSt} {ps : List Trip} (h : Rnd W w g r k n (.slice ak n ck) (.slice aw n cw) K1 K2 K3 K4 s1 s2 ps) {j : Nat} {p : Trip} (hp : ps[j]? = some p) :
    (∃ gk, ak = some ⟨gk, 0, none⟩ ∧ w.cell? ⟨gk, j, none⟩ = some p.1) ∧ (∃ gw, aw = some ⟨gw, 0, none⟩ ∧ w.cell? ⟨gw, j, none⟩ = some p.2.1) ∧ OB w 0 p.1 p.2.2 ∧ OB w 0 p.2.1 p.2.2 := by
  have a := h.at hp
  refine ⟨row_cell (h.herd.rep 2 _ rfl).1 ?_, row_cell (h.herd.rep 3 _ rfl).1 ?_, (h.herd.rep _ _ a.1).1, (h.herd.rep _ _ a.2).1⟩
  · rw [List.getElem?_map, hp]; rfl
  · rw [List.getElem?_map, hp]; rfl

theorem Rnd.below {W w w' : World} {g r k n : Nat} {kv wv : Value} {K1 K2 K3 K4 : Nat → Nat} {s1 s2 : BSt} {ps : List Trip} (h : Rnd W w g r k n kv wv K1 K2 K3 K4 s1 s2 ps) (hb : Below w.heap.size w w') : Rnd W w' g r k n kv wv K1 K2 K3 K4 s1 s2 ps :=
  ⟨h.len, h.herd.below hb, h.eqv, h.short, h.few⟩

theorem Rnd.lists {W w : World} {g r k n ck cw : Nat} {ak aw : Option Addr} {K1 K2 K3 K4 : Nat → Nat} {s1 s2 : BSt} {ps : List Trip} (h : Rnd W w g r k n (.slice ak n ck) (.slice aw n cw) K1 K2 K3 K4 s1 s2 ps) (hn : n ≤ 1048576) :
    ∃ gR, Lists w 0 (pairs ps) gR ∧ (pairs ps ≠ [] → ak = some ⟨gR, 0, none⟩) := by
  have hl := h.len
  have hlen : ∀ p ∈ pairs ps, p.2.length ≤ 100000000000000 := by
    intro p hp
    unfold pairs at hp
    obtain ⟨q, hq, e⟩ := List.mem_map.1 hp
    subst e
    exact h.few q hq
  have hob : ∀ (j : Nat) (p : Value × List Int), (pairs ps)[j]? = some p → OB w 0 p.1 p.2 := by
    intro j p hp
    obtain ⟨q, hq, e⟩ := pairs_get hp
    subst e
    exact (h.kept hq).2.2.1
  have hsep : ∀ (i j : Nat) (p q : Value × List Int), (pairs ps)[i]? = some p → (pairs ps)[j]? = some q → i ≠ j → ∀ k, p.1.ownBlock = some k → q.1.ownBlock ≠ some k := by
    intro i j p q hp hq hne b hb hc
    obtain ⟨p', hp', e⟩ := pairs_get hp
    obtain ⟨q', hq', e'⟩ := pairs_get hq
    subst e e'
    exact roleOf_own hc (h.herd.sep _ _ _ _ (h.at hp').1 (h.at hq').1 (by omega) b (roleOf_own hb))
  have hfew : (pairs ps).length ≤ 1048576 := by unfold pairs; rw [List.length_map]; omega
  cases hps : ps with
  | nil => exact ⟨0, ⟨by rw [← hps]; exact hob, by rw [← hps]; exact hsep, (fun j p hp => by simp [pairs] at hp), (fun p hp => by simp [pairs] at hp), by rw [← hps]; exact hfew, by rw [← hps]; exact hlen, Nat.zero_le _⟩, fun e => absurd rfl e⟩
  | cons p0 rest =>
    obtain ⟨⟨gR, hgR, _⟩, _⟩ := h.kept (j := 0) (p := p0) (by rw [hps]; rfl)
    refine ⟨gR, ?_, fun _ => hgR⟩
    rw [← hps]
    refine ⟨hob, hsep, fun j p hp => ?_, fun p hp => ?_, hfew, hlen, Nat.zero_le _⟩
    · obtain ⟨q, hq, e⟩ := pairs_get hp
      subst e
      obtain ⟨⟨g', hg', hc⟩, _⟩ := h.kept hq
      rw [hgR] at hg'
      simp only [Option.some.injEq, Addr.mk.injEq] at hg'
      rw [hg'.1]
      exact hc
    · obtain ⟨j, hj⟩ := List.getElem?_of_mem hp
      obtain ⟨q, hq, e⟩ := pairs_get hj
      subst e
      intro hb
      have h3 : K3 gR ≠ 0 := (h.herd.rep 2 _ rfl).2.1 gR (by rw [hgR]; rfl)
      exact h3 (h.herd.sep _ 2 _ _ (h.at hq).1 rfl (by omega) gR (roleOf_own hb))

theorem Rnd.after {W w w' : World} {g r k n : Nat} {kv wv : Value} {K1 K2 K3 K4 : Nat → Nat} {s1 s2 : BSt} {ps : List Trip} (h : Rnd W w g r k n kv wv K1 K2 K3 K4 s1 s2 ps) (hk : Keep (pairs ps) w w') : Herd W w' [(K1, g, .b s1), (K2, r, .r s2)] := by
  have hout : ∀ b, (∀ (j : Nat) (p : Trip), ps[j]? = some p → roleOf p.1 b = 0) → ∀ p ∈ pairs ps, p.1.ownBlock ≠ some b := by
    intro b hb p hp e
    obtain ⟨j, hj⟩ := List.getElem?_of_mem hp
    obtain ⟨q, hq, e2⟩ := pairs_get hj
    subst e2
    exact roleOf_own e (hb j q hq)
  have hs := h.herd.bel.size
  have e0 : (front K1 K2 K3 K4 g r s1 s2 kv wv ps ++ tail ps)[0]? = some (K1, g, .b s1) := rfl
  have e1 : (front K1 K2 K3 K4 g r s1 s2 kv wv ps ++ tail ps)[1]? = some (K2, r, .r s2) := rfl
  have big : Herd W w [(K1, g, .b s1), (K2, r, .r s2)] := by
    have hin : ∀ (i : Nat) (d : Ent), ([(K1, g, .b s1), (K2, r, .r s2)] : List Ent)[i]? = some d → (front K1 K2 K3 K4 g r s1 s2 kv wv ps ++ tail ps)[i]? = some d ∧ i < 2 := by
      intro i d hd
      match i, hd with
      | 0, hd => exact ⟨hd, by omega⟩
      | 1, hd => exact ⟨hd, by omega⟩
      | i + 2, hd => simp at hd
    exact ⟨h.herd.bel, fun i d hd => h.herd.rep i d (hin i d hd).1, fun i d hd => h.herd.up i d (hin i d hd).1, fun i j d e hd he => h.herd.sep i j d e (hin i d hd).1 (hin j e he).1⟩
  have hfar : ∀ (i : Nat) (d : Ent), ([(K1, g, .b s1), (K2, r, .r s2)] : List Ent)[i]? = some d → ∀ b, d.1 b ≠ 0 → w'.heap[b]? = w.heap[b]? := by
    intro i d hd b hb
    refine hk.block b ((big.rep i d hd).sup b hb) (hout b fun j p hp => ?_)
    have hx : (front K1 K2 K3 K4 g r s1 s2 kv wv ps ++ tail ps)[i]? = some d ∧ i < 2 := by
      match i, hd with
      | 0, hd => exact ⟨hd, by omega⟩
      | 1, hd => exact ⟨hd, by omega⟩
      | i + 2, hd => simp at hd
    exact h.herd.sep i _ d _ hx.1 (h.at hp).1 (by omega) b hb
  refine ⟨⟨hk.os.trans h.herd.bel.os, hk.tape.trans h.herd.bel.tape, hk.output.trans h.herd.bel.output, Nat.le_trans hs hk.size, fun b hb => ?_⟩, fun i d hd => (big.rep i d hd).far hk.size (hfar i d hd), big.up, big.sep⟩
  refine (hk.block b (Nat.lt_of_lt_of_le hb hs) (hout b fun j p hp => ?_)).trans (h.herd.bel.block b hb)
  by_cases e : roleOf p.1 b = 0
  · exact e
  · have := h.herd.up _ _ (h.at hp).1 b e
    omega
end Go.Proofs.Ythjgabncifghaab
