import Derived.Test.YteiajeeincapoacSync
namespace Go.Proofs.Yteiajeeincapoac
open Go.RowKit Go.Maps

theorem getD_resz (l : List Int) (n i : Nat) (h : i < n) : (resz l n).getD i 0 = l.getD i 0 := by
  unfold resz
  split
  · simp only [List.getD, List.getElem?_take, if_pos h]
  · by_cases hi : i < l.length
    · simp only [List.getD, List.getElem?_append_left hi]
    · simp only [List.getD]
      rw [List.getElem?_append_right (by omega), List.getElem?_replicate, if_pos (by omega), List.getElem?_eq_none (by omega)]
      rfl

def byteAt (p : Nat × Nat × List Int) (i : Nat) : Int := (List.replicate p.2.1 0 ++ p.2.2).getD (i - p.1) 0

def Cov (p : Nat × Nat × List Int) (i : Nat) : Prop := p.1 ≤ i ∧ i < endP p

instance (p : Nat × Nat × List Int) (i : Nat) : Decidable (Cov p i) := inferInstanceAs (Decidable (_ ∧ _))

theorem getD_paintL (l : List Int) (p : Nat × Nat × List Int) (i : Nat) (h : i < l.length) : (paintL l p).getD i 0 = if Cov p i then byteAt p i else l.getD i 0 := by
  unfold paintL
  split
  · rw [if_neg (by unfold Cov; omega)]
  · rename_i h1
    have e : ((List.replicate p.2.1 0 ++ p.2.2).take (l.length - p.1)).length = min (p.2.1 + p.2.2.length) (l.length - p.1) := by simp; omega
    rw [getD_splice _ _ _ _ (by rw [e]; omega) h, e]
    by_cases hc : Cov p i
    · rw [if_pos hc, if_pos (by unfold Cov endP at hc; omega)]
      unfold byteAt
      simp only [List.getD, List.getElem?_take]
      rw [if_pos (by unfold Cov at hc; omega)]
    · rw [if_neg hc, if_neg (by unfold Cov endP at hc; omega)]

def pcsAt (ps : List (Nat × Nat × List Int)) (i : Nat) (v : Int) : Int := ps.foldl (fun v p => if Cov p i then byteAt p i else v) v

theorem pcsAt_snoc (ps : List (Nat × Nat × List Int)) (p : Nat × Nat × List Int) (i : Nat) (v : Int) : pcsAt (ps ++ [p]) i v = if Cov p i then byteAt p i else pcsAt ps i v := by
  unfold pcsAt
  rw [List.foldl_append]
  rfl

theorem pcsAt_none : ∀ (ps : List (Nat × Nat × List Int)) (i : Nat) (v : Int), (∀ p ∈ ps, ¬ Cov p i) → pcsAt ps i v = v
  | [], _, _, _ => rfl
  | p :: ps, i, v, h => by
    unfold pcsAt
    rw [List.foldl_cons, if_neg (h p List.mem_cons_self)]
    exact pcsAt_none ps i v fun q hq => h q (List.mem_cons_of_mem _ hq)

theorem getD_foldl_paint : ∀ (ps : List (Nat × Nat × List Int)) (l : List Int) (i : Nat), i < l.length → (ps.foldl paintL l).getD i 0 = pcsAt ps i (l.getD i 0)
  | [], _, _, _ => rfl
  | p :: ps, l, i, h => by
    rw [List.foldl_cons, getD_foldl_paint ps _ i (by rw [length_paintL]; exact h), getD_paintL _ _ _ h]
    rfl

def SBd (st : St) : Prop := ∀ s, ∀ p ∈ st.pcs s, s * 512 ≤ p.1 ∧ endP p ≤ (s + 1) * 512

theorem getD_outTo {st : St} (hb : SBd st) (sec : List Int) (rest : Int) (size : Nat) (i : Nat) (hi : i < size) : ∀ k, (outTo st sec rest size k).getD i 0 = if i / 512 < k then pcsAt ((st.pcs (i / 512)).take (keptN (wantedN sec rest (i / 512)) (st.pcs (i / 512)).length)) i (st.dur.getD i 0) else st.dur.getD i 0
  | 0 => by rw [if_neg (by omega)]; exact getD_resz _ _ _ hi
  | k + 1 => by
    unfold outTo
    rw [getD_foldl_paint _ _ _ (by rw [length_outTo]; exact hi), getD_outTo hb sec rest size i hi k]
    by_cases h1 : i / 512 = k
    · rw [if_neg (by omega), if_pos (by omega), h1]
    · rw [pcsAt_none]
      · by_cases h2 : i / 512 < k
        · rw [if_pos h2, if_pos (by omega)]
        · rw [if_neg h2, if_neg (by omega)]
      · intro p hp hc
        have := hb k p (List.mem_of_mem_take hp)
        unfold Cov at hc
        omega

theorem getD_outcomeL {st : St} (hb : SBd st) (c : Int × List Int × Int) (i : Nat) (hi : i < behind st c.1) : (outcomeL st c).getD i 0 = pcsAt ((st.pcs (i / 512)).take (keptN (wantedN c.2.1 c.2.2 (i / 512)) (st.pcs (i / 512)).length)) i (st.dur.getD i 0) := by
  unfold outcomeL
  rw [getD_outTo hb _ _ _ _ hi, if_pos (by omega)]

theorem partP_fst (p : Nat × Nat × List Int) (a b : Nat) : (partP p a b).1 = a := by unfold partP; split <;> rfl

theorem endP_partP (p : Nat × Nat × List Int) (a b : Nat) (_h1 : p.1 ≤ a) (h2 : a ≤ b) (h3 : b ≤ endP p) : endP (partP p a b) = b := by
  unfold endP at h3 ⊢
  unfold partP
  split
  · simp; omega
  · simp; omega

theorem byteAt_partP (p : Nat × Nat × List Int) (a b i : Nat) (h1 : p.1 ≤ a) (h2 : a ≤ i) (h3 : i < b) (_h4 : b ≤ endP p) : byteAt (partP p a b) i = byteAt p i := by
  unfold byteAt
  rw [partP_fst]
  unfold partP
  split
  · rename_i hc
    simp only [List.append_nil, List.getD]
    rw [List.getElem?_replicate, if_pos (by omega), List.getElem?_append_left (by simp; omega), List.getElem?_replicate, if_pos (by omega)]
  · rename_i hc
    simp only [List.getD]
    by_cases hz : i < max a (p.1 + p.2.1)
    · rw [List.getElem?_append_left (by simp; omega), List.getElem?_replicate, if_pos (by omega), List.getElem?_append_left (by simp; omega), List.getElem?_replicate, if_pos (by omega)]
    · rw [List.getElem?_append_right (by simp; omega), List.getElem?_append_right (by simp; omega), List.getElem?_take, List.length_replicate, List.length_replicate, if_pos (by omega), List.getElem?_drop]
      congr 2
      omega

theorem pcsTo_end {pcs : Nat → List (Nat × Nat × List Int)} {p : Nat × Nat × List Int} (s : Nat) : pcsTo pcs p (endP p) s = if s * 512 < endP p ∧ p.1 < (s + 1) * 512 ∧ p.1 < endP p then pcs s ++ [partP p (max p.1 (s * 512)) (min (endP p) ((s + 1) * 512))] else pcs s := rfl

structure KInv (st : St) : Prop where
  bd : SBd st
  all : ∀ i, i < st.now.length → pcsAt (st.pcs (i / 512)) i (st.dur.getD i 0) = st.now.getD i 0
  last : st.sizes.getLastD st.dur.length = st.now.length

theorem KInv.dinv {st : St} (h : KInv st) : DInv st := by
  intro i hi he
  rw [getD_resz _ _ _ hi]
  have := h.all i hi
  rw [he] at this
  exact this

theorem KInv.new (l : List Int) (c : Nat) : KInv (stNew l c) := ⟨(fun s p hp => by cases hp), (fun i hi => rfl), rfl⟩

theorem growSt_fields (st : St) (e : Nat) : (growSt st e).dur = st.dur ∧ (growSt st e).pcs = st.pcs ∧ (growSt st e).cap = st.cap ∧ (growSt st e).ents = st.ents ∧ (growSt st e).calls = st.calls ∧ (growSt st e).left = st.left ∧ (growSt st e).dead = st.dead ∧ (growSt st e).fused = st.fused := by
  unfold growSt
  split <;> exact ⟨rfl, rfl, rfl, rfl, rfl, rfl, rfl, rfl⟩

theorem growSt_len (st : St) (e : Nat) : (growSt st e).now.length = max st.now.length e := by
  unfold growSt
  split
  · simp only [length_resz]; omega
  · omega

theorem growSt_at (st : St) (e i : Nat) (h : i < (growSt st e).now.length) : (growSt st e).now.getD i 0 = st.now.getD i 0 := by
  rw [growSt_len] at h
  unfold growSt
  split
  · exact getD_resz _ _ _ (by omega)
  · rfl

theorem growSt_last (st : St) (e : Nat) (h : st.sizes.getLastD st.dur.length = st.now.length) : (growSt st e).sizes.getLastD st.dur.length = (growSt st e).now.length := by
  rw [growSt_len]
  unfold growSt
  split
  · simp; omega
  · rw [h]; omega

theorem growSt_sizes (st : St) (e : Nat) : ∀ n ∈ (growSt st e).sizes, n ∈ st.sizes ∨ n = e := by
  unfold growSt
  split
  · intro n hn
    simpa using hn
  · exact fun n hn => .inl hn

theorem growSt_sizes_len (st : St) (e : Nat) : (growSt st e).sizes.length ≤ st.sizes.length + 1 := by
  unfold growSt
  split <;> simp

theorem layAll_len (st : St) (p : Nat × Nat × List Int) : (layAll st p).now.length = max st.now.length (endP p) := by
  show (paintL (growSt st (endP p)).now p).length = _
  rw [length_paintL, growSt_len]

theorem layAll_at (st : St) (p : Nat × Nat × List Int) (i : Nat) (h : i < max st.now.length (endP p)) : (layAll st p).now.getD i 0 = if Cov p i then byteAt p i else st.now.getD i 0 := by
  show (paintL (growSt st (endP p)).now p).getD i 0 = _
  rw [getD_paintL _ _ _ (by rw [growSt_len]; exact h), growSt_at _ _ _ (by rw [growSt_len]; exact h)]

theorem layAll_pcs (st : St) (p : Nat × Nat × List Int) (s : Nat) : (layAll st p).pcs s = pcsTo st.pcs p (endP p) s := by
  show pcsTo (growSt st (endP p)).pcs p (endP p) s = _
  rw [(growSt_fields st (endP p)).2.1]

theorem KInv.lay {st : St} (h : KInv st) (p : Nat × Nat × List Int) (hp : p.1 ≤ st.now.length) : KInv (layAll st p) := by
  have hf := growSt_fields st (endP p)
  refine ⟨?_, ?_, ?_⟩
  · intro s q hq
    rw [layAll_pcs, pcsTo_end] at hq
    split at hq
    · rename_i hc
      rcases List.mem_append.1 hq with hq | hq
      · exact h.bd s q hq
      · rw [List.mem_singleton.1 hq, partP_fst, endP_partP _ _ _ (by omega) (by omega) (by omega)]
        omega
    · exact h.bd s q hq
  · intro i hi
    rw [layAll_len] at hi
    rw [layAll_at _ _ _ hi, layAll_pcs, pcsTo_end]
    show pcsAt _ i ((growSt st (endP p)).dur.getD i 0) = _
    rw [hf.1]
    by_cases hc : Cov p i
    · have hc' := hc
      unfold Cov at hc'
      rw [if_pos hc, if_pos (by omega), pcsAt_snoc, if_pos, byteAt_partP _ _ _ _ (by omega) (by omega) (by omega) (by omega)]
      unfold Cov
      rw [partP_fst, endP_partP _ _ _ (by omega) (by omega) (by omega)]
      omega
    · have hc' := hc
      unfold Cov at hc'
      rw [if_neg hc]
      have hin : i < st.now.length := by omega
      split
      · rename_i hs
        rw [pcsAt_snoc, if_neg, h.all i hin]
        unfold Cov
        rw [partP_fst, endP_partP _ _ _ (by omega) (by omega) (by omega)]
        omega
      · exact h.all i hin
  · show (growSt st (endP p)).sizes.getLastD (growSt st (endP p)).dur.length = (layAll st p).now.length
    rw [hf.1, growSt_last _ _ h.last, growSt_len, layAll_len]

theorem KInv.spend {st : St} (h : KInv st) : KInv (spendSt st) := by
  obtain ⟨e1, e2, e3, e4, e5, e6⟩ := spend_same st
  exact ⟨by unfold SBd; rw [e4]; exact h.bd, by rw [e2, e3, e4]; exact h.all, by rw [e2, e3, e5]; exact h.last⟩

theorem PInv.spend {st : St} (h : PInv st) : PInv (spendSt st) := by
  obtain ⟨e1, e2, e3, e4, e5, e6⟩ := spend_same st
  exact ⟨by rw [e1]; exact h.cap, by rw [e1, e2]; exact h.now, by rw [e1, e3]; exact h.dur, by rw [e1, e5]; exact h.sizes, by unfold PBd; rw [e4]; exact h.bd⟩

theorem PInv.lay {st : St} (h : PInv st) (p : Nat × Nat × List Int) (he : endP p ≤ st.cap) : PInv (layAll st p) := by
  have hf := growSt_fields st (endP p)
  have hc := h.cap
  have hn := h.now
  have ec : (layAll st p).cap = st.cap := hf.2.2.1
  refine ⟨by rw [ec]; exact h.cap, by rw [ec, layAll_len]; omega, ?_, ?_, ?_⟩
  · show (growSt st (endP p)).dur.length ≤ _
    rw [ec, hf.1]; exact h.dur
  · intro n hn
    rw [ec]
    rcases growSt_sizes st (endP p) n hn with h1 | h1
    · exact h.sizes n h1
    · omega
  · intro s q hq
    rw [layAll_pcs, pcsTo_end] at hq
    split at hq
    · rcases List.mem_append.1 hq with hq | hq
      · exact h.bd s q hq
      · rw [List.mem_singleton.1 hq]
        have := endP_partP p (max p.1 (s * 512)) (min (endP p) ((s + 1) * 512)) (by omega) (by omega) (by omega)
        show endP (partP _ _ _) ≤ _
        rw [this]
        omega
    · exact h.bd s q hq

theorem rnds_le (a e : Nat) (h : e ≤ 16777216) : rnds a e ≤ 39999 := by
  unfold rnds
  split <;> omega

structure Small1 (st st' : St) : Prop where
  calls : st'.calls ≤ st.calls + 1
  left : st'.left ≤ st.left
  small : st'.calls ≤ 2000000000000 → Small st'

theorem Small.same {st : St} (h : Small st) : Small1 st st := ⟨by omega, Nat.le_refl _, fun _ => h⟩

theorem Small.spend {st : St} (h : Small st) : Small1 st (spendSt st) := by
  have h1 := h.calls
  have h2 := h.left
  have h3 := h.sizes
  have h4 := h.ents
  have h5 := h.pcs
  unfold spendSt
  split
  · split
    · exact ⟨by simp only []; omega, Nat.le_refl _, fun _ => ⟨h1, h2, h3, h4, h5⟩⟩
    · exact ⟨by simp only []; omega, by simp only []; omega, fun hc => ⟨hc, by simp only []; omega, by simp only []; omega, by simp only []; omega, fun s => Nat.le_succ_of_le (h5 s)⟩⟩
  · exact ⟨by simp only []; omega, by simp only []; omega, fun hc => ⟨hc, by simp only []; omega, by simp only []; omega, by simp only []; omega, fun s => Nat.le_succ_of_le (h5 s)⟩⟩

theorem spend_calls {st : St} (h : spendNo st = false) : (spendSt st).calls = st.calls + 1 := by
  unfold spendNo at h
  unfold spendSt
  split
  · rename_i hf
    rw [hf] at h
    split
    · rename_i h0; simp [h0] at h
    · rfl
  · rfl

theorem Small.lay {st : St} (h : Small st) (hs : spendNo st = false) (p : Nat × Nat × List Int) (he : endP p ≤ 16777216) : Small1 st (layAll (spendSt st) p) := by
  have hf := growSt_fields (spendSt st) (endP p)
  obtain ⟨e1, e2, e3, e4, e5, e6⟩ := spend_same st
  have hc : (layAll (spendSt st) p).calls = st.calls + 1 := (hf.2.2.2.2.1).trans (spend_calls hs)
  have hl : (layAll (spendSt st) p).left = (spendSt st).left := hf.2.2.2.2.2.1
  have hsp := h.spend
  refine ⟨by omega, by rw [hl]; exact hsp.left, fun hcc => ⟨hcc, ?_, ?_, ?_, ?_⟩⟩
  · rw [hl]; have := hsp.left; have := h.left; omega
  · have := growSt_sizes_len (spendSt st) (endP p)
    rw [e5] at this
    have h3 := h.sizes
    show (growSt (spendSt st) (endP p)).sizes.length ≤ _
    omega
  · show (growSt (spendSt st) (endP p)).ents + rnds p.1 (endP p) ≤ _
    rw [hf.2.2.2.1, e6, hc]
    have := rnds_le p.1 (endP p) he
    have h4 := h.ents
    omega
  · intro s
    rw [layAll_pcs, hc, pcsTo_end, e4]
    have h5 := h.pcs s
    split
    · simp; exact h5
    · omega

structure Inv (st : St) : Prop where
  p : PInv st
  s : Small st
  k : KInv st

structure Inv1 (st st' : St) : Prop where
  calls : st'.calls ≤ st.calls + 1
  cap : st'.cap = st.cap
  inv : st'.calls ≤ 2000000000000 → Inv st'

theorem Inv.same {st : St} (h : Inv st) : Inv1 st st := ⟨by omega, rfl, fun _ => h⟩

theorem Inv.spend {st : St} (h : Inv st) : Inv1 st (spendSt st) := ⟨h.s.spend.calls, (spend_same st).1, fun hc => ⟨h.p.spend, h.s.spend.small hc, h.k.spend⟩⟩

theorem layAll_cap (st : St) (p : Nat × Nat × List Int) : (layAll st p).cap = st.cap := (growSt_fields st (endP p)).2.2.1

theorem Inv.lay {st : St} (h : Inv st) (hs : spendNo st = false) (p : Nat × Nat × List Int) (hp : p.1 ≤ st.now.length) (he : endP p ≤ st.cap) : Inv1 st (layAll (spendSt st) p) := by
  obtain ⟨e1, e2, e3, e4, e5, e6⟩ := spend_same st
  have := h.p.cap
  exact ⟨(h.s.lay hs p (by omega)).calls, (layAll_cap _ _).trans e1, fun hc => ⟨h.p.spend.lay p (by rw [e1]; exact he), (h.s.lay hs p (by omega)).small hc, h.k.spend.lay p (by rw [e2]; exact hp)⟩⟩

theorem Inv.write {st : St} (h : Inv st) (off : Int) (data : List Int) : Inv1 st (writeSt st off data) := by
  unfold writeSt
  split
  · exact h.same
  · split
    · exact h.same
    · split
      · exact h.same
      · split
        · exact h.spend
        · split
          · exact h.spend
          · rename_i h1 h2 h3 h4 h5
            refine h.lay (by simpa using h4) _ ?_ ?_
            · show min _ _ ≤ _; omega
            · show min off.toNat st.now.length + (off.toNat - min off.toNat st.now.length) + data.length ≤ _
              omega

theorem Inv.trunc {st : St} (h : Inv st) (n : Int) : Inv1 st (truncSt st n) := by
  unfold truncSt
  split
  · exact h.same
  · split
    · exact h.same
    · split
      · exact h.same
      · split
        · exact h.spend
        · rename_i h1 h2 h3 h4
          have hs : spendNo st = false := by simpa using h4
          split
          · refine h.lay hs _ (Nat.le_refl _) ?_
            show st.now.length + (n.toNat - st.now.length) + 0 ≤ _
            omega
          · split
            · rename_i h5 h6
              have hk := h.k
              obtain ⟨e1, e2, e3, e4, e5, e6⟩ := spend_same st
              have hp := h.p.spend
              have hcl := spend_calls hs
              refine ⟨h.s.spend.calls, e1, fun hc => ⟨⟨hp.cap, ?_, hp.dur, ?_, hp.bd⟩, ⟨hc, ?_, ?_, ?_, ?_⟩, ⟨?_, ?_, ?_⟩⟩⟩
              · simp only [length_resz]; rw [e1]; omega
              · intro k hk
                rcases List.mem_append.1 hk with h7 | h7
                · simp only []; rw [e1]; exact h.p.sizes k h7
                · rw [List.mem_singleton.1 h7]; simp only []; rw [e1]; omega
              · have := h.s.spend.left; have := h.s.left; simp only []; omega
              · have := h.s.sizes; simp; omega
              · have := h.s.ents; simp only []; rw [e6]; omega
              · intro s; have := h.s.pcs s; simp only []; rw [e4]; omega
              · unfold SBd; simp only []; rw [e4]; exact hk.bd
              · intro i hi
                simp only [length_resz] at hi
                simp only []
                rw [e3, e4, getD_resz _ _ _ hi]
                exact hk.all i (by omega)
              · simp [length_resz]
            · exact h.spend

theorem Inv.sync {st : St} (h : Inv st) : Inv1 st (syncSt st) := by
  unfold syncSt
  split
  · exact h.same
  · split
    · exact h.spend
    · rename_i h1 h2
      have hs : spendNo st = false := by simpa using h2
      obtain ⟨e1, e2, e3, e4, e5, e6⟩ := spend_same st
      have hp := h.p.spend
      have hn := h.p.now
      refine ⟨h.s.spend.calls, e1, fun hc => ⟨⟨hp.cap, hp.now, ?_, ?_, ?_⟩, ⟨hc, ?_, ?_, ?_, ?_⟩, ⟨?_, ?_, ?_⟩⟩⟩
      · simp only []; rw [e1]; exact hn
      · intro n hn; cases hn
      · intro s p hp; cases hp
      · have := h.s.spend.left; have := h.s.left; simp only []; omega
      · simp
      · simp
      · simp
      · intro s p hp; cases hp
      · intro i hi
        simp only []
        rw [e2]
        rfl
      · simp only []; rw [e2]; rfl
end Go.Proofs.Yteiajeeincapoac
