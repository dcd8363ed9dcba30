import Derived.Test.YteiajeeincapoacRTrunc
import Derived.Test.YteiajeeincapoacFuse
namespace Go.Proofs.Yteiajeeincapoac
open Go.RowKit Go.Maps
set_option linter.unusedSimpArgs false

def flat (p : Nat × Nat × List Int) : Nat × List Int := (p.1, List.replicate p.2.1 0 ++ p.2.2)

structure Sim (st : St) (rs : RSt) : Prop where
  room : rs.room = st.cap
  now : rs.now = st.now
  dur : rs.dur = st.dur
  sizes : rs.sizes = st.sizes
  calls : rs.calls = st.calls
  live : rs.live = !st.dead
  fuse : rs.fuse = if st.fused then (st.left : Int) else -1
  pcs : ∀ s, (rs.rps.filter (fun p => p.1 == s)).map (fun p => p.2) = (st.pcs s).map flat

theorem flat_part (p : Nat × Nat × List Int) (a b : Nat) (h1 : p.1 ≤ a) (h2 : a ≤ b) (h3 : b ≤ endP p) : flat (partP p a b) = (a, ((List.replicate p.2.1 0 ++ p.2.2).drop (a - p.1)).take (b - a)) := by
  unfold flat
  rw [partP_fst]
  congr 1
  have hl : (List.replicate (partP p a b).2.1 (0 : Int) ++ (partP p a b).2.2).length = b - a := by
    have := endP_partP p a b h1 h2 h3
    unfold endP at this
    rw [partP_fst] at this
    simp
    omega
  have hl2 : (((List.replicate p.2.1 (0 : Int) ++ p.2.2).drop (a - p.1)).take (b - a)).length = b - a := by
    unfold endP at h3
    simp
    omega
  refine list_ext (hl.trans hl2.symm) fun i hi => ?_
  rw [hl] at hi
  have := byteAt_partP p a b (a + i) h1 (by omega) (by omega) h3
  unfold byteAt at this
  rw [partP_fst, show a + i - a = i by omega] at this
  rw [this]
  simp only [List.getD]
  rw [List.getElem?_take, if_pos hi, List.getElem?_drop, show a - p.1 + i = a + i - p.1 by omega]

theorem Sim.spend {st : St} {rs : RSt} (h : Sim st rs) : Sim (spendSt st) (carrySt rs) ∧ (spendNo st = true ↔ rs.fuse = 0) := by
  have hf := h.fuse
  have hiff : spendNo st = true ↔ rs.fuse = 0 := by
    unfold spendNo
    cases hfd : st.fused
    · rw [hfd] at hf
      simp at hf
      rw [hf]
      simp
    · rw [hfd] at hf
      simp at hf
      rw [hf]
      simp
  refine ⟨?_, hiff⟩
  obtain ⟨e1, e2, e3, e4, e5, e6⟩ := spend_same st
  obtain ⟨c1, c2, c3, c4, c5⟩ := carry_same rs
  refine ⟨by rw [c1, e1]; exact h.room, by rw [c2, e2]; exact h.now, by rw [c3, e3]; exact h.dur, by rw [c5, e5]; exact h.sizes, ?_, ?_, ?_, by rw [c4, e4]; exact h.pcs⟩
  all_goals
    unfold carrySt spendSt
    cases hfd : st.fused
    · rw [hfd] at hf
      simp at hf
      rw [if_neg (by omega)]
      simp [h.calls, h.live, hf, hfd]
    · rw [hfd] at hf
      simp at hf
      by_cases h0 : st.left = 0
      · rw [if_pos (by omega), if_pos rfl, if_pos h0]
        simp [h.calls, h.live, hf, hfd]
      · rw [if_neg (by omega), if_pos rfl, if_neg h0]
        simp [h.calls, h.live, hf, hfd]
        try omega


theorem growSt_resz (st : St) (e : Nat) : (growSt st e).now = resz st.now (max st.now.length e) := by
  unfold growSt
  split
  · rename_i h
    rw [show max st.now.length e = e by omega]
  · rename_i h
    rw [show max st.now.length e = st.now.length by omega, resz_self]

theorem growSt_sz (st : St) (e : Nat) : (growSt st e).sizes = if st.now.length < e then st.sizes ++ [e] else st.sizes := by
  unfold growSt
  split <;> rfl

theorem Sim.lay {st : St} {rs : RSt} (h : Sim st rs) (p : Nat × Nat × List Int) (qs : List (Nat × Nat × List Int)) (hp : p.1 ≤ st.now.length) (h0 : 0 < (List.replicate p.2.1 (0 : Int) ++ p.2.2).length)
    (hq : RP p.1 (List.replicate p.2.1 0 ++ p.2.2) (List.replicate p.2.1 (0 : Int) ++ p.2.2).length qs) : Sim (layAll st p) (layR rs p.1 (List.replicate p.2.1 0 ++ p.2.2) qs) := by
  have he : endP p = p.1 + (List.replicate p.2.1 (0 : Int) ++ p.2.2).length := by unfold endP; simp; omega
  obtain ⟨f1, f2, f3, f4, f5, f6, f7, f8⟩ := growSt_fields st (endP p)
  refine ⟨?_, ?_, ?_, ?_, ?_, ?_, ?_, fun s => ?_⟩
  · exact h.room.trans f3.symm
  · show splice (resz rs.now (max rs.now.length (p.1 + _))) p.1 _ = paintL (growSt st (endP p)).now p
    rw [growSt_resz, h.now, he]
    unfold paintL
    rw [length_resz, if_neg (by omega), List.take_of_length_le (by omega)]
  · exact h.dur.trans f1.symm
  · show (if rs.now.length < p.1 + _ then rs.sizes ++ [p.1 + _] else rs.sizes) = (growSt st (endP p)).sizes
    rw [growSt_sz, h.now, h.sizes, he]
  · exact h.calls.trans f5.symm
  · show rs.live = !(growSt st (endP p)).dead
    rw [f7]; exact h.live
  · show rs.fuse = if (growSt st (endP p)).fused then ((growSt st (endP p)).left : Int) else -1
    rw [f6, f8]; exact h.fuse
  · show ((rs.rps ++ qs).filter (fun p => p.1 == s)).map (fun p => p.2) = ((layAll st p).pcs s).map flat
    rw [List.filter_append, List.map_append, h.pcs s, hq s, layAll_pcs, pcsTo_end, ← he]
    by_cases hc : s * 512 < endP p ∧ p.1 < (s + 1) * 512 ∧ p.1 < endP p
    · rw [if_pos hc, if_pos ⟨hc.1, hc.2.1, h0⟩, List.map_append]
      congr 1
      simp only [List.map_cons, List.map_nil]
      rw [flat_part p _ _ (by omega) (by omega) (by omega)]
      unfold pcOf
      simp only [← he]
    · rw [if_neg hc, if_neg (by rintro ⟨a, b, _⟩; exact hc ⟨a, b, by omega⟩)]
      simp

theorem Sim.bad {st : St} {rs : RSt} (h : Sim st rs) : (rs.live = false ↔ st.dead = true) := by
  rw [h.live]; simp

theorem Sim.write {st : St} {rs rs' : RSt} (h : Sim st rs) (off : Int) (data : List Int) (hr : RWr rs off data rs') : Sim (writeSt st off data) rs' ∧ rwErr rs off data.length = writeErr st off data.length := by
  have hb := h.bad
  obtain ⟨hs, hf⟩ := h.spend
  constructor
  · unfold RWr at hr
    unfold writeSt
    by_cases hd : st.dead = true
    · rw [if_pos (.inl (hb.2 hd))] at hr
      rw [if_pos hd, hr]; exact h
    · have hd' : ¬ rs.live = false := fun e => hd (hb.1 e)
      rw [if_neg hd]
      by_cases h0 : off < 0
      · rw [if_pos (.inr (.inl h0))] at hr
        rw [if_pos h0, hr]; exact h
      · rw [if_neg h0]
        by_cases h1 : (st.cap : Int) < off + data.length
        · rw [if_pos (.inr (.inr (by rw [h.room]; exact h1)))] at hr
          rw [if_pos h1, hr]; exact h
        · rw [if_neg h1]
          rw [if_neg (by rintro (e | e | e); exact hd' e; exact h0 e; rw [h.room] at e; exact h1 e)] at hr
          by_cases h2 : spendNo st = true
          · rw [if_pos (.inl (hf.1 h2))] at hr
            rw [if_pos h2, hr]; exact hs
          · rw [if_neg h2]
            have h2' : ¬ rs.fuse = 0 := fun e => h2 (hf.2 e)
            by_cases h3 : data.length = 0
            · rw [if_pos (.inr h3)] at hr
              rw [if_pos h3, hr]; exact hs
            · rw [if_neg (by rintro (e | e); exact h2' e; exact h3 e)] at hr
              rw [if_neg h3]
              obtain ⟨qs, q1, _, q3⟩ := hr
              rw [q3]
              rw [h.now] at q1 ⊢
              have e2 := (spend_same st).2.1
              have ez : off.toNat - min off.toNat st.now.length = off.toNat - st.now.length := by omega
              have := hs.lay (putP st off.toNat data) qs (by rw [e2]; show min _ _ ≤ _; omega) (by show 0 < (List.replicate (off.toNat - min off.toNat st.now.length) (0 : Int) ++ data).length; simp; omega) (by show RP (min off.toNat st.now.length) (List.replicate (off.toNat - min off.toNat st.now.length) 0 ++ data) (List.replicate (off.toNat - min off.toNat st.now.length) (0 : Int) ++ data).length qs; rw [ez]; exact q1)
              unfold putP at this ⊢
              simp only [ez] at this ⊢
              exact this
  · unfold rwErr writeErr
    rw [h.room]
    by_cases hd : st.dead = true
    · rw [if_pos (hb.2 hd), if_pos hd]
    · rw [if_neg (fun e => hd (hb.1 e)), if_neg hd]
      by_cases h0 : off < 0
      · rw [if_pos h0, if_pos h0]
      · rw [if_neg h0, if_neg h0]
        by_cases h1 : (st.cap : Int) < off + data.length
        · rw [if_pos h1, if_pos h1]
        · rw [if_neg h1, if_neg h1]
          by_cases h2 : spendNo st = true
          · rw [if_pos (hf.1 h2), if_pos h2]
          · rw [if_neg (fun e => h2 (hf.2 e)), if_neg h2]


theorem Sim.trunc {st : St} {rs rs' : RSt} (h : Sim st rs) (n : Int) (hr : RTr rs n rs') : Sim (truncSt st n) rs' ∧ rtErr rs n = truncErr st n := by
  have hb := h.bad
  obtain ⟨hs, hf⟩ := h.spend
  obtain ⟨e1, e2, e3, e4, e5, e6⟩ := spend_same st
  constructor
  · unfold RTr at hr
    unfold truncSt
    by_cases hd : st.dead = true
    · rw [if_pos (.inl (hb.2 hd))] at hr
      rw [if_pos hd, hr]; exact h
    · have hd' : ¬ rs.live = false := fun e => hd (hb.1 e)
      rw [if_neg hd]
      by_cases h0 : n < 0
      · rw [if_pos (.inr (.inl h0))] at hr
        rw [if_pos h0, hr]; exact h
      · rw [if_neg h0]
        by_cases h1 : (st.cap : Int) < n
        · rw [if_pos (.inr (.inr (by rw [h.room]; exact h1)))] at hr
          rw [if_pos h1, hr]; exact h
        · rw [if_neg h1]
          rw [if_neg (by rintro (e | e | e); exact hd' e; exact h0 e; rw [h.room] at e; exact h1 e)] at hr
          by_cases h2 : spendNo st = true
          · rw [if_pos (.inl (hf.1 h2))] at hr
            rw [if_pos h2, hr]; exact hs
          · rw [if_neg h2]
            have h2' : ¬ rs.fuse = 0 := fun e => h2 (hf.2 e)
            rw [h.now] at hr
            by_cases h3 : n = st.now.length
            · rw [if_pos (.inr h3)] at hr
              rw [if_neg (by omega), if_neg (by omega), hr]; exact hs
            · rw [if_neg (by rintro (e | e); exact h2' e; exact h3 e)] at hr
              by_cases h4 : (st.now.length : Int) < n
              · rw [if_pos h4] at hr
                rw [if_pos h4]
                obtain ⟨qs, q1, _, q3⟩ := hr
                rw [q3]
                have := hs.lay (st.now.length, n.toNat - st.now.length, []) qs (by rw [e2]; exact Nat.le_refl _) (by simp; omega) (by simp only [List.append_nil]; exact q1)
                simp only [List.append_nil] at this
                exact this
              · rw [if_neg h4] at hr
                rw [if_neg h4, if_pos (by omega), hr]
                refine ⟨hs.room, ?_, hs.dur, ?_, hs.calls, hs.live, hs.fuse, hs.pcs⟩
                · show st.now.take n.toNat = resz st.now n.toNat
                  unfold resz
                  rw [if_pos (by omega)]
                · show rs.sizes ++ _ = st.sizes ++ _
                  rw [h.sizes]
  · unfold rtErr truncErr
    rw [h.room]
    by_cases hd : st.dead = true
    · rw [if_pos (hb.2 hd), if_pos hd]
    · rw [if_neg (fun e => hd (hb.1 e)), if_neg hd]
      by_cases h0 : n < 0
      · rw [if_pos h0, if_pos h0]
      · rw [if_neg h0, if_neg h0]
        by_cases h1 : (st.cap : Int) < n
        · rw [if_pos h1, if_pos h1]
        · rw [if_neg h1, if_neg h1]
          by_cases h2 : spendNo st = true
          · rw [if_pos (hf.1 h2), if_pos h2]
          · rw [if_neg (fun e => h2 (hf.2 e)), if_neg h2]

theorem Sim.sync {st : St} {rs : RSt} (h : Sim st rs) : Sim (syncSt st) (rsyncSt rs) ∧ rsErr rs = syncErr st := by
  have hb := h.bad
  obtain ⟨hs, hf⟩ := h.spend
  constructor
  · unfold rsyncSt syncSt
    by_cases hd : st.dead = true
    · rw [if_pos (hb.2 hd), if_pos hd]; exact h
    · rw [if_neg (fun e => hd (hb.1 e)), if_neg hd]
      by_cases h2 : spendNo st = true
      · rw [if_pos (hf.1 h2), if_pos h2]; exact hs
      · rw [if_neg (fun e => h2 (hf.2 e)), if_neg h2]
        exact ⟨hs.room, hs.now, (carry_same rs).2.1.trans h.now, rfl, hs.calls, hs.live, hs.fuse, fun s => rfl⟩
  · unfold rsErr syncErr
    by_cases hd : st.dead = true
    · rw [if_pos (hb.2 hd), if_pos hd]
    · rw [if_neg (fun e => hd (hb.1 e)), if_neg hd]
      by_cases h2 : spendNo st = true
      · rw [if_pos (hf.1 h2), if_pos h2]
      · rw [if_neg (fun e => h2 (hf.2 e)), if_neg h2]

theorem Sim.fuseS {st : St} {rs : RSt} (h : Sim st rs) (n : Int) : Sim (fuseSt st n) (rfuseSt rs n) := by
  have hb := h.live
  unfold fuseSt rfuseSt
  cases hd : st.dead
  · rw [hd] at hb
    simp at hb
    rw [hb]
    simp only [if_true]
    refine ⟨h.room, h.now, h.dur, h.sizes, h.calls, ?_, ?_, h.pcs⟩
    · simp [hd]
    · by_cases h0 : n < 0
      · rw [if_pos h0]
        simp
        omega
      · rw [if_neg h0]
        simp [show 0 ≤ n by omega]
        try omega
  · rw [hd] at hb
    simp at hb
    rw [hb]
    exact h

theorem Sim.read {st : St} {rs : RSt} (h : Sim st rs) (off n : Int) : rrErr rs off n = readErr st off n ∧ rreadL rs off n = readL st off n := by
  have hb := h.bad
  have e : rrErr rs off n = readErr st off n := by
    unfold rrErr readErr
    rw [h.now]
    by_cases hd : st.dead = true
    · rw [if_pos (hb.2 hd), if_pos hd]
    · rw [if_neg (fun e => hd (hb.1 e)), if_neg hd]
  refine ⟨e, ?_⟩
  unfold rreadL readL
  rw [e, h.now]

structure Pair (st : St) (rs : RSt) (n : Nat) : Prop where
  sim : Sim st rs
  inv : Inv st
  calls : st.calls ≤ n
  rpl : rs.rps.length ≤ rs.calls * 40000

theorem Pair.rinv {st : St} {rs : RSt} {n : Nat} (h : Pair st rs n) (hn : n ≤ 2000000) : RInv rs := by
  have hs := h.sim
  have h1 := h.inv.p.cap
  have h2 := h.inv.p.now
  have h3 := h.inv.p.dur
  have h4 := h.inv.s.sizes
  have h5 := h.inv.s.left
  have hc := h.calls
  have hf := hs.fuse
  refine ⟨by rw [hs.room]; exact h1, by rw [hs.room, hs.now]; exact h2, by rw [hs.room, hs.dur]; exact h3, by rw [hs.calls]; omega, ?_, ?_, h.rpl, by rw [hs.sizes, hs.calls]; exact h4⟩
  · rw [hf]; split <;> omega
  · rw [hf]; split <;> omega

theorem Pair.write {st : St} {rs rs' : RSt} {n : Nat} (h : Pair st rs n) (hn : n + 1 ≤ 2000000) (off : Int) (data : List Int) (hr : RWr rs off data rs') : Pair (writeSt st off data) rs' (n + 1) := by
  have h1 := h.inv.write off data
  have h2 := h1.calls
  have h3 := h.calls
  have hs := (h.sim.write off data hr).1
  refine ⟨hs, h1.inv (by omega), by omega, ?_⟩
  have hrp := h.rpl
  unfold RWr at hr
  split at hr
  · rw [hr]; exact hrp
  · split at hr
    · rw [hr, (carry_same rs).2.2.2.1]
      have : rs.calls ≤ (carrySt rs).calls := by unfold carrySt; split <;> simp
      exact Nat.le_trans hrp (Nat.mul_le_mul_right _ this)
    · rename_i hh
      obtain ⟨qs, _, q2, q3⟩ := hr
      have hc : (carrySt rs).calls = rs.calls + 1 := by unfold carrySt; rw [if_neg (fun e => hh (.inl e))]
      rw [q3]
      show ((carrySt rs).rps ++ qs).length ≤ (carrySt rs).calls * 40000
      rw [List.length_append, (carry_same rs).2.2.2.1, hc]
      omega

theorem Pair.trunc {st : St} {rs rs' : RSt} {n : Nat} (h : Pair st rs n) (hn : n + 1 ≤ 2000000) (k : Int) (hr : RTr rs k rs') : Pair (truncSt st k) rs' (n + 1) := by
  have h1 := h.inv.trunc k
  have h2 := h1.calls
  have h3 := h.calls
  have hs := (h.sim.trunc k hr).1
  refine ⟨hs, h1.inv (by omega), by omega, ?_⟩
  have hrp := h.rpl
  have hle : rs.calls ≤ (carrySt rs).calls := by unfold carrySt; split <;> simp
  unfold RTr at hr
  split at hr
  · rw [hr]; exact hrp
  · split at hr
    · rw [hr, (carry_same rs).2.2.2.1]
      exact Nat.le_trans hrp (Nat.mul_le_mul_right _ hle)
    · rename_i hh
      split at hr
      · obtain ⟨qs, _, q2, q3⟩ := hr
        have hc : (carrySt rs).calls = rs.calls + 1 := by unfold carrySt; rw [if_neg (fun e => hh (.inl e))]
        rw [q3]
        show ((carrySt rs).rps ++ qs).length ≤ (carrySt rs).calls * 40000
        rw [List.length_append, (carry_same rs).2.2.2.1, hc]
        omega
      · rw [hr]
        show (carrySt rs).rps.length ≤ (carrySt rs).calls * 40000
        rw [(carry_same rs).2.2.2.1]
        exact Nat.le_trans hrp (Nat.mul_le_mul_right _ hle)

theorem Pair.sync {st : St} {rs : RSt} {n : Nat} (h : Pair st rs n) (hn : n + 1 ≤ 2000000) : Pair (syncSt st) (rsyncSt rs) (n + 1) := by
  have h1 := h.inv.sync
  have h2 := h1.calls
  have h3 := h.calls
  refine ⟨h.sim.sync.1, h1.inv (by omega), by omega, ?_⟩
  have hrp := h.rpl
  have hle : rs.calls ≤ (carrySt rs).calls := by unfold carrySt; split <;> simp
  unfold rsyncSt
  split
  · exact hrp
  · split
    · rw [(carry_same rs).2.2.2.1]
      exact Nat.le_trans hrp (Nat.mul_le_mul_right _ hle)
    · simp

theorem Pair.fuse {st : St} {rs : RSt} {n : Nat} (h : Pair st rs n) (k : Int) (hk : k ≤ 9223372036854775807) : Pair (fuseSt st k) (rfuseSt rs k) (n + 1) := by
  have h3 := h.calls
  refine ⟨h.sim.fuseS k, ?_, ?_, ?_⟩
  · unfold fuseSt
    split
    · exact h.inv
    · have hp := h.inv.p
      have hs := h.inv.s
      exact ⟨⟨hp.cap, hp.now, hp.dur, hp.sizes, hp.bd⟩, ⟨hs.calls, by simp only []; omega, hs.sizes, hs.ents, hs.pcs⟩, ⟨h.inv.k.bd, h.inv.k.all, h.inv.k.last⟩⟩
  · unfold fuseSt
    split
    · omega
    · simp only []; omega
  · unfold rfuseSt
    split
    · exact h.rpl
    · exact h.rpl

theorem Pair.more {st : St} {rs : RSt} {n : Nat} (h : Pair st rs n) : Pair st rs (n + 1) := ⟨h.sim, h.inv, Nat.le_succ_of_le h.calls, h.rpl⟩
end Go.Proofs.Yteiajeeincapoac
