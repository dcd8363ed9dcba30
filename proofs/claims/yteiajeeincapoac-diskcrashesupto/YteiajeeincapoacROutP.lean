import Derived.Test.YteiajeeincapoacRSim
namespace Go.Proofs.Yteiajeeincapoac
open Go.RowKit Go.Maps

def seenOf (ps : List (Nat × Nat × List Int)) (s : Nat) : Nat := (ps.filter (fun p => p.1 == s)).length

def rOutR (base : List Int) (sec : List Int) (rest : Int) : List (Nat × Nat × List Int) → List Int
  | [] => base
  | p :: rs => if (seenOf rs.reverse p.1 : Int) < wantedN sec rest p.1 then paintL (rOutR base sec rest rs) (p.2.1, 0, p.2.2) else rOutR base sec rest rs

def rOut (base : List Int) (sec : List Int) (rest : Int) (ps : List (Nat × Nat × List Int)) : List Int := rOutR base sec rest ps.reverse

theorem rOut_nil (base sec : List Int) (rest : Int) : rOut base sec rest [] = base := rfl

theorem rOut_snoc (base sec : List Int) (rest : Int) (ps : List (Nat × Nat × List Int)) (p : Nat × Nat × List Int) : rOut base sec rest (ps ++ [p]) = if (seenOf ps p.1 : Int) < wantedN sec rest p.1 then paintL (rOut base sec rest ps) (p.2.1, 0, p.2.2) else rOut base sec rest ps := by
  unfold rOut
  rw [List.reverse_append]
  have e : rOutR base sec rest (p :: ps.reverse) = if (seenOf ps.reverse.reverse p.1 : Int) < wantedN sec rest p.1 then paintL (rOutR base sec rest ps.reverse) (p.2.1, 0, p.2.2) else rOutR base sec rest ps.reverse := rfl
  rw [List.reverse_reverse] at e
  exact e

theorem length_rOutR (base sec : List Int) (rest : Int) : ∀ ps, (rOutR base sec rest ps).length = base.length
  | [] => rfl
  | p :: ps => by
    unfold rOutR
    split
    · rw [length_paintL, length_rOutR base sec rest ps]
    · exact length_rOutR base sec rest ps

theorem length_rOut (base sec : List Int) (rest : Int) (ps : List (Nat × Nat × List Int)) : (rOut base sec rest ps).length = base.length := length_rOutR _ _ _ _

def flatAt (qs : List (Nat × List Int)) (i : Nat) (v : Int) : Int := qs.foldl (fun v q => if q.1 ≤ i ∧ i < q.1 + q.2.length then q.2.getD (i - q.1) 0 else v) v

theorem flatAt_snoc (qs : List (Nat × List Int)) (q : Nat × List Int) (i : Nat) (v : Int) : flatAt (qs ++ [q]) i v = if q.1 ≤ i ∧ i < q.1 + q.2.length then q.2.getD (i - q.1) 0 else flatAt qs i v := by
  unfold flatAt
  rw [List.foldl_append]
  rfl

theorem flatAt_map : ∀ (ps : List (Nat × Nat × List Int)) (i : Nat) (v : Int), flatAt (ps.map flat) i v = pcsAt ps i v
  | [], _, _ => rfl
  | p :: ps, i, v => by
    have ih := flatAt_map ps i
    unfold flatAt pcsAt at ih ⊢
    rw [List.map_cons, List.foldl_cons, List.foldl_cons, ih]
    congr 1
    unfold flat
    simp only []
    have e : (p.1 ≤ i ∧ i < p.1 + (List.replicate p.2.1 (0 : Int) ++ p.2.2).length) ↔ Cov p i := by
      unfold Cov endP
      simp
      omega
    by_cases hc : Cov p i
    · rw [if_pos hc, if_pos (e.2 hc)]
      rfl
    · rw [if_neg hc, if_neg (fun h => hc (e.1 h))]

structure RBd (ps : List (Nat × Nat × List Int)) : Prop where
  sec : ∀ p ∈ ps, p.1 * 512 ≤ p.2.1 ∧ p.2.1 + p.2.2.length ≤ (p.1 + 1) * 512

theorem RBd.left {ps qs : List (Nat × Nat × List Int)} (h : RBd (ps ++ qs)) : RBd ps := ⟨fun p hp => h.sec p (List.mem_append_left _ hp)⟩

theorem getD_rOut (base sec : List Int) (rest : Int) (i : Nat) (hi : i < base.length) : ∀ (n : Nat) (ps : List (Nat × Nat × List Int)), ps.length = n → RBd ps →
    (rOut base sec rest ps).getD i 0 = flatAt (((ps.filter (fun p => p.1 == i / 512)).map (fun p => p.2)).take (wantedN sec rest (i / 512)).toNat) i (base.getD i 0)
  | 0, ps, hl, _ => by
    rw [List.eq_nil_of_length_eq_zero hl, rOut_nil, List.filter_nil, List.map_nil, List.take_nil]
    rfl
  | n + 1, ps, hl, hb => by
    obtain ⟨qs, q, rfl⟩ : ∃ qs q, ps = qs ++ [q] := ⟨ps.dropLast, ps.getLast (by intro e; rw [e] at hl; simp at hl), (List.dropLast_concat_getLast _).symm⟩
    have hl2 : qs.length = n := by simpa using hl
    have ih := getD_rOut base sec rest i hi n qs hl2 hb.left
    have hq := hb.sec q (by simp)
    have hlen : i < (rOut base sec rest qs).length := by rw [length_rOut]; exact hi
    rw [rOut_snoc, List.filter_append, List.map_append]
    by_cases hs : q.1 = i / 512
    · have hf : List.filter (fun p : Nat × Nat × List Int => p.1 == i / 512) [q] = [q] := by simp [hs]
      have hsn : seenOf qs q.1 = ((qs.filter (fun p => p.1 == i / 512)).map (fun p => p.2)).length := by unfold seenOf; rw [hs, List.length_map]
      rw [hf, List.map_cons, List.map_nil, hsn]
      by_cases hc : (((qs.filter (fun p => p.1 == i / 512)).map (fun p => p.2)).length : Int) < wantedN sec rest q.1
      · rw [if_pos hc]
        rw [hs] at hc
        have e1 : ((qs.filter (fun p => p.1 == i / 512)).map (fun p => p.2) ++ [q.2]).take (wantedN sec rest (i / 512)).toNat = (qs.filter (fun p => p.1 == i / 512)).map (fun p => p.2) ++ [q.2] := List.take_of_length_le (by rw [List.length_append, List.length_singleton]; omega)
        have e2 : ((qs.filter (fun p => p.1 == i / 512)).map (fun p => p.2)).take (wantedN sec rest (i / 512)).toNat = (qs.filter (fun p => p.1 == i / 512)).map (fun p => p.2) := List.take_of_length_le (by omega)
        rw [e2] at ih
        rw [e1, flatAt_snoc, getD_paintL _ _ _ hlen, ih]
        by_cases hcov : q.2.1 ≤ i ∧ i < q.2.1 + q.2.2.length
        · rw [if_pos hcov, if_pos (by unfold Cov endP; simp only []; omega)]
          unfold byteAt
          simp
        · rw [if_neg hcov, if_neg (by unfold Cov endP; simp only []; omega)]
      · rw [if_neg hc]
        rw [hs] at hc
        rw [ih, List.take_append_of_le_length (by omega)]
    · have hf : List.filter (fun p : Nat × Nat × List Int => p.1 == i / 512) [q] = [] := by simp [hs]
      rw [hf, List.map_nil, List.append_nil, ← ih]
      split
      · rw [getD_paintL _ _ _ hlen, if_neg (by unfold Cov endP; simp only []; omega)]
      · rfl

theorem Sim.rbd {st : St} {rs : RSt} (h : Sim st rs) (hb : SBd st) : RBd rs.rps := by
  refine ⟨fun p hp => ?_⟩
  have hm : p.2 ∈ (rs.rps.filter (fun q => q.1 == p.1)).map (fun q => q.2) := List.mem_map.2 ⟨p, List.mem_filter.2 ⟨hp, by simp⟩, rfl⟩
  rw [h.pcs p.1] at hm
  obtain ⟨q, hq, he⟩ := List.mem_map.1 hm
  have := hb p.1 q hq
  unfold flat at he
  rw [← he]
  unfold endP at this
  simp
  omega

theorem Sim.out {st : St} {rs : RSt} (h : Sim st rs) (hb : SBd st) (c : Int × List Int × Int) : rOut (resz rs.dur (behind st c.1)) c.2.1 c.2.2 rs.rps = outcomeL st c := by
  refine list_ext (by rw [length_rOut, length_resz, length_outcomeL]) fun i hi => ?_
  rw [length_rOut, length_resz] at hi
  rw [getD_rOut _ _ _ _ (by rw [length_resz]; exact hi) _ _ rfl (h.rbd hb), getD_outcomeL hb _ _ hi, h.pcs, getD_resz _ _ _ hi, h.dur, ← List.map_take, flatAt_map]
  congr 1
  unfold keptN
  by_cases hle : (wantedN c.2.1 c.2.2 (i / 512)).toNat ≤ (st.pcs (i / 512)).length
  · rw [Nat.min_eq_left hle]
  · rw [Nat.min_eq_right (by omega), List.take_length, List.take_of_length_le (by omega)]
end Go.Proofs.Yteiajeeincapoac
