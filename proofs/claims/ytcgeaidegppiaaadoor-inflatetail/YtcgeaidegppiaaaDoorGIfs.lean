import Derived.Test.YtcgeaidegppiaaaDoorGIfr
namespace Go.Proofs.YtcgeaidegppiaaaDoor
open Go.RowKit Go.Maps
set_option maxRecDepth 20000
set_option linter.unusedVariables false

/-- A word that lies within the front is read in the front alone. -/
theorem nx_back {l row t : List Int} {p : Nat} (hl : Lens l) (hb : Bit (row ++ t)) (h : nxE l (row ++ t) p = 0) (hlen' : nxP l (row ++ t) p ≤ row.length) : nxE l row p = 0 ∧ nxS l row p = nxS l (row ++ t) p ∧ nxP l row p = nxP l (row ++ t) p := by
  have hb1 : Bit row := bit_front hb
  have hfb : fdB l (rowAt (row ++ t) p) = true := by
    unfold nxE at h
    by_cases c : fdB l (rowAt (row ++ t) p) = true
    · exact c
    · rw [if_neg c] at h; omega
  have hs : nxS l (row ++ t) p = fdS l (rowAt (row ++ t) p) := by unfold nxS; rw [if_pos h]
  have hp : nxP l (row ++ t) p = p + ln l (fdS l (rowAt (row ++ t) p)) := by unfold nxP; rw [if_pos h]
  have hhit := fd_has hl hfb
  obtain ⟨s, hS⟩ : ∃ s, fdS l (rowAt (row ++ t) p) = s := ⟨_, rfl⟩
  rw [hS] at hhit hs hp
  rw [hp] at hlen'
  have h15 := (hl.ln s).2
  obtain ⟨hhas, hw⟩ := hit_iff.1 hhit
  have r1 := mir_row (ahead row p 15) h15
  have r2 := mir_row (ahead (row ++ t) p 15) h15
  rw [← mir_any hb1 p h15] at r1
  rw [← mir_any hb p h15, ahead_ext hlen', r1] at r2
  have r3 : rowN (ahead row p 15) / 2 ^ (15 - ln l s) = wd l s := by
    rw [← hw]
    unfold rowAt
    exact_mod_cast r2
  have hhit2 : Hit l (rowAt row p) s := hit_iff.2 ⟨hhas, r3⟩
  obtain ⟨g1, g2⟩ := fd_hit hl hhit2
  have hE : nxE l row p = 0 := by unfold nxE; rw [if_pos g2, g1, if_pos hlen']
  exact ⟨hE, by unfold nxS; rw [if_pos hE, g1, if_pos h, hS], by unfold nxP; rw [if_pos hE, g1, if_pos h, hS]⟩

theorem sy_back {l row t : List Int} {p : Nat} (hd : dcE l = 0) (hb : Bit (row ++ t)) (h : syE l (row ++ t) p = 0) (hp : nxP l (row ++ t) p ≤ row.length) : syE l row p = 0 := by
  have := (nx_back (dcE_zero hd).1 hb (sy_nx h) hp).1
  unfold syE; rw [if_pos this]

theorem sy1_back {l d row t : List Int} {L p : Nat} {out : List Int} {b : Bool} {q : Nat} {o : List Int} (hd : dcE l = 0) (hb : Bit (row ++ t)) (h : sy1 l d (row ++ t) L p out = (0, b, q, o)) (hq : q ≤ row.length) : sy1 l d row L p out = (0, b, q, o) := by
  obtain ⟨⟨e, b', q', o'⟩, hx⟩ : ∃ x, sy1 l d row L p out = x := ⟨_, rfl⟩
  by_cases he : e = 80
  · exfalso
    subst he
    have hgo := sy1_go hb hd h
    by_cases c0 : syE l (row ++ t) p ≠ 0
    · rw [sy1_bad c0] at h
      injection h with h
      exact absurd h c0
    have c0' : syE l (row ++ t) p = 0 := by omega
    have hnx := nx_lt hd (sy_nx c0')
    have hPq : nxP l (row ++ t) p ≤ q := by
      rcases Nat.lt_trichotomy (nxS l (row ++ t) p) 256 with c | c | c
      · rw [sy1_lit c0' c] at h
        split at h
        · injection h with h; cases h
        · injection h with _ h; injection h with _ h; injection h with h1 _; omega
      · rw [sy1_end c0' c] at h
        injection h with _ h; injection h with _ h; injection h with h1 _; omega
      · rw [sy1_copy c0' c] at h
        split at h
        · rename_i c1; injection h with h; exact absurd h c1
        split at h
        · rename_i c1; injection h with h; exact absurd h c1
        rename_i c1 c2
        split at h
        · rename_i c1; injection h with h; exact absurd h c1
        injection h with _ h; injection h with _ h; injection h with h1 _
        have := dtV_le (d := d) hb (by omega : dtE d (row ++ t) (lgP (nxS l (row ++ t) p) (nxP l (row ++ t) p)) = 0)
        have : nxP l (row ++ t) p ≤ lgP (nxS l (row ++ t) p) (nxP l (row ++ t) p) := by unfold lgP; omega
        omega
    have s0 := sy_back hd hb c0' (by omega)
    obtain ⟨_, n2, n3⟩ := nx_back (dcE_zero hd).1 hb (sy_nx c0') (by omega)
    rcases Nat.lt_trichotomy (nxS l row p) 256 with c | c | c
    · rw [sy1_lit s0 c] at hx
      split at hx
      · injection hx with hx; cases hx
      · injection hx with hx; cases hx
    · rw [sy1_end s0 c] at hx
      injection hx with hx; cases hx
    · rw [sy1_copy s0 c, n2, n3] at hx
      rw [sy1_copy c0' (by rw [← n2]; exact c)] at h
      obtain ⟨S, hS⟩ : ∃ S, nxS l (row ++ t) p = S := ⟨_, rfl⟩
      obtain ⟨P, hP⟩ : ∃ P, nxP l (row ++ t) p = P := ⟨_, rfl⟩
      rw [hS, hP] at h hx
      by_cases c1 : lgE S (row ++ t) P ≠ 0
      · rw [if_pos c1] at h; injection h with h; exact absurd h c1
      rw [if_neg c1] at h
      by_cases c2 : dtE d (row ++ t) (lgP S P) ≠ 0
      · rw [if_pos c2] at h; injection h with h; exact absurd h c2
      rw [if_neg c2] at h
      by_cases c3 : agE L out (lgV S (row ++ t) P) (dtV d (row ++ t) (lgP S P)) ≠ 0
      · rw [if_pos c3] at h; injection h with h; exact absurd h c3
      rw [if_neg c3] at h
      have hqe : dtP d (row ++ t) (lgP S P) = q := by
        injection h with _ h; injection h with _ h; injection h with h1 _
      have hdt := dtV_le (d := d) hb (by omega : dtE d (row ++ t) (lgP S P) = 0)
      have hlg : lgE S row P = 0 := by
        have c1' : lgE S (row ++ t) P = 0 := by omega
        unfold lgE at c1' ⊢
        by_cases c4 : 285 < S
        · rw [if_pos c4] at c1'; cases c1'
        rw [if_neg c4, if_neg (by have : lgP S P = P + lnF S := rfl; omega)]
      rw [if_neg (by simp [hlg])] at hx
      have hdz : dcE d = 0 := by
        by_cases c5 : dcE d = 0
        · exact c5
        · exfalso; apply c2; unfold dtE; rw [if_pos c5]; decide
      have hsd : syE d (row ++ t) (lgP S P) = 0 := by
        by_cases c5 : syE d (row ++ t) (lgP S P) = 0
        · exact c5
        · exfalso; apply c2; unfold dtE; rw [if_neg (by simp [hdz]), if_pos c5]; exact c5
      have hPd : nxP d (row ++ t) (lgP S P) ≤ row.length := by
        have : nxP d (row ++ t) (lgP S P) ≤ dtP d (row ++ t) (lgP S P) := by unfold dtP; omega
        omega
      have t0 := sy_back hdz hb hsd hPd
      obtain ⟨_, m2, m3⟩ := nx_back (dcE_zero hdz).1 hb (sy_nx hsd) hPd
      have hd0 : dtE d row (lgP S P) = 0 := by
        have c2' : dtE d (row ++ t) (lgP S P) = 0 := by omega
        unfold dtE at c2' ⊢
        rw [if_neg (by simp [hdz]), if_neg (by simp [hsd])] at c2'
        rw [if_neg (by simp [hdz]), if_neg (by simp [t0]), m2, m3]
        by_cases c6 : 29 < nxS d (row ++ t) (lgP S P)
        · rw [if_pos c6] at c2'; cases c2'
        rw [if_neg c6, if_neg (by have e : dtP d (row ++ t) (lgP S P) = nxP d (row ++ t) (lgP S P) + dsF (nxS d (row ++ t) (lgP S P)) := rfl; omega)]
      rw [if_neg (by simp [hd0])] at hx
      split at hx
      · rename_i c7
        injection hx with hx
        unfold agE at hx
        split at hx
        · cases hx
        · split at hx <;> cases hx
      · injection hx with hx; cases hx
  · have := sy1_ext hd hb hx he
    rw [h] at this
    rw [hx, this]

theorem Sys.back {l d row t : List Int} {L p : Nat} {out : List Int} {e : Int} {q : Nat} {o : List Int} (hd : dcE l = 0) (hb : Bit (row ++ t)) (h : Sys l d (row ++ t) L p out e q o) : e = 0 → q ≤ row.length → Sys l d row L p out e q o := by
  induction h with
  | bad h1 h2 => exact fun h => absurd h h2
  | fin h1 => exact fun _ hq => Sys.fin (sy1_back hd hb h1 hq)
  | go h1 h2 ih => exact fun he hq => Sys.go (sy1_back hd hb h1 (by have := (h2.lt hb hd he); omega)) (ih he hq)

theorem st1_back {row t : List Int} {L p : Nat} {out : List Int} {q : Nat} {o : List Int} (hb : Bit (row ++ t)) (h : st1 (row ++ t) L p out = (0, q, o)) (hq : q ≤ row.length) : st1 row L p out = (0, q, o) := by
  obtain ⟨⟨e, q', o'⟩, hx⟩ : ∃ x, st1 row L p out = x := ⟨_, rfl⟩
  by_cases he : e = 80
  · exfalso
    subst he
    have h0 := h
    unfold st1 at h hx
    by_cases c0 : (row ++ t).length < algn p + 32
    · rw [if_pos c0] at h; injection h with h; cases h
    rw [if_neg c0] at h
    by_cases c1 : ahead (row ++ t) (algn p) 16 + ahead (row ++ t) (algn p + 16) 16 ≠ 65535
    · rw [if_pos c1] at h; injection h with h; cases h
    rw [if_neg c1] at h
    by_cases c2 : L < out.length + (ahead (row ++ t) (algn p) 16).toNat
    · rw [if_pos c2] at h; injection h with h; cases h
    rw [if_neg c2] at h
    by_cases c3 : (row ++ t).length < algn p + 32 + 8 * (ahead (row ++ t) (algn p) 16).toNat
    · rw [if_pos c3] at h; injection h with h; cases h
    rw [if_neg c3] at h
    injection h with _ h
    injection h with h1 _
    have a1 : ahead row (algn p) 16 = ahead (row ++ t) (algn p) 16 := (ahead_ext (by omega)).symm
    have a2 : ahead row (algn p + 16) 16 = ahead (row ++ t) (algn p + 16) 16 := (ahead_ext (by omega)).symm
    rw [if_neg (by omega), a1, a2, if_neg c1, if_neg c2, if_neg (by omega)] at hx
    injection hx with hx
    cases hx
  · have := st1_ext hb hx he
    rw [h] at this
    rw [hx, this]

theorem rl_back2 {C row t : List Int} (hl : Lens C) (hb : Bit (row ++ t)) (want : Nat) : ∀ f acc p, (rl C (row ++ t) want f acc p).1 = 0 → (rl C (row ++ t) want f acc p).2.2 ≤ row.length → rl C row want f acc p = rl C (row ++ t) want f acc p
  | 0, acc, p, _, _ => by simp [rl]
  | f + 1, acc, p, h, hq => by
    unfold rl at h hq ⊢
    by_cases c0 : acc.length < want
    · rw [if_pos c0] at h hq
      rw [if_pos c0, if_pos c0]
      by_cases c1 : trE C (row ++ t) p ≠ 0
      · rw [if_pos c1] at h; cases h
      rw [if_neg c1] at h hq
      by_cases c2 : nxS C (row ++ t) p = 16 ∧ acc = []
      · rw [if_pos c2] at h; cases h
      rw [if_neg c2] at h hq
      by_cases c3 : (want : Int) < acc.length + trC C (row ++ t) p
      · rw [if_pos c3] at h; cases h
      rw [if_neg c3] at h hq
      have hle := rl_le (C := C) (row := row ++ t) want f (lay acc ((nxS C (row ++ t) p : Nat), trC C (row ++ t) p)) (trP C (row ++ t) p)
      have hn0 : nxE C (row ++ t) p = 0 := by
        have c1' : trE C (row ++ t) p = 0 := by omega
        unfold trE at c1'
        by_cases c5 : nxE C (row ++ t) p ≠ 0
        · rw [if_pos c5] at c1'; cases c1'
        · omega
      have hPt : nxP C (row ++ t) p ≤ trP C (row ++ t) p := by unfold trP; omega
      obtain ⟨n1, n2, n3⟩ := nx_back hl hb hn0 (by omega)
      have hT : trE C row p = 0 := by
        unfold trE
        rw [if_neg (by simp [n1]), n2, n3, if_neg (by have e : trP C (row ++ t) p = nxP C (row ++ t) p + frt (nxS C (row ++ t) p : Nat) := rfl; omega)]
      obtain ⟨t1, t2, t3, t4, _⟩ := tr_ext hl hb hT
      rw [if_neg (by simp [hT]), if_neg c1, ← t2, ← t3, ← t4, if_neg c2, if_neg c2, if_neg c3, if_neg c3]
      exact rl_back2 hl hb want f _ _ h hq
    · rw [if_neg c0, if_neg c0]

theorem rd_back2 {row t : List Int} {p : Nat} (hb : Bit (row ++ t)) (h : (rdA (row ++ t) p).1 = 0) (hq : (rdA (row ++ t) p).2.2.2 ≤ row.length) : rdA row p = rdA (row ++ t) p := by
  by_cases h70 : (rdA row p).1 = 70
  · exfalso
    rcases rd_cases (row ++ t) p with ⟨q, _⟩ | ⟨_, h1, h2, ⟨a, q⟩, hx, hk, hr⟩
    · exact absurd h q
    simp only at hx hk hr
    have hle := rl_le (C := smC (row ++ t) (p + 14) (rcN (row ++ t) p)) (row := row ++ t) (rcL (row ++ t) p + rcD (row ++ t) p) (rcL (row ++ t) p + rcD (row ++ t) p) [] (p + 14 + 3 * rcN (row ++ t) p)
    rw [hr] at hq
    rw [hx] at hle
    simp only at hq hle
    have ea : ahead row p 14 = ahead (row ++ t) p 14 := (ahead_ext (by omega)).symm
    have eL : rcL row p = rcL (row ++ t) p := by unfold rcL; rw [ea]
    have eD : rcD row p = rcD (row ++ t) p := by unfold rcD; rw [ea]
    have eN : rcN row p = rcN (row ++ t) p := by unfold rcN; rw [ea]
    have hE : rcE row p = 0 := by
      unfold rcE at h1 ⊢
      rw [eL, eD, if_neg (by omega)]
      by_cases c : (row ++ t).length < p + 14
      · rw [if_pos c] at h1; cases h1
      · rw [if_neg c] at h1; exact h1
    have hsC : smC row (p + 14) (rcN row p) = smC (row ++ t) (p + 14) (rcN (row ++ t) p) := by rw [eN]; exact (smC_ext _ (by omega)).symm
    have hSE : smE row (p + 14) (rcN row p) = 0 := by
      unfold smE at h2 ⊢
      rw [hsC, eN, if_neg (by omega)]
      by_cases c : (row ++ t).length < p + 14 + 3 * rcN (row ++ t) p
      · rw [if_pos c] at h2; cases h2
      · rw [if_neg c] at h2; exact h2
    have hLens : Lens (smC (row ++ t) (p + 14) (rcN (row ++ t) p)) := by
      unfold smE at h2
      by_cases c : (row ++ t).length < p + 14 + 3 * rcN (row ++ t) p
      · rw [if_pos c] at h2; cases h2
      rw [if_neg c] at h2
      by_cases c2 : Lens (smC (row ++ t) (p + 14) (rcN (row ++ t) p))
      · exact c2
      · exfalso
        rw [if_pos (by unfold chkS; rw [if_neg c2]; decide)] at h2
        cases h2
    have hrl := rl_back2 hLens hb (rcL (row ++ t) p + rcD (row ++ t) p) (rcL (row ++ t) p + rcD (row ++ t) p) [] (p + 14 + 3 * rcN (row ++ t) p) (by rw [hx]) (by rw [hx]; exact hq)
    rw [hx] at hrl
    have := rd_l hE hSE (x := (0, a, q)) (by rw [hsC, eL, eD, eN]; exact hrl)
    simp only at this
    rw [if_neg (by simp), eL, if_neg (by simp [hk])] at this
    rw [this] at h70
    cases h70
  · exact ((rd_ext hb h70).1).symm

theorem Blk.back {row t : List Int} {L p : Nat} {out : List Int} {e : Int} {f : Bool} {k : Int} {q : Nat} {o : List Int} (hb : Bit (row ++ t)) (h : Blk (row ++ t) L p out e f k q o) (he : e = 0) (hq : q ≤ row.length) : Blk row L p out e f k q o := by
  have hlt := h.lt hb he
  cases h with
  | short h1 => cases he
  | three h1 h2 => cases he
  | stored h1 h2 h3 =>
    subst he
    have hs := st1_lt hb h3
    have := Blk.stored (row := row) (L := L) (out := out) (p := p) (by omega) (by rw [← ahead_ext (t := t) (by omega)]; exact h2) (st1_back hb h3 hq)
    rwa [← ahead_ext (t := t) (by omega)] at this
  | fixed h1 h2 h3 =>
    have hs := h3.lt hb fl_ok he
    have := Blk.fixed (row := row) (p := p) (by omega) (by rw [← ahead_ext (t := t) (by omega)]; exact h2) (h3.back fl_ok hb he hq)
    rwa [← ahead_ext (t := t) (by omega)] at this
  | head h1 h2 h3 => exact absurd he h3
  | dyn h1 h2 h3 h4 =>
    have hg := (rd_good hb h3).1
    have hs := h4.lt hb hg he
    have hr := rd_le h3
    have hr2 := rd_back2 (row := row) hb h3 (by omega)
    have := Blk.dyn (row := row) (p := p) (L := L) (out := out) (by omega) (by rw [← ahead_ext (t := t) (by omega)]; exact h2) (by rw [hr2]; exact h3) (by rw [hr2]; exact h4.back hg hb he hq)
    rwa [← ahead_ext (t := t) (by omega)] at this

theorem Txt.back {row t : List Int} {L p : Nat} {out : List Int} {ps : List Pc} {e : Int} {q : Nat} {o : List Int} (hb : Bit (row ++ t)) (h : Txt (row ++ t) L p out ps e q o) : e = 0 → q ≤ row.length → Txt row L p out ps e q o := by
  induction h with
  | bad h1 h2 => exact fun h => absurd h h2
  | last h1 => exact fun _ hq => Txt.last (h1.back hb rfl hq)
  | go h1 h2 ih => exact fun he hq => Txt.go (h1.back hb rfl (by have := h2.mono hb he; omega)) (ih he hq)

/-- The bytes that a text takes are enough for it. -/
theorem Ifl.front {data : List Int} {limit : Int} {n k : Nat} {o : List Int} (h : Ifl data limit 0 n o) (hk : n ≤ 8 * k) (hkl : k ≤ data.length) : Ifl (data.take k) limit 0 n o := by
  rcases h with ⟨_, h, _⟩ | ⟨hd, ps, q, o', ht, ⟨_, rfl, rfl⟩ | ⟨h, _⟩⟩
  · cases h
  · refine .inr ⟨⟨by rw [List.length_take]; omega, hd.2⟩, ps, n, o, ?_, .inl ⟨rfl, rfl, rfl⟩⟩
    have e : unpack data = unpack (data.take k) ++ unpack (data.drop k) := by rw [← unpack_append, List.take_append_drop]
    rw [e] at ht
    refine ht.back (by rw [← e]; exact bit_unpack _) rfl ?_
    rw [length_unpack, List.length_take]
    omega
  · exact absurd rfl h
end Go.Proofs.YtcgeaidegppiaaaDoor

