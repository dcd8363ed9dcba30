import Derived.Test.YtpmgnpfpnkmmbaaGreatDoorG41Ifq
namespace Go.Proofs.YtpmgnpfpnkmmbaaGreatDoor
open Go.RowKit Go.Maps
set_option maxRecDepth 20000
set_option linter.unusedVariables false

theorem bit_front {row t : List Int} (hb : Bit (row ++ t)) : Bit row := fun x hx => hb x (by simp [hx])

/-- Bits that begin no word begin none with more behind them. -/
theorem nx_55 {l row t : List Int} {p : Nat} (hd : dcE l = 0) (hb : Bit (row ++ t)) (h : nxE l row p = 55) : nxE l (row ++ t) p = 55 := by
  have hb1 := bit_front hb
  have hl := (dcE_zero hd).1
  have hno : ¬ ∃ s, Hit l (rowAt row p) s := fun ⟨s, hs⟩ => by
    have hf := (fd_hit hl hs).2
    unfold nxE at h
    rw [if_pos hf] at h
    split at h <;> omega
  have hge : us l 16 ≤ rowAt row p := by
    rcases Nat.lt_or_ge (rowAt row p) (us l 16) with q | q
    · exact absurd (hit_ex q) hno
    · exact q
  have hus : us l 16 = usum l := us_sum hl.2
  have hrow : rowAt row p < 32768 := row_lt _
  have hsh := ((dcE_iff l).1 hd).2
  have h16 : usum l = 16384 := by
    unfold shp at hsh
    by_cases c0 : tsum l = 0
    · rw [if_pos c0] at hsh; omega
    rw [if_neg c0] at hsh
    by_cases c1 : tsum l = 1 ∧ usum l = 16384
    · exact c1.2
    rw [if_neg c1] at hsh
    by_cases c2 : 32768 < usum l
    · rw [if_pos c2] at hsh; omega
    rw [if_neg c2] at hsh
    by_cases c3 : usum l = 32768
    · omega
    · rw [if_neg c3] at hsh; omega
  have r1 := mir_row (ahead row p 15) (n := 1) (by omega)
  rw [← mir_any hb1 p (by omega)] at r1
  have hq : rowN (ahead row p 15) / 2 ^ (15 - 1) = 1 := by
    have e : rowN (ahead row p 15) = rowAt row p := rfl
    rw [e]
    have : (2 : Nat) ^ (15 - 1) = 16384 := by decide
    rw [this]
    omega
  rw [hq] at r1
  have hp1 : p + 1 ≤ row.length := by
    rcases Nat.lt_or_ge p row.length with q | q
    · omega
    · exfalso
      have e : ahead row p 1 = 0 := by unfold ahead; rw [List.drop_eq_nil_of_le q]; rfl
      rw [e] at r1
      have : mir 0 1 = 0 := by decide
      rw [this] at r1
      cases r1
  have r2 := mir_row (ahead (row ++ t) p 15) (n := 1) (by omega)
  rw [← mir_any hb p (by omega), ahead_ext hp1, r1] at r2
  have hge2 : us l 16 ≤ rowAt (row ++ t) p := by
    have e : rowN (ahead (row ++ t) p 15) = rowAt (row ++ t) p := rfl
    rw [e] at r2
    have h2 : (2 : Nat) ^ (15 - 1) = 16384 := by decide
    rw [h2] at r2
    have : rowAt (row ++ t) p / 16384 = 1 := by exact_mod_cast r2.symm
    omega
  have hno2 : fdB l (rowAt (row ++ t) p) = false := (fd_none (fun ⟨s, hs⟩ => by have := hs.top hl; omega)).2
  unfold nxE
  rw [if_neg (by simp [hno2])]

theorem nx_vals (l row : List Int) (p : Nat) : nxE l row p = 0 ∨ nxE l row p = 54 ∨ nxE l row p = 55 := by
  unfold nxE
  split
  · split
    · exact .inl rfl
    · exact .inr (.inl rfl)
  · exact .inr (.inr rfl)

theorem sy_ext {l row t : List Int} {p : Nat} (hd : dcE l = 0) (hb : Bit (row ++ t)) (h : syE l row p ≠ 80) : syE l (row ++ t) p = syE l row p ∧ (syE l row p = 0 → nxS l (row ++ t) p = nxS l row p ∧ nxP l (row ++ t) p = nxP l row p ∧ nxP l row p ≤ row.length) := by
  rcases nx_vals l row p with e | e | e
  · obtain ⟨a, b, c, d⟩ := nx_ext (dcE_zero hd).1 hb e
    exact ⟨by unfold syE; rw [if_pos a, if_pos e], fun _ => ⟨b, c, d⟩⟩
  · exfalso; apply h; unfold syE; rw [if_neg (by rw [e]; decide), if_pos e]
  · have a := nx_55 hd hb e
    refine ⟨by unfold syE; rw [if_neg (by rw [a]; decide), if_neg (by rw [a]; decide), if_neg (by rw [e]; decide), if_neg (by rw [e]; decide)], fun h0 => ?_⟩
    unfold syE at h0
    rw [if_neg (by rw [e]; decide), if_neg (by rw [e]; decide)] at h0
    cases h0

theorem lg_ext {s : Nat} {row t : List Int} {q : Nat} (h : lgE s row q ≠ 80) : lgE s (row ++ t) q = lgE s row q ∧ (lgE s row q = 0 → lgV s (row ++ t) q = lgV s row q) := by
  unfold lgE at h ⊢
  by_cases c : 285 < s
  · rw [if_pos c, if_pos c]; exact ⟨rfl, fun h => by cases h⟩
  rw [if_neg c] at h
  rw [if_neg c, if_neg c]
  by_cases c2 : row.length < q + lnF s
  · rw [if_pos c2] at h; exact absurd rfl h
  rw [if_neg c2, if_neg (by rw [List.length_append]; omega)]
  exact ⟨rfl, fun _ => by unfold lgV; rw [ahead_ext (by omega)]⟩

theorem dt_ext {d row t : List Int} {q : Nat} (hb : Bit (row ++ t)) (h : dtE d row q ≠ 80) : dtE d (row ++ t) q = dtE d row q ∧ (dtE d row q = 0 → dtV d (row ++ t) q = dtV d row q ∧ dtP d (row ++ t) q = dtP d row q) := by
  by_cases c : dcE d ≠ 0
  · unfold dtE
    rw [if_pos c, if_pos c]
    exact ⟨rfl, fun h => by cases h⟩
  have hd : dcE d = 0 := by omega
  have h1 : syE d row q ≠ 80 := fun e => by
    apply h; unfold dtE; rw [if_neg c, if_pos (by rw [e]; decide), e]
  obtain ⟨e1, e2⟩ := sy_ext hd hb h1
  by_cases c1 : syE d row q ≠ 0
  · unfold dtE
    rw [if_neg c, if_neg c, e1, if_pos c1, if_pos c1]
    exact ⟨rfl, fun h => absurd h c1⟩
  have c1' : syE d row q = 0 := by omega
  obtain ⟨f1, f2, f3⟩ := e2 c1'
  have hx : ∀ r : List Int, dcE d = 0 → syE d r q = 0 → dtE d r q = if 29 < nxS d r q then 83 else if r.length < nxP d r q + dsF (nxS d r q) then 80 else 0 := fun r a b => by unfold dtE; rw [if_neg (by simp [a]), if_neg (by simp [b])]
  rw [hx _ hd c1'] at h ⊢
  rw [hx _ hd (e1.trans c1'), f1, f2]
  by_cases c2 : 29 < nxS d row q
  · rw [if_pos c2, if_pos c2]; exact ⟨rfl, fun h => by cases h⟩
  rw [if_neg c2] at h
  rw [if_neg c2, if_neg c2]
  by_cases c3 : row.length < nxP d row q + dsF (nxS d row q)
  · rw [if_pos c3] at h; exact absurd rfl h
  rw [if_neg c3, if_neg (by rw [List.length_append]; omega)]
  exact ⟨rfl, fun _ => ⟨by unfold dtV; rw [f1, f2, ahead_ext (by omega)], by unfold dtP; rw [f1, f2]⟩⟩

theorem sy1_ext {l d row t : List Int} {L p : Nat} {out : List Int} {e : Int} {b : Bool} {q : Nat} {o : List Int} (hd : dcE l = 0) (hb : Bit (row ++ t)) (h : sy1 l d row L p out = (e, b, q, o)) (he : e ≠ 80) : sy1 l d (row ++ t) L p out = (e, b, q, o) := by
  by_cases c0 : syE l row p ≠ 0
  · rw [sy1_bad c0] at h
    have h1 : syE l row p = e := by injection h
    obtain ⟨e1, _⟩ := sy_ext hd hb (by rw [h1]; exact he)
    rw [sy1_bad (by rw [e1]; exact c0), e1]; exact h
  have c0' : syE l row p = 0 := by omega
  obtain ⟨e1, e2⟩ := sy_ext (t := t) (p := p) hd hb (by rw [c0']; decide)
  obtain ⟨f1, f2, f3⟩ := e2 c0'
  have e1' := e1.trans c0'
  rcases Nat.lt_trichotomy (nxS l row p) 256 with c | c | c
  · rw [sy1_lit c0' c] at h
    rw [sy1_lit e1' (by rw [f1]; exact c), f1, f2]; exact h
  · rw [sy1_end c0' c] at h
    rw [sy1_end e1' (by rw [f1]; exact c), f2]; exact h
  · rw [sy1_copy c0' c] at h
    rw [sy1_copy e1' (by rw [f1]; exact c), f1, f2]
    by_cases c1 : lgE (nxS l row p) row (nxP l row p) ≠ 0
    · rw [if_pos c1] at h
      have h1 : lgE (nxS l row p) row (nxP l row p) = e := by injection h
      obtain ⟨g1, _⟩ := lg_ext (t := t) (by rw [h1]; exact he)
      rw [g1, if_pos c1]; exact h
    rw [if_neg c1] at h
    have c1' : lgE (nxS l row p) row (nxP l row p) = 0 := by omega
    obtain ⟨g1, g2⟩ := lg_ext (t := t) (s := nxS l row p) (row := row) (q := nxP l row p) (by rw [c1']; decide)
    rw [g1, if_neg c1, g2 c1']
    by_cases c2 : dtE d row (lgP (nxS l row p) (nxP l row p)) ≠ 0
    · rw [if_pos c2] at h
      have h1 : dtE d row (lgP (nxS l row p) (nxP l row p)) = e := by injection h
      obtain ⟨k1, _⟩ := dt_ext (t := t) hb (by rw [h1]; exact he)
      rw [k1, if_pos c2]; exact h
    rw [if_neg c2] at h
    have c2' : dtE d row (lgP (nxS l row p) (nxP l row p)) = 0 := by omega
    obtain ⟨k1, k2⟩ := dt_ext (t := t) (d := d) (row := row) (q := lgP (nxS l row p) (nxP l row p)) hb (by rw [c2']; decide)
    obtain ⟨m1, m2⟩ := k2 c2'
    rw [k1, if_neg c2, m1, m2]; exact h

theorem Sys.ext {l d row t : List Int} {L p : Nat} {out : List Int} {e : Int} {q : Nat} {o : List Int} (hd : dcE l = 0) (hb : Bit (row ++ t)) (h : Sys l d row L p out e q o) : e ≠ 80 → Sys l d (row ++ t) L p out e q o := by
  induction h with
  | bad h1 h2 => exact fun he => Sys.bad (sy1_ext hd hb h1 he) h2
  | fin h1 => exact fun _ => Sys.fin (sy1_ext hd hb h1 (by decide))
  | go h1 h2 ih => exact fun he => Sys.go (sy1_ext hd hb h1 (by decide)) (ih he)

theorem st1_ext {row t : List Int} {L p : Nat} {out : List Int} {e : Int} {q : Nat} {o : List Int} (hb : Bit (row ++ t)) (h : st1 row L p out = (e, q, o)) (he : e ≠ 80) : st1 (row ++ t) L p out = (e, q, o) := by
  unfold st1 at h ⊢
  by_cases c0 : row.length < algn p + 32
  · rw [if_pos c0] at h; injection h with h; exact absurd h.symm he
  rw [if_neg c0] at h
  rw [if_neg (by rw [List.length_append]; omega), ahead_ext (by omega), ahead_ext (by omega)]
  by_cases c1 : ahead row (algn p) 16 + ahead row (algn p + 16) 16 ≠ 65535
  · rw [if_pos c1] at h ⊢; exact h
  rw [if_neg c1] at h ⊢
  by_cases c2 : L < out.length + (ahead row (algn p) 16).toNat
  · rw [if_pos c2] at h ⊢; exact h
  rw [if_neg c2] at h ⊢
  by_cases c3 : row.length < algn p + 32 + 8 * (ahead row (algn p) 16).toNat
  · rw [if_pos c3] at h; injection h with h; exact absurd h.symm he
  rw [if_neg c3] at h
  rw [if_neg (by rw [List.length_append]; omega), List.drop_append_of_le_length (by omega), List.take_append_of_le_length (by rw [List.length_drop]; omega)]
  exact h

theorem Blk.ext {row t : List Int} {L p : Nat} {out : List Int} {e : Int} {f : Bool} {k : Int} {q : Nat} {o : List Int} (hb : Bit (row ++ t)) (h : Blk row L p out e f k q o) (h80 : e ≠ 80) (h70 : e ≠ 70) : Blk (row ++ t) L p out e f k q o := by
  have hl : ∀ {n : Nat}, n ≤ row.length → n ≤ (row ++ t).length := fun h => by rw [List.length_append]; omega
  cases h with
  | short h1 => exact absurd rfl h80
  | three h1 h2 => exact Blk.three (hl h1) (by rw [ahead_ext (by omega)]; exact h2)
  | stored h1 h2 h3 =>
    have := Blk.stored (L := L) (out := out) (hl h1) (by rw [ahead_ext (by omega)]; exact h2) (st1_ext hb h3 h80)
    rwa [ahead_ext (by omega)] at this
  | fixed h1 h2 h3 =>
    have := Blk.fixed (hl h1) (by rw [ahead_ext (by omega)]; exact h2) (h3.ext fl_ok hb h80)
    rwa [ahead_ext (by omega)] at this
  | head h1 h2 h3 =>
    obtain ⟨r, _⟩ := rd_ext (t := t) (p := p + 3) hb h70
    have := Blk.head (row := row ++ t) (L := L) (p := p) (out := out) (b := f) (k := k) (hl h1) (by rw [ahead_ext (by omega)]; exact h2) (by rw [r]; exact h3)
    rwa [r] at this
  | dyn h1 h2 h3 h4 =>
    obtain ⟨r, _⟩ := rd_ext (t := t) (p := p + 3) hb (by rw [h3]; decide)
    have h4' := h4.ext (rd_good (bit_front hb) h3).1 hb h80
    have := Blk.dyn (row := row ++ t) (L := L) (p := p) (out := out) (hl h1) (by rw [ahead_ext (by omega)]; exact h2) (by rw [r]; exact h3) (by rw [r]; exact h4')
    rwa [ahead_ext (by omega)] at this

theorem Txt.ext {row t : List Int} {L p : Nat} {out : List Int} {ps : List Pc} {e : Int} {q : Nat} {o : List Int} (hb : Bit (row ++ t)) (h : Txt row L p out ps e q o) : e ≠ 80 → e ≠ 70 → Txt (row ++ t) L p out ps e q o := by
  induction h with
  | bad h1 h2 => exact fun a b => Txt.bad (h1.ext hb a b) h2
  | last h1 => exact fun _ _ => Txt.last (h1.ext hb (by decide) (by decide))
  | go h1 h2 ih => exact fun a b => Txt.go (h1.ext hb (by decide) (by decide)) (ih a b)

/-- More bytes behind change no answer but that the bits end. -/
theorem Ifl.ext {data more : List Int} {limit e : Int} {n : Nat} {o : List Int} (h : Ifl data limit e n o) (hl : (data ++ more).length ≤ 33554432) (h80 : e ≠ 80) (h70 : e ≠ 70) : Ifl (data ++ more) limit e n o := by
  rcases h with ⟨hd, rfl, rfl, rfl⟩ | ⟨hd, ps, q, o', ht, hr⟩
  · refine .inl ⟨fun h => hd ⟨?_, h.2⟩, rfl, rfl, rfl⟩
    rw [List.length_append] at hl; omega
  · refine .inr ⟨⟨hl, hd.2⟩, ps, q, o', ?_, hr⟩
    rw [unpack_append]
    exact ht.ext (by rw [← unpack_append]; exact bit_unpack _) h80 h70

theorem Ifl.used {data : List Int} {limit : Int} {n : Nat} {o : List Int} (h : Ifl data limit 0 n o) : 0 < n ∧ n ≤ 8 * data.length ∧ o.length ≤ 16777216 ∧ data.length ≤ 33554432 ∧ (o.length : Int) ≤ limit := by
  rcases h with ⟨_, h, _⟩ | ⟨hd, ps, q, o', ht, ⟨_, rfl, rfl⟩ | ⟨h, _⟩⟩
  · cases h
  · have hm := ht.mono (bit_unpack data) rfl
    rw [length_unpack] at hm
    have hlim := ht.limit (L' := limit.toNat) (bit_unpack data) rfl (Nat.zero_le _)
    have hle : o.length ≤ limit.toNat := by
      rcases Nat.lt_or_ge limit.toNat o.length with c | c
      · obtain ⟨ps', q', o'', h'⟩ := hlim.2 c
        have := (ht.det h').2.1
        cases this
      · exact c
    omega
  · exact absurd rfl h

/-- Where a text is cut off ahead of its last bit the bits end. -/
theorem Ifl.cut {data : List Int} {limit e : Int} {n n' k : Nat} {o o' : List Int} (h : Ifl data limit 0 n o) (hk : 8 * k < n) (h' : Ifl (data.take k) limit e n' o') : e = 80 ∨ e = 70 := by
  by_cases h80 : e = 80
  · exact .inl h80
  by_cases h70 : e = 70
  · exact .inr h70
  exfalso
  have hu := h.used
  have hx := h'.ext (more := data.drop k) (by rw [List.take_append_drop]; exact hu.2.2.2.1) h80 h70
  rw [List.take_append_drop] at hx
  obtain ⟨rfl, rfl, rfl⟩ := h.det hx
  have := h'.used
  rw [List.length_take] at this
  omega
end Go.Proofs.YtpmgnpfpnkmmbaaGreatDoor

