import Derived.Test.YtpmgnpfpnkmmbaaGreatDoorG15Qr2
namespace Go.Proofs.YtpmgnpfpnkmmbaaGreatDoor
open Go.RowKit Go.Maps
set_option maxRecDepth 20000
set_option linter.unusedVariables false

theorem sy1_limit {l d row : List Int} {L L' p : Nat} {out : List Int} {b : Bool} {q : Nat} {o : List Int} (hl : out.length ≤ L') (h : sy1 l d row L p out = (0, b, q, o)) :
    (o.length ≤ L' → sy1 l d row L' p out = (0, b, q, o)) ∧ (L' < o.length → sy1 l d row L' p out = (85, false, p, out)) := by
  by_cases c0 : syE l row p ≠ 0
  · rw [sy1_bad c0] at h
    injection h with h
    exact absurd h c0
  have c0' : syE l row p = 0 := by omega
  rcases Nat.lt_trichotomy (nxS l row p) 256 with c | c | c
  · rw [sy1_lit c0' c] at h
    rw [sy1_lit c0' c]
    by_cases c1 : L < out.length + 1
    · rw [if_pos c1] at h; injection h with h; cases h
    · rw [if_neg c1] at h
      have ho : o.length = out.length + 1 := by
        injection h with _ h
        injection h with _ h
        injection h with h1 h2
        rw [← h2]; simp
      exact ⟨fun q => by rw [if_neg (by omega)]; exact h, fun q => by rw [if_pos (by omega)]⟩
  · rw [sy1_end c0' c] at h
    rw [sy1_end c0' c]
    have ho : o = out := by
      injection h with _ h
      injection h with _ h
      injection h with h1 h2
      exact h2.symm
    subst ho
    exact ⟨fun q => h, fun q => by omega⟩
  · rw [sy1_copy c0' c] at h
    rw [sy1_copy c0' c]
    by_cases c1 : lgE (nxS l row p) row (nxP l row p) ≠ 0
    · rw [if_pos c1] at h; injection h with h; exact absurd h c1
    rw [if_neg c1] at h ⊢
    by_cases c2 : dtE d row (lgP (nxS l row p) (nxP l row p)) ≠ 0
    · rw [if_pos c2] at h; injection h with h; exact absurd h c2
    rw [if_neg c2] at h ⊢
    obtain ⟨V, hV⟩ : ∃ V, lgV (nxS l row p) row (nxP l row p) = V := ⟨_, rfl⟩
    obtain ⟨D, hD⟩ : ∃ D, dtV d row (lgP (nxS l row p) (nxP l row p)) = D := ⟨_, rfl⟩
    rw [hV, hD] at h ⊢
    by_cases c3 : agE L out V D ≠ 0
    · rw [if_pos c3] at h; injection h with h; exact absurd h c3
    rw [if_neg c3] at h
    have ho : o.length = out.length + V := by
      injection h with _ h
      injection h with _ h
      injection h with h1 h2
      rw [← h2, cpy_len]
    have hfar : ¬ out.length < D := fun d1 => by
      apply c3; unfold agE; rw [if_pos d1]; decide
    refine ⟨fun q => ?_, fun q => ?_⟩
    · have e : agE L' out V D = 0 := by unfold agE; rw [if_neg hfar, if_neg (by omega)]
      rw [if_neg (by simp [e])]; exact h
    · have e : agE L' out V D = 85 := by unfold agE; rw [if_neg hfar, if_pos (by omega)]
      rw [if_pos (by simp [e]), e]

theorem Sys.limit {l d row : List Int} {L L' p : Nat} {out : List Int} {e : Int} {q : Nat} {o : List Int} (hb : Bit row) (hd : dcE l = 0) (h : Sys l d row L p out e q o) : e = 0 → out.length ≤ L' →
    (o.length ≤ L' → Sys l d row L' p out 0 q o) ∧ (L' < o.length → ∃ q' o', Sys l d row L' p out 85 q' o') := by
  induction h with
  | bad h1 h2 => exact fun h => absurd h h2
  | fin h1 =>
    intro _ hl
    have := sy1_limit hl h1
    exact ⟨fun c => Sys.fin (this.1 c), fun c => ⟨_, _, Sys.bad (this.2 c) (by decide)⟩⟩
  | go h1 h2 ih =>
    intro he hl
    have hs := sy1_limit hl h1
    have hm := h2.lt hb hd he
    rename_i p1 out1 q1 o1 e1 q2 o2
    by_cases c : o1.length ≤ L'
    · obtain ⟨i1, i2⟩ := ih he c
      refine ⟨fun k => Sys.go (hs.1 c) (i1 k), fun k => ?_⟩
      obtain ⟨q', o', hq⟩ := i2 k
      exact ⟨q', o', Sys.go (hs.1 c) hq⟩
    · exact ⟨fun k => by omega, fun k => ⟨_, _, Sys.bad (hs.2 (by omega)) (by decide)⟩⟩

theorem st1_limit {row : List Int} {L L' p : Nat} {out : List Int} {q : Nat} {o : List Int} (hb : Bit row) (hl : out.length ≤ L') (h : st1 row L p out = (0, q, o)) :
    (o.length ≤ L' → st1 row L' p out = (0, q, o)) ∧ (L' < o.length → st1 row L' p out = (85, p, out)) := by
  unfold st1 at h ⊢
  by_cases c0 : row.length < algn p + 32
  · rw [if_pos c0] at h; injection h with h; cases h
  rw [if_neg c0] at h ⊢
  by_cases c1 : ahead row (algn p) 16 + ahead row (algn p + 16) 16 ≠ 65535
  · rw [if_pos c1] at h; injection h with h; cases h
  rw [if_neg c1] at h ⊢
  by_cases c2 : L < out.length + (ahead row (algn p) 16).toNat
  · rw [if_pos c2] at h; injection h with h; cases h
  rw [if_neg c2] at h
  by_cases c3 : row.length < algn p + 32 + 8 * (ahead row (algn p) 16).toNat
  · rw [if_pos c3] at h; injection h with h; cases h
  rw [if_neg c3] at h
  have h4 : (pack ((row.drop (algn p + 32)).take (8 * (ahead row (algn p) 16).toNat))).length = (ahead row (algn p) 16).toNat := by
    rw [length_pack ((hb.drop _).take _), List.length_take, List.length_drop]; omega
  have ho : o.length = out.length + (ahead row (algn p) 16).toNat := by
    injection h with _ h
    injection h with h1 h2
    rw [← h2, List.length_append, h4]
  exact ⟨fun k => by rw [if_neg (by omega), if_neg c3]; exact h, fun k => by rw [if_pos (by omega)]⟩

theorem Blk.limit {row : List Int} {L L' p : Nat} {out : List Int} {f : Bool} {k : Int} {q : Nat} {o : List Int} {e : Int} (hb : Bit row) (hl : out.length ≤ L') (h : Blk row L p out e f k q o) (he : e = 0) :
    (o.length ≤ L' → Blk row L' p out 0 f k q o) ∧ (L' < o.length → ∃ f k q o, Blk row L' p out 85 f k q o) := by
  cases h with
  | short h1 => cases he
  | three h1 h2 => cases he
  | stored h1 h2 h3 =>
    subst he
    have := st1_limit hb hl h3
    exact ⟨fun c => Blk.stored h1 h2 (this.1 c), fun c => ⟨_, _, _, _, Blk.stored h1 h2 (this.2 c)⟩⟩
  | fixed h1 h2 h3 =>
    have := h3.limit hb fl_ok he hl
    refine ⟨fun c => Blk.fixed h1 h2 (this.1 c), fun c => ?_⟩
    obtain ⟨q', o', hq⟩ := this.2 c
    exact ⟨_, _, _, _, Blk.fixed h1 h2 hq⟩
  | head h1 h2 h3 => exact absurd he h3
  | dyn h1 h2 h3 h4 =>
    have := h4.limit hb (rd_good hb h3).1 he hl
    refine ⟨fun c => Blk.dyn h1 h2 h3 (this.1 c), fun c => ?_⟩
    obtain ⟨q', o', hq⟩ := this.2 c
    exact ⟨_, _, _, _, Blk.dyn h1 h2 h3 hq⟩

theorem Txt.mono {row : List Int} {L p : Nat} {out : List Int} {ps : List Pc} {e : Int} {q : Nat} {o : List Int} (hb : Bit row) (h : Txt row L p out ps e q o) : e = 0 → out.length ≤ o.length ∧ p < q ∧ q ≤ row.length := by
  induction h with
  | bad h1 h2 => exact fun h => absurd h h2
  | last h1 => intro _; have := h1.lt hb rfl; omega
  | go h1 h2 ih => intro he; have := h1.lt hb rfl; have := ih he; omega

theorem Txt.limit {row : List Int} {L L' p : Nat} {out : List Int} {ps : List Pc} {e : Int} {q : Nat} {o : List Int} (hb : Bit row) (h : Txt row L p out ps e q o) : e = 0 → out.length ≤ L' →
    (o.length ≤ L' → ∃ ps, Txt row L' p out ps 0 q o) ∧ (L' < o.length → ∃ ps q' o', Txt row L' p out ps 85 q' o') := by
  induction h with
  | bad h1 h2 => exact fun h => absurd h h2
  | last h1 =>
    intro _ hl
    obtain ⟨i1, i2⟩ := h1.limit hb hl rfl
    refine ⟨fun c => ⟨_, Txt.last (i1 c)⟩, fun c => ?_⟩
    obtain ⟨f, k, q', o', hq⟩ := i2 c
    exact ⟨_, _, _, Txt.bad hq (by decide)⟩
  | go h1 h2 ih =>
    intro he hl
    obtain ⟨i1, i2⟩ := h1.limit hb hl rfl
    have hm := h2.mono hb he
    rename_i p1 out1 k1 q1 o1 ps1 e1 q2 o2
    by_cases c : o1.length ≤ L'
    · obtain ⟨j1, j2⟩ := ih he c
      refine ⟨fun k => ?_, fun k => ?_⟩
      · obtain ⟨ps', h'⟩ := j1 k
        exact ⟨_, Txt.go (i1 c) h'⟩
      · obtain ⟨ps', q', o', h'⟩ := j2 k
        exact ⟨_, _, _, Txt.go (i1 c) h'⟩
    · refine ⟨fun k => by omega, fun k => ?_⟩
      obtain ⟨f, k', q', o', hq⟩ := i2 (by omega)
      exact ⟨_, _, _, Txt.bad hq (by decide)⟩

/-- A text that is read with one limit, with another one. -/
theorem Ifl.limit {data : List Int} {limit other : Int} {n : Nat} {o : List Int} (h : Ifl data limit 0 n o) (h0 : 0 ≤ other) (h1 : other ≤ 16777216) :
    (other < o.length → Ifl data other 85 0 []) ∧ (¬ other < o.length → Ifl data other 0 n o) := by
  rcases h with ⟨_, h, _⟩ | ⟨hd, ps, q, o', ht, ⟨_, rfl, rfl⟩ | ⟨h, _⟩⟩
  · cases h
  · have hl := ht.limit (L' := other.toNat) (bit_unpack data) rfl (Nat.zero_le _)
    refine ⟨fun c => ?_, fun c => ?_⟩
    · obtain ⟨ps', q', o'', h'⟩ := hl.2 (by omega)
      exact .inr ⟨⟨hd.1, h0, h1⟩, _, _, _, h', .inr ⟨by decide, rfl, rfl⟩⟩
    · obtain ⟨ps', h'⟩ := hl.1 (by omega)
      exact .inr ⟨⟨hd.1, h0, h1⟩, _, _, _, h', .inl ⟨rfl, rfl, rfl⟩⟩
  · exact absurd rfl h

/-- A text of one letter. -/
theorem letter_is : Ifl [75, 4, 0] 1 0 18 [97] := by
  have hb : Bit (unpack [75, 4, 0]) := bit_unpack _
  have w1 := nx_word (l := FL) (row := unpack [75, 4, 0]) (p := 3) (s := 97) (rest := List.replicate 13 0) fl_ok ⟨by decide, by decide +kernel⟩ hb (by decide +kernel)
  have w2 := nx_word (l := FL) (row := unpack [75, 4, 0]) (p := 11) (s := 256) (rest := List.replicate 6 0) fl_ok ⟨by decide, by decide +kernel⟩ hb (by decide +kernel)
  have e1 : ln FL 97 = 8 := by decide +kernel
  have e2 : ln FL 256 = 7 := by decide +kernel
  rw [e1] at w1
  rw [e2] at w2
  have s1 : syE FL (unpack [75, 4, 0]) 3 = 0 := by unfold syE; rw [if_pos w1.1]
  have s2 : syE FL (unpack [75, 4, 0]) 11 = 0 := by unfold syE; rw [if_pos w2.1]
  have g1 : sy1 FL FD (unpack [75, 4, 0]) 1 3 [] = (0, false, 11, [97]) := by
    rw [sy1_lit s1 (by rw [w1.2.1]; decide), if_neg (by decide), w1.2.1, w1.2.2]; rfl
  have g2 : sy1 FL FD (unpack [75, 4, 0]) 1 11 [97] = (0, true, 18, [97]) := by
    rw [sy1_end s2 w2.2.1, w2.2.2]
  have hB : Blk (unpack [75, 4, 0]) 1 0 [] 0 (ahead (unpack [75, 4, 0]) 0 1 == 1) 1 18 [97] := Blk.fixed (by decide) (by decide +kernel) (Sys.go g1 (Sys.fin g2))
  have hf : (ahead (unpack [75, 4, 0]) 0 1 == 1) = true := by decide +kernel
  rw [hf] at hB
  exact .inr ⟨by decide, _, _, _, Txt.last hB, .inl ⟨rfl, rfl, rfl⟩⟩
end Go.Proofs.YtpmgnpfpnkmmbaaGreatDoor

