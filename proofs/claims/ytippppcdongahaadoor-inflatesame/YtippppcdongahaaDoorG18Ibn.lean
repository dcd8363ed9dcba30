import Derived.Test.YtippppcdongahaaDoorG15Wkq
namespace Go.Proofs.YtippppcdongahaaDoor
open Go.RowKit Go.Maps
set_option maxRecDepth 20000
set_option linter.unusedVariables false

/-! What Blocks tells, in numbers: the blocks of a text up to the first that is not whole, each with its bytes. -/

theorem cpy_pre (d : Nat) : ∀ n out, ∃ s, cpy d n out = out ++ s
  | 0, out => ⟨[], by simp [cpy]⟩
  | n + 1, out => by
    obtain ⟨s, h⟩ := cpy_pre d n (out ++ [out.getD (out.length - d) 0])
    exact ⟨[out.getD (out.length - d) 0] ++ s, by rw [cpy, h, List.append_assoc]⟩

theorem sy1_pre {l d row : List Int} {L p : Nat} {out : List Int} {b : Bool} {q : Nat} {o : List Int} (h : sy1 l d row L p out = (0, b, q, o)) : ∃ s, o = out ++ s := by
  by_cases c0 : syE l row p ≠ 0
  · rw [sy1_bad c0] at h
    injection h with h
    exact absurd h c0
  have c0' : syE l row p = 0 := by omega
  rcases Nat.lt_trichotomy (nxS l row p) 256 with c | c | c
  · rw [sy1_lit c0' c] at h
    by_cases c1 : L < out.length + 1
    · rw [if_pos c1] at h; injection h with h; cases h
    · rw [if_neg c1] at h
      injection h with _ h
      injection h with _ h
      injection h with h1 h2
      exact ⟨_, h2.symm⟩
  · rw [sy1_end c0' c] at h
    injection h with _ h
    injection h with _ h
    injection h with h1 h2
    exact ⟨[], by rw [← h2, List.append_nil]⟩
  · rw [sy1_copy c0' c] at h
    by_cases c1 : lgE (nxS l row p) row (nxP l row p) ≠ 0
    · rw [if_pos c1] at h; injection h with h; exact absurd h c1
    rw [if_neg c1] at h
    by_cases c2 : dtE d row (lgP (nxS l row p) (nxP l row p)) ≠ 0
    · rw [if_pos c2] at h; injection h with h; exact absurd h c2
    rw [if_neg c2] at h
    by_cases c3 : agE L out (lgV (nxS l row p) row (nxP l row p)) (dtV d row (lgP (nxS l row p) (nxP l row p))) ≠ 0
    · rw [if_pos c3] at h; injection h with h; exact absurd h c3
    rw [if_neg c3] at h
    injection h with _ h
    injection h with _ h
    injection h with h1 h2
    obtain ⟨s, hs⟩ := cpy_pre (dtV d row (lgP (nxS l row p) (nxP l row p))) (lgV (nxS l row p) row (nxP l row p)) out
    exact ⟨s, by rw [← h2, hs]⟩

theorem Sys.pre {l d row : List Int} {L p : Nat} {out : List Int} {e : Int} {q : Nat} {o : List Int} (h : Sys l d row L p out e q o) : ∃ s, o = out ++ s := by
  induction h with
  | bad h1 h2 => exact ⟨[], by simp⟩
  | fin h1 => exact sy1_pre h1
  | go h1 h2 ih =>
    obtain ⟨s, hs⟩ := sy1_pre h1
    obtain ⟨t, ht⟩ := ih
    exact ⟨s ++ t, by rw [ht, hs, List.append_assoc]⟩

theorem st1_pre {row : List Int} {L p : Nat} {out : List Int} {e : Int} {q : Nat} {o : List Int} (h : st1 row L p out = (e, q, o)) : ∃ s, o = out ++ s := by
  unfold st1 at h
  by_cases c0 : row.length < algn p + 32
  · rw [if_pos c0] at h; injection h with _ h; injection h with _ h; exact ⟨[], by rw [← h, List.append_nil]⟩
  rw [if_neg c0] at h
  by_cases c1 : ahead row (algn p) 16 + ahead row (algn p + 16) 16 ≠ 65535
  · rw [if_pos c1] at h; injection h with _ h; injection h with _ h; exact ⟨[], by rw [← h, List.append_nil]⟩
  rw [if_neg c1] at h
  by_cases c2 : L < out.length + (ahead row (algn p) 16).toNat
  · rw [if_pos c2] at h; injection h with _ h; injection h with _ h; exact ⟨[], by rw [← h, List.append_nil]⟩
  rw [if_neg c2] at h
  by_cases c3 : row.length < algn p + 32 + 8 * (ahead row (algn p) 16).toNat
  · rw [if_pos c3] at h; injection h with _ h; injection h with _ h; exact ⟨[], by rw [← h, List.append_nil]⟩
  rw [if_neg c3] at h
  injection h with _ h
  injection h with _ h
  exact ⟨_, h.symm⟩

theorem Blk.pre {row : List Int} {L p : Nat} {out : List Int} {f : Bool} {k : Int} {q : Nat} {o : List Int} {e : Int} (h : Blk row L p out e f k q o) : ∃ s, o = out ++ s := by
  cases h with
  | short h1 => exact ⟨[], by simp⟩
  | three h1 h2 => exact ⟨[], by simp⟩
  | stored h1 h2 h3 => exact st1_pre h3
  | fixed h1 h2 h3 => exact h3.pre
  | head h1 h2 h3 => exact ⟨[], by simp⟩
  | dyn h1 h2 h3 h4 => exact h4.pre

theorem Blk.kind {row : List Int} {L p : Nat} {out : List Int} {f : Bool} {k : Int} {q : Nat} {o : List Int} {e : Int} (h : Blk row L p out e f k q o) (he : e = 0) : 0 ≤ k ∧ k ≤ 2 := by
  cases h with
  | short h1 => cases he
  | three h1 h2 => cases he
  | stored h1 h2 h3 => omega
  | fixed h1 h2 h3 => omega
  | head h1 h2 h3 => exact absurd he h3
  | dyn h1 h2 h3 h4 => omega

theorem Blk.lt3 {row : List Int} {L p : Nat} {out : List Int} {f : Bool} {k : Int} {q : Nat} {o : List Int} {e : Int} (hb : Bit row) (h : Blk row L p out e f k q o) (he : e = 0) : p + 3 ≤ q := by
  cases h with
  | short h1 => cases he
  | three h1 h2 => cases he
  | stored h1 h2 h3 => subst he; have := st1_lt hb h3; omega
  | fixed h1 h2 h3 => have := h3.lt hb fl_ok he; omega
  | head h1 h2 h3 => exact absurd he h3
  | dyn h1 h2 h3 h4 =>
    have := h4.lt hb (rd_good hb h3).1 he
    have := rd_le h3
    omega

inductive Chn (d : Bool) : Nat → Nat → List Pc → Nat → Nat → Prop
  | nil {a n : Nat} : d = false → Chn d a n [] a n
  | last {a n b z : Nat} {k : Int} : d = true → 0 ≤ k → k ≤ 2 → a + 3 ≤ b → n ≤ z → Chn d a n [⟨k, true, a, b, n, z⟩] b z
  | go {a n q m b z : Nat} {k : Int} {ps : List Pc} : 0 ≤ k → k ≤ 2 → a + 3 ≤ q → n ≤ m → Chn d q m ps b z → Chn d a n (⟨k, false, a, q, n, m⟩ :: ps) b z

theorem Txt.chn {row : List Int} {L p : Nat} {out : List Int} {ps : List Pc} {e : Int} {q : Nat} {o : List Int} (hb : Bit row) (h : Txt row L p out ps e q o) : Chn (e == 0) p out.length ps q o.length := by
  induction h with
  | bad h1 h2 => exact Chn.nil (by simpa using h2)
  | last h1 =>
    have a := h1.lt hb rfl
    have k := h1.kind rfl
    exact Chn.last rfl k.1 k.2 (h1.lt3 hb rfl) (by omega)
  | go h1 h2 ih =>
    have a := h1.lt hb rfl
    have k := h1.kind rfl
    exact Chn.go k.1 k.2 (h1.lt3 hb rfl) (by omega) ih

theorem Txt.pre {row : List Int} {L p : Nat} {out : List Int} {ps : List Pc} {e : Int} {q : Nat} {o : List Int} (h : Txt row L p out ps e q o) : ∃ s, o = out ++ s := by
  induction h with
  | bad h1 h2 => exact ⟨[], by simp⟩
  | last h1 => exact h1.pre
  | go h1 h2 ih =>
    obtain ⟨s, hs⟩ := h1.pre
    obtain ⟨t, ht⟩ := ih
    exact ⟨s ++ t, by rw [ht, hs, List.append_assoc]⟩

theorem Txt.le {row : List Int} {L p : Nat} {out : List Int} {ps : List Pc} {e : Int} {q : Nat} {o : List Int} (hb : Bit row) (h : Txt row L p out ps e q o) : p ≤ row.length → out.length ≤ L → q ≤ row.length ∧ o.length ≤ L := by
  induction h with
  | bad h1 h2 => exact fun a b => ⟨a, b⟩
  | last h1 => intro a b; have := h1.lt hb rfl; omega
  | go h1 h2 ih => intro a b; have := h1.lt hb rfl; exact ih (by omega) (by omega)

def sg (o : List Int) (x : Pc) : List Int := (o.drop x.to0).take (x.to1 - x.to0)

theorem sg_at {out s t : List Int} {x : Pc} (h0 : x.to0 = out.length) (h1 : x.to1 = (out ++ s).length) : sg (out ++ s ++ t) x = s := by
  unfold sg
  rw [h0, h1, List.append_assoc, List.drop_left, List.length_append, Nat.add_sub_cancel_left, List.take_left]

theorem Txt.segs {row : List Int} {L p : Nat} {out : List Int} {ps : List Pc} {e : Int} {q : Nat} {o : List Int} (h : Txt row L p out ps e q o) : out ++ ps.flatMap (sg o) = o := by
  induction h with
  | bad h1 h2 => simp
  | @last p out k q o h1 =>
    obtain ⟨s, rfl⟩ := h1.pre
    have e : sg (out ++ s) ⟨k, true, p, q, out.length, (out ++ s).length⟩ = s := by
      have := sg_at (out := out) (s := s) (t := []) (x := ⟨k, true, p, q, out.length, (out ++ s).length⟩) rfl rfl
      rwa [List.append_nil] at this
    rw [List.flatMap_cons, List.flatMap_nil, List.append_nil, e]
  | @go p out k q o ps e q' o' h1 h2 ih =>
    obtain ⟨s, rfl⟩ := h1.pre
    obtain ⟨t, rfl⟩ := h2.pre
    rw [List.flatMap_cons, sg_at (out := out) (s := s) (t := t) (x := ⟨k, false, p, q, out.length, (out ++ s).length⟩) rfl rfl, ← List.append_assoc]
    exact ih

end Go.Proofs.YtippppcdongahaaDoor

