import Derived.Test.YtjjepgkcgbbmhaaDoorGErl
namespace Go.Proofs.YtjjepgkcgbbmhaaDoor
open Go.RowKit
set_option maxRecDepth 20000
set_option linter.unusedVariables false
set_option linter.unusedSimpArgs false

theorem pk_first : pkD ⟨1980, 1, 1, 0, 0, 0⟩ = 33 ∧ pkC ⟨1980, 1, 1, 0, 0, 0⟩ = 0 ∧ pkE ⟨1980, 1, 1, 0, 0, 0⟩ = 0 := by decide

theorem pk_last : pkD ⟨2107, 12, 31, 23, 59, 59⟩ = 65439 ∧ pkC ⟨2107, 12, 31, 23, 59, 59⟩ = 49021 ∧ pkE ⟨2107, 12, 31, 23, 59, 59⟩ = 0 := by decide

theorem pk_yes {t : Stp} (h : May t) : pkE t = 0 ∧ pkD t = (t.y - 1980) * 512 + t.mo * 32 + t.d ∧ pkC t = t.h * 2048 + t.mi * 32 + t.s / 2 := ⟨if_pos h, if_pos h, if_pos h⟩

theorem pk_no {t : Stp} (h : ¬ May t) : pkE t = 121 ∧ pkD t = 0 ∧ pkC t = 0 := ⟨if_neg h, if_neg h, if_neg h⟩

structure Rng (t : Stp) : Prop where
  y0 : 1980 ≤ t.y
  y1 : t.y ≤ 2107
  m0 : 1 ≤ t.mo
  m1 : t.mo ≤ 12
  d0 : 1 ≤ t.d
  d1 : t.d ≤ 31
  h0 : 0 ≤ t.h
  h1 : t.h ≤ 23
  i0 : 0 ≤ t.mi
  i1 : t.mi ≤ 59
  s0 : 0 ≤ t.s
  s1 : t.s ≤ 59

theorem May.rng {t : Stp} (h : May t) : Rng t := by
  obtain ⟨g1, g2, g3, g4, g5, g6, g7, g8, g9, g10, g11, g12⟩ := (may_num t).1 h
  exact ⟨g1, g2, g3, g4, g5, Int.le_trans g6 (dys_le g3 g4), g7, g8, g9, g10, g11, g12⟩

theorem evn_may {t : Stp} (h : May t) : May (evn t) := by
  obtain ⟨g1, g2, g3, g4, g5, g6, g7, g8, g9, g10, g11, g12⟩ := (may_num t).1 h
  refine (may_num _).2 ⟨g1, g2, g3, g4, g5, g6, g7, g8, g9, g10, ?_, ?_⟩
  · show 0 ≤ t.s / 2 * 2; omega
  · show t.s / 2 * 2 ≤ 59; omega

theorem uS_pk {t : Stp} (h : May t) : uS (pkD t) (pkC t) = evn t := by
  obtain ⟨-, e1, e2⟩ := pk_yes h
  have r := h.rng
  obtain ⟨y0, y1, m0, m1, d0, d1, h0, h1, i0, i1, s0, s1⟩ := r
  rw [e1, e2]
  obtain ⟨y, mo, d, hh, mi, s⟩ := t
  simp only at *
  unfold uS evn
  simp only [Stp.mk.injEq]
  refine ⟨by omega, by omega, by omega, by omega, by omega, by omega⟩

theorem u_pk {t : Stp} (h : May t) : uE (pkD t) (pkC t) = 0 ∧ uA (pkD t) (pkC t) = evn t := by
  have r := h.rng
  obtain ⟨y0, y1, m0, m1, d0, d1, h0, h1, i0, i1, s0, s1⟩ := r
  obtain ⟨-, e1, e2⟩ := pk_yes h
  have hx : ¬ (pkD t < 0 ∨ 65535 < pkD t ∨ pkC t < 0 ∨ 65535 < pkC t) := by rw [e1, e2]; omega
  have hE : uE (pkD t) (pkC t) = 0 := by
    unfold uE
    rw [if_neg hx, uS_pk h, if_pos (evn_may h)]
  exact ⟨hE, by rw [u_good hE, uS_pk h]⟩

/-- What 'ahead' says. -/
theorem erl_num {a b : Stp} (h : erl a b 6 = true) : a.y < b.y ∨ a.y = b.y ∧ (a.mo < b.mo ∨ a.mo = b.mo ∧ (a.d < b.d ∨ a.d = b.d ∧ (a.h < b.h ∨ a.h = b.h ∧ (a.mi < b.mi ∨ a.mi = b.mi ∧ a.s < b.s)))) := by
  obtain ⟨y, mo, d, hh, mi, s⟩ := a
  obtain ⟨y', mo', d', hh', mi', s'⟩ := b
  simp only [erl, fAt, List.getD, Nat.sub_self, Nat.reduceSub] at h
  simp at h
  simp only
  split at h <;> rename_i c0
  · split at h <;> rename_i c1
    · split at h <;> rename_i c2
      · split at h <;> rename_i c3
        · split at h <;> rename_i c4
          · omega
          · omega
        · omega
      · omega
    · omega
  · omega

def nmb (t : Stp) : Int := pkD t * 65536 + pkC t

theorem nmb_le {a b : Stp} (ha : May a) (hb : May b) (h : erl a b 6 = true) : nmb a ≤ nmb b := by
  have hn := erl_num h
  obtain ⟨-, e1, e2⟩ := pk_yes ha
  obtain ⟨-, e3, e4⟩ := pk_yes hb
  obtain ⟨y0, y1, m0, m1, d0, d1, h0, h1, i0, i1, s0, s1⟩ := ha.rng
  obtain ⟨y0', y1', m0', m1', d0', d1', h0', h1', i0', i1', s0', s1'⟩ := hb.rng
  unfold nmb
  rw [e1, e2, e3, e4]
  omega

theorem nmb_lt {a b : Stp} (ha : May a) (hb : May b) (h : erl (evn a) (evn b) 6 = true) : nmb a < nmb b := by
  have hn := erl_num h
  obtain ⟨-, e1, e2⟩ := pk_yes ha
  obtain ⟨-, e3, e4⟩ := pk_yes hb
  obtain ⟨y0, y1, m0, m1, d0, d1, h0, h1, i0, i1, s0, s1⟩ := ha.rng
  obtain ⟨y0', y1', m0', m1', d0', d1', h0', h1', i0', i1', s0', s1'⟩ := hb.rng
  simp only [evn] at hn
  unfold nmb
  rw [e1, e2, e3, e4]
  omega

theorem pk_bound (t : Stp) : 0 ≤ pkD t ∧ pkD t ≤ 65535 ∧ 0 ≤ pkC t ∧ pkC t ≤ 65535 := by
  by_cases h : May t
  · obtain ⟨-, e1, e2⟩ := pk_yes h
    obtain ⟨y0, y1, m0, m1, d0, d1, h0, h1, i0, i1, s0, s1⟩ := h.rng
    rw [e1, e2]
    omega
  · obtain ⟨-, e1, e2⟩ := pk_no h
    rw [e1, e2]
    omega
end Go.Proofs.YtjjepgkcgbbmhaaDoor

