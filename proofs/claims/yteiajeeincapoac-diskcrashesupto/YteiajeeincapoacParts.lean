import Derived.Test.YteiajeeincapoacPaint
namespace Go.Proofs.Yteiajeeincapoac
open Go.RowKit Go.Maps

theorem paint_any {v vd : Value} {l d : List Int} {at' z : Nat} {w : World} (h : OB w 0 v l) (hl : l.length ≤ 16777216) (hz : at' + z ≤ 16777216) (hvd : SB w vd d) (hne : ∀ k, v.ownBlock = some k → vd.ownBlock ≠ some k) :
    Calls Try.prog 53 #[.agg #[.int .i64 at', .int .i64 z, vd], v] w fun e w' => e = .returned (.tuple #[]) ∧ OB w' 0 v (paintL l (at', z, d)) ∧ w.grownBy w' v.ownBlock := by
  by_cases hp : at' < l.length
  · obtain ⟨g, c, sp, rfl, hc, hcl, hg⟩ := h.row (by omega)
    refine (paint_yes hc hcl hg hl hp hz hvd (hne g rfl)).mono ?_
    rintro e w' ⟨rfl, h1, h2⟩
    refine ⟨rfl, ?_, h2⟩
    have := OB.of_row (l := paintL l (at', z, d)) hc (by rw [length_paintL]; exact hcl) h1
    rw [length_paintL] at this
    exact this
  · obtain ⟨ad, cd, hv, _⟩ := hvd
    refine (paint_no h (by omega) ⟨ad, d.length, cd, hv⟩).mono ?_
    rintro e w' ⟨rfl, hb⟩
    refine ⟨rfl, ?_, ⟨hb.os, hb.tape, hb.output, hb.size, fun k hk _ => hb.block k hk⟩⟩
    have e : paintL l (at', z, d) = l := by unfold paintL; rw [if_pos (by simp; omega)]
    rw [e]
    exact h.below hb (Nat.le_refl _)

def keptN (n : Int) (all : Nat) : Nat := min n.toNat all

theorem kept_any (n : Int) (all : Nat) (w : World) : Calls Try.prog 52 #[.int .i64 n, .int .i64 all] w fun e w' => e = .returned (.int .i64 (keptN n all)) ∧ w' = w := by
  by_cases h0 : n < 0
  · have e : ((keptN n all : Nat) : Int) = 0 := by unfold keptN; omega
    have HE := hide e
    clear e
    go_enter Try.func52, Try.ntmps52
    go_wp2
    all_goals
      go_ret
      rw [HE.out]
      refine ⟨?_, rfl⟩
      first | rfl | (congr 2; omega)
  · by_cases h1 : n ≤ all
    · have e : ((keptN n all : Nat) : Int) = n := by unfold keptN; omega
      have HE := hide e
      clear e
      go_enter Try.func52, Try.ntmps52
      go_wp2
      all_goals
        go_ret
        rw [HE.out]
        refine ⟨?_, rfl⟩
        first | rfl | (congr 2; omega)
    · have e : ((keptN n all : Nat) : Int) = all := by unfold keptN; omega
      have HE := hide e
      clear e
      go_enter Try.func52, Try.ntmps52
      go_wp2
      all_goals
        go_ret
        rw [HE.out]
        refine ⟨?_, rfl⟩
        first | rfl | (congr 2; omega)

def behind (st : St) (k : Int) : Nat := if 0 < keptN k st.sizes.length then st.sizes.getD (keptN k st.sizes.length - 1) 0 else st.dur.length

theorem sizeBehind_any {w : World} {K : Nat → Nat} {g : Nat} {st : St} (k : Int) (h : Rep w K g st) (hz : st.sizes.length ≤ 10000000000000) :
    Calls Try.prog 51 #[.pointer (some ⟨g, 0, none⟩), .int .i64 k] w fun e w' => e = .returned (.int .i64 (behind st k)) ∧ w' = w := by
  obtain ⟨vn, vd, m, vs, D, h⟩ := h
  obtain ⟨c0, c1, c2, c3, c4, c5, c6, c7, c8⟩ := h.dc.at
  obtain ⟨an, cn, hvd⟩ := h.hd.shape
  have hcn : st.dur.length ≤ cn ∧ cn ≤ maxLen := by
    obtain ⟨a, c, e, h1, h2, _⟩ := h.hd.sb
    rw [hvd] at e
    simp only [Value.slice.injEq] at e
    obtain ⟨-, -, rfl⟩ := e
    exact ⟨h1, h2⟩
  obtain ⟨az, cz, hvs⟩ := h.hs.shape
  subst hvd hvs
  obtain ⟨hcn1, hcn2⟩ := hcn
  unfold maxLen at hcn2
  have HS := hide h.hs
  clear h c0 c1 c3 c5 c6 c7 c8
  have hk1 : keptN k st.sizes.length ≤ st.sizes.length := by unfold keptN; omega
  have HB : Hid (behind st k = if 0 < keptN k st.sizes.length then st.sizes.getD (keptN k st.sizes.length - 1) 0 else st.dur.length) := rfl
  go_enter Try.func51, Try.ntmps51
  go_wp2_with fail
  refine (kept_any _ _ _).mono ?_
  rintro e w2 ⟨rfl, rfl⟩
  generalize keptN k st.sizes.length = q at *
  by_cases h0 : 0 < q
  · have hq : (0 : Int) < (q : Int) := by omega
    rcases HS.out.2 with ⟨hn1, hn2⟩ | ⟨gz, cap, cur, hn1, hn2⟩
    · omega
    · simp only [Value.slice.injEq] at hn1
      obtain ⟨rfl, -, -⟩ := hn1
      have hcell := World.ownsRow.cells HS.out (g := gz) rfl (q - 1) (.int .i64 (st.sizes.getD (q - 1) 0)) (by simp [show q - 1 < st.sizes.length by omega])
      rw [Addr.add_lit] at hcell
      have hidx : ((q : Int) - 1).toNat = q - 1 := by omega
      have hb1 : (q : Int) - 1 < (st.sizes.length : Int) := by omega
      have hb0 : (0 : Int) ≤ (q : Int) - 1 := by omega
      simp only [Nat.zero_add] at hcell
      generalize st.sizes.getD (q - 1) 0 = r at hcell HB
      go_wp2
      go_ret
      rw [HB.out, if_pos h0]
      exact ⟨rfl, rfl⟩
  · have hq : ¬ (0 : Int) < (q : Int) := by omega
    go_wp2
    go_ret
    rw [HB.out, if_neg h0]
    exact ⟨rfl, rfl⟩

theorem end_any {w : World} {vd : Value} {d : List Int} {at' z : Nat} (hvd : SB w vd d) (hz : at' + z + d.length ≤ 16777216) :
    Calls Try.prog 55 #[.agg #[.int .i64 at', .int .i64 z, vd]] w fun e w' => e = .returned (.int .i64 (at' + z + d.length : Nat)) ∧ Below w.heap.size w w' := by
  obtain ⟨ad, cd, hv, hd1, hd2, _⟩ := hvd
  subst hv
  unfold maxLen at hd2
  go_enter Try.func55, Try.ntmps55
  go_wp2
  go_ret
  exact ⟨by first | rfl | (congr 2; omega), (Below.refl _ _).alloc (Nat.le_refl _) _⟩
end Go.Proofs.Yteiajeeincapoac
