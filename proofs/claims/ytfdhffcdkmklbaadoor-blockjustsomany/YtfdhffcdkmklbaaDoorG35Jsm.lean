import Derived.Test.YtfdhffcdkmklbaaDoorG32Wbz
import Derived.Test.YtfdhffcdkmklbaaDoorG33Xck
import Derived.Test.YtfdhffcdkmklbaaDoorG03Lsk
import Derived.Test.YtfdhffcdkmklbaaDoorG01Sym
import Derived.BigQuiet
import Derived.Deep.QuietTactic
namespace Go.Proofs.YtfdhffcdkmklbaaDoor
open Go.RowKit Go.Maps
set_option maxRecDepth 20000
set_option linter.unusedVariables false
set_option linter.unusedSimpArgs false

/-- Tokens of one's own in a herd. -/
def ttk (v : Value) (R : List Tk) : Thing :=
  ⟨fun w K => OK w 0 v R ∧ (∀ k, v.ownBlock = some k → K k ≠ 0) ∧ ∀ k, K k ≠ 0 → k < w.heap.size,
   fun h a b => ⟨tokown_move h.1 fun k hk => b k (h.2.1 k hk), h.2.1, fun k hk => Nat.lt_of_lt_of_le (h.2.2 k hk) a⟩, fun h => h.2.2⟩

theorem ok_base {w : World} {B : Nat} {v : Value} {R : List Tk} (h : OK w B v R) : OK w 0 v R := by
  obtain ⟨h0, h1⟩ := h
  refine ⟨h0, ?_⟩
  rcases h1 with h1 | ⟨g, cap, cur, rfl, h2, h3⟩
  · exact .inl h1
  · exact .inr ⟨g, cap, cur, rfl, Nat.zero_le _, h3⟩

theorem Herd.toks {W w w' : World} {xs : List ((Nat → Nat) × Thing)} (h : Herd W w xs) (hb : Below w.heap.size w w') {v : Value} {R : List Tk} (ho : OK w' w.heap.size v R) : Herd W w' (xs ++ [(kOw v, ttk v R)]) :=
  h.push hb (x := ttk v R) ⟨ok_base ho, fun k hk => kOw_iff.2 hk, fun k hk => (OK.lt ho k (kOw_iff.1 hk)).2⟩ (fun k hk => (OK.lt ho k (kOw_iff.1 hk)).1)

theorem wt_small {R : List Tk} {l : List Int} {k : Int} (hl : l.length ≤ 65535) : wtE R l k = if k < 0 ∨ 2 < k then 103 else if asnd R = false then 100 else if 65535 < lsay R then 102 else if lsay R ≠ (l.length : Int) then 101 else 0 := by
  unfold wtE
  rw [if_neg (by omega)]
  by_cases c : k < 0 ∨ 2 < k
  · rw [if_pos (by omega), if_pos c]
  · rw [if_neg (by omega), if_neg c]
    unfold sdE sdN
    cases ha : asnd R with
    | false => simp
    | true =>
      simp only [if_true, Bool.true_eq_false, if_false]
      by_cases d : 65535 < lsay R
      · rw [if_pos d, if_pos d]; simp; intro q; omega
      · rw [if_neg d, if_neg d, if_neg d]
        simp only [ne_eq, not_true_eq_false, if_false]
        by_cases e : lsay R = (l.length : Int)
        · rw [if_neg (by simp [e]), if_neg (by simp [e])]
        · rw [if_pos (fun q => e q.symm), if_pos e]

set_option maxHeartbeats 2000000 in
theorem refusal_any (v vr : Value) (R : List Tk) (l : List Int) (k : Int) (w : World) (h : SK w v R) (hn : R.length ≤ 5864062014800) (hl : SB w vr l) (h65 : l.length ≤ 65535) :
    Calls Tryd.prog 11 #[v, vr, .int .i64 k] w fun e w' => e = .returned (.int .i64 (wtE R l k)) ∧ Below w.heap.size w w' := by
  have HLS := hide (lsound_any v R w h hn)
  have HW := hide (wt_small (R := R) (l := l) (k := k) h65)
  obtain ⟨ar, cr, rfl, hlr, hcr, -⟩ := hl
  unfold maxLen at hcr
  obtain ⟨ao, cap, rfl, hlc, hcm⟩ := h.open
  obtain ⟨N, HN⟩ : ∃ N : Nat, Hid (N = l.length) := ⟨_, rfl⟩
  rw [← HN.out] at hlr HW h65 ⊢
  clear h
  have hin : asnd R = true → 0 ≤ lsay R ∧ lsay R ≤ 258 * (R.length : Int) := fun ha => lsay_in R ha
  go_enter Tryd.func11, Tryd.ntmps11
  go_wp2_with fail
  refine HLS.out.mono ?_
  rintro e w1 ⟨⟨near, rfl⟩, b1⟩
  have HB := hide b1
  clear b1 HLS
  cases ha : asnd R with
  | false =>
    rw [ha] at HW
    simp only [Bool.false_eq_true, if_false, if_true] at HW ⊢
    clear hin
    by_cases c0 : k < 0
    · go_wp2
      go_ret
      exact ⟨by rw [HW.out, if_pos (.inl c0)]; rfl, HB.out⟩
    by_cases c1 : 2 < k
    · go_wp2
      go_ret
      exact ⟨by rw [HW.out, if_pos (.inr c1)]; rfl, HB.out⟩
    rw [if_neg (by omega)] at HW
    go_wp2
    go_ret
    exact ⟨by rw [HW.out]; rfl, HB.out⟩
  | true =>
    rw [ha] at HW
    simp only [Bool.true_eq_false, if_false, if_true] at HW ⊢
    obtain ⟨hs1, hs2⟩ := hin ha
    clear hin
    obtain ⟨S, HS⟩ : ∃ S, Hid (S = lsay R) := ⟨_, rfl⟩
    rw [← HS.out] at HW hs1 hs2 ⊢
    by_cases c0 : k < 0
    · go_wp2
      go_ret
      exact ⟨by rw [HW.out, if_pos (.inl c0)]; rfl, HB.out⟩
    by_cases c1 : 2 < k
    · go_wp2
      go_ret
      exact ⟨by rw [HW.out, if_pos (.inr c1)]; rfl, HB.out⟩
    rw [if_neg (by omega)] at HW
    by_cases c2 : 65535 < S
    · rw [if_pos c2] at HW
      go_wp2
      go_ret
      exact ⟨by rw [HW.out]; rfl, HB.out⟩
    · rw [if_neg c2] at HW
      by_cases c3 : S = (N : Int)
      · have c3' : (S != (N : Int)) = false := by simpa using c3
        rw [if_neg (by simpa using c3)] at HW
        have HC := hide c3
        clear c3
        go_wp2
        go_ret
        exact ⟨by rw [HW.out]; rfl, HB.out⟩
      · have c3' : (S != (N : Int)) = true := by simpa using c3
        rw [if_pos c3] at HW
        go_wp2
        go_ret
        exact ⟨by rw [HW.out]; rfl, HB.out⟩

theorem wt_zero {R : List Tk} {l : List Int} {k : Int} (h : wtE R l k = 0) : sdE R = 0 ∧ (l.length : Int) = lsay R ∧ (k = 0 ∨ k = 1 ∨ k = 2) := by
  unfold wtE at h
  split at h
  · omega
  · split at h
    · omega
    · split at h
      · contradiction
      · rename_i h1 h2 h3
        have h3' : sdE R = 0 := Classical.byContradiction fun q => h3 q
        obtain ⟨d1, d2, d3, d4, d5⟩ := sd_ok h3'
        split at h
        · omega
        · rename_i h4
          refine ⟨h3', ?_, by omega⟩
          rw [← d2]
          exact Classical.byContradiction fun q => h4 q

set_option maxHeartbeats 16000000 in
theorem justSoMany_walk (fi n k : Int) (f : Bool) (v vr : Value) (R : List Tk) (l : List Int) (W : World) (h : SK W v R) (hb : ∀ t ∈ R, Bt t) (hn : R.length ≤ 5864062014800) (hl : SB W vr l) (hB : Byt l) (hf0 : 0 ≤ fi) (hf1 : fi < 4294967296) (T : Ltab W ∧ Dtab W) (TH : Tab W) (O : Odr W) :
    Calls Tryd.prog 3 #[.int .u32 fi, .int .i64 n, v, vr, .int .i64 k, .bool f] W fun e w' => e = .returned (.bool true) ∧ Below W.heap.size W w' := by
  have HS := hide h
  have HSR := hide hl
  have HBT := hide hb
  have HBY := hide hB
  have HTT := hide (And.intro T (And.intro TH O))
  obtain ⟨ao, cap, rfl, hlc, hcm⟩ := h.open
  obtain ⟨ar, cr, rfl, hlr, hcr, -⟩ := hl
  unfold maxLen at hcr
  obtain ⟨L, HL⟩ : ∃ N : Nat, Hid (N = l.length) := ⟨_, rfl⟩
  have HSL : Hid (SB W (.slice ar L cr) l) := by rw [HL.out]; exact HSR
  rw [← HL.out] at hlr ⊢
  clear h hb hB T TH O HSR
  by_cases c0 : n < 0
  · go_enter Tryd.func3, Tryd.ntmps3
    go_wp2
    go_ret
    exact ⟨rfl, Below.refl _ _⟩
  by_cases c1 : 32 < n
  · go_enter Tryd.func3, Tryd.ntmps3
    go_wp2
    go_ret
    exact ⟨rfl, Below.refl _ _⟩
  obtain ⟨N, rfl⟩ : ∃ N : Nat, n = N := ⟨n.toNat, by omega⟩
  have hN : N ≤ 32 := by omega
  have hp32 : (2 : Int) ^ N ≤ 2 ^ 32 := pow_le hN
  have hpn := pow_pos N
  have hwn : IntKind.u64.wrap ((2 : Int) ^ N) = 2 ^ N := by rw [IntKind.wrap_u64]; omega
  have hwf : IntKind.u64.wrap fi = fi := by rw [IntKind.wrap_u64]; omega
  by_cases c2 : (2 : Int) ^ N ≤ fi
  · go_enter Tryd.func3, Tryd.ntmps3
    go_wp2
    go_ret
    exact ⟨rfl, Below.refl _ _⟩
  by_cases c3 : 65535 < (L : Int)
  · go_enter Tryd.func3, Tryd.ntmps3
    go_wp2
    go_ret
    exact ⟨rfl, Below.refl _ _⟩
  have HNW := hide (hnewW (Herd.nil W))
  have hfi : fi < 2 ^ N := by omega
  go_enter Tryd.func3, Tryd.ntmps3
  go_wp2_with fail
  refine HNW.out.mono ?_
  rintro e w1 ⟨g, K1, rfl, h1⟩
  have HP : Hid (Calls Tryd.prog 5 #[.pointer (some ⟨g, 0, none⟩), .int .u32 fi, .int .i64 (N : Int)] w1 fun e w' => e = .returned (.int .i64 0) ∧ ∃ K', Herd W w' [(K', tw g (bts fi N))]) := by
    refine (hput h1 0 rfl fi (N : Int) hf0 hf1).mono ?_
    rintro e w2 ⟨rfl, K', h2⟩
    rw [put_is (by omega) (by omega) (by rw [Int.toNat_natCast]; exact hfi) (by simp; omega), Int.toNat_natCast, List.nil_append] at h2
    refine ⟨?_, K', h2⟩
    have : putOk [] fi (N : Int) := ⟨⟨⟨by omega, by omega⟩, by rw [Int.toNat_natCast]; exact hfi⟩, by simp; omega⟩
    unfold putE
    rw [if_pos this]
  clear h1 HNW
  go_wp2_with fail
  refine HP.out.mono ?_
  rintro e w2 ⟨rfl, K2, h2⟩
  have HLN := hide (hlen h2 0 rfl)
  rw [length_bts] at HLN
  clear h2 HP
  go_wp2_with fail
  refine HLN.out.mono ?_
  rintro e w3 ⟨rfl, h3⟩
  have HH3 := hide h3
  have HLI := hide (list_any _ R w3 (HS.out.below h3.bel) (by omega))
  clear h3 HLN
  go_wp2_with fail
  refine HLI.out.mono ?_
  rintro e w4 ⟨u4, rfl, o4, b4⟩
  obtain ⟨la, lc, hu4, _, _⟩ := o4.shape
  subst hu4
  have h4 := HH3.out.below b4
  have HH4 := hide h4
  have HME := hide (measure_any _ R (N : Int) w4 o4.sk HBT.out (by omega) (by omega) (by omega) ⟨HTT.out.1.1.low h4.bel, HTT.out.1.2.low h4.bel⟩ (HTT.out.2.1.mono h4.bel) (HTT.out.2.2.mono h4.bel))
  obtain ⟨S, HSS⟩ : ∃ z, Hid (z = mzS R (N : Int)) := ⟨_, rfl⟩
  obtain ⟨F, HXX⟩ : ∃ z, Hid (z = mzF R (N : Int)) := ⟨_, rfl⟩
  obtain ⟨Y, HYY⟩ : ∃ z, Hid (z = mzD R (N : Int)) := ⟨_, rfl⟩
  obtain ⟨E, HEE⟩ : ∃ z, Hid (z = mzE R (N : Int)) := ⟨_, rfl⟩
  rw [← HSS.out, ← HXX.out, ← HYY.out, ← HEE.out] at HME
  clear h4 o4 b4 HLI HH3
  go_wp2_with fail
  refine HME.out.mono ?_
  rintro e w5 ⟨rfl, b5⟩
  obtain ⟨Kb, h6⟩ := (HH4.out.below b5).box1 (.cells #[.int .i64 S, .int .i64 F, .int .i64 Y] 33)
  obtain ⟨w6, hw6⟩ : ∃ w6, w5.alloc (.cells #[.int .i64 S, .int .i64 F, .int .i64 Y] 33) = w6 := ⟨_, rfl⟩
  obtain ⟨gb, hgb⟩ : ∃ gb, w5.heap.size = gb := ⟨_, rfl⟩
  rw [hw6, hgb] at h6
  have HH6 := hide h6
  have HLI := hide (list_any _ R w6 (HS.out.below h6.bel) (by omega))
  clear h6 b5 HME HH4
  go_wp2_with fail
  refine HLI.out.mono ?_
  rintro e w7 ⟨u7, rfl, o7, b7⟩
  obtain ⟨lb, ld, hu7, _, _⟩ := o7.shape
  subst hu7
  have h7 := HH6.out.toks b7 o7
  have HBW : Hid (Calls Tryd.prog 9 #[.pointer (some ⟨g, 0, none⟩), .slice lb R.length ld, .slice ar L cr, .int .i64 k, .bool f] w7 fun e w' => (∃ x, x ≠ 0 ∧ wtE R l k = x ∧ e = .returned (.int .i64 x) ∧ Herd W w' [(K2, tw g (bts fi N)), (Kb, tb gb (.cells #[.int .i64 S, .int .i64 F, .int .i64 Y] 33))]) ∨ (wtE R l k = 0 ∧ e = .returned (.int .i64 0) ∧ ∃ K' row', row'.length = N + (blkB k.toNat f R l (N : Int)).length ∧ Herd W w' [(K', tw g row'), (Kb, tb gb (.cells #[.int .i64 S, .int .i64 F, .int .i64 Y] 33))])) := by
    refine (hblockWrite h7 0 rfl _ R (fun wr zs hz => ((hz.rep 2 (kOw (.slice lb R.length ld), ttk (.slice lb R.length ld) R) rfl).1 : OK wr 0 _ R).sk) (by omega) HBT.out _ l HSL.out HBY.out k f HTT.out.1 HTT.out.2.1 HTT.out.2.2).mono ?_
    rintro e w8 (⟨h0, rfl, h8⟩ | ⟨h0, rfl, K', h8⟩)
    · exact .inl ⟨_, h0, rfl, rfl, h8.front⟩
    · refine .inr ⟨h0, ?_, K', joinRow (bts fi N) (blkB k.toNat f R l (bts fi N).length), ?_, ?_⟩
      · have hz := wt_zero h0
        have hs := blk_le (R := R) (l := l) (a := ((bts fi N).length : Int)) hz.1 HBT.out hz.2.1 (by omega) k.toNat f
        unfold joinE
        rw [if_neg (by rw [length_bts]; rw [length_bts] at hs; omega)]
      · have hz := wt_zero h0
        have hs := blk_le (R := R) (l := l) (a := ((bts fi N).length : Int)) hz.1 HBT.out hz.2.1 (by omega) k.toNat f
        unfold joinRow
        rw [if_neg (by rw [length_bts]; rw [length_bts] at hs; omega), List.length_append, length_bts]
      · have h9 : Herd W w8 ([(K', tw g (joinRow (bts fi N) (blkB k.toNat f R l (bts fi N).length))), (Kb, tb gb (.cells #[.int .i64 S, .int .i64 F, .int .i64 Y] 33))] ++ [(kOw (.slice lb R.length ld), ttk (.slice lb R.length ld) R)]) := h8
        exact h9.front
  clear h7 o7 b7 HLI HH6
  have HNU : Hid (∀ (wx : World) (x : Int), Calls Tryd.prog 10 #[.int .i64 x] wx fun e w' => e = .returned (.int .i64 x) ∧ w' = wx) := fun wx x => bnum_any wx x
  go_wp2_with fail
  refine HBW.out.mono ?_
  rintro e w8 (⟨x, hx, hwx, rfl, h8⟩ | ⟨h0, rfl, K8, row, hrow, h8⟩)
  · have HRF := hide (refusal_any _ _ R l k w8 (HS.out.below h8.bel) hn (HSL.out.below h8.bel) (by rw [← HL.out]; omega))
    rw [hwx] at HRF
    have HLN := hide (fun (wx : World) (b : Below w8.heap.size w8 wx) => hlen (h8.below b) 0 rfl)
    have q1 : (x != x) = false := by simp
    have q2 : (x != 0) = true := by simpa using hx
    clear h8 HBW
    go_wp2_with fail
    refine (HNU.out _ _).mono ?_
    rintro e w9 ⟨rfl, hw9⟩
    rw [hw9]
    clear hw9
    go_wp2_with fail
    refine HRF.out.mono ?_
    rintro e w10 ⟨rfl, b10⟩
    have HL2 := hide (HLN.out w10 b10)
    rw [length_bts] at HL2
    clear b10 HRF
    go_wp2_with fail
    refine HL2.out.mono ?_
    rintro e w11 ⟨rfl, h11⟩
    have HF := hide h11.bel
    clear h11 HL2
    go_wp2
    go_ret
    exact ⟨rfl, HF.out⟩
  · have hz := wt_zero h0
    have HSZ := hide (blk_size (R := R) (l := l) (a := (N : Int)) hz.1 HBT.out hz.2.1 (by omega) k.toNat f)
    rw [← HSS.out, ← HXX.out, ← HYY.out] at HSZ
    have HRL := hide hrow
    have HZL := hide (blk_le (R := R) (l := l) (a := (N : Int)) hz.1 HBT.out hz.2.1 (by omega) k.toNat f)
    have hE0 : E = 0 := by rw [HEE.out]; unfold mzE; rw [if_neg (by omega)]; exact hz.1
    subst hE0
    have HRF := hide (refusal_any _ _ R l k w8 (HS.out.below h8.bel) hn (HSL.out.below h8.bel) (by rw [← HL.out]; omega))
    rw [h0] at HRF
    have HH8 := hide h8
    have hk3 := hz.2.2
    clear h8 HBW hz hrow
    rcases hk3 with rfl | rfl | rfl
    · have hrl : (row.length : Int) = (N : Int) + S := by
        have a1 := HRL.out
        have a2 : ((blkB (Int.toNat 0) f R l (N : Int)).length : Int) = S := HSZ.out
        omega
      have hz0 : 0 ≤ S ∧ S ≤ 4000000 := by
        have a2 : ((blkB (Int.toNat 0) f R l (N : Int)).length : Int) = S := HSZ.out
        have a3 := HZL.out
        omega
      clear HSZ HRL HZL
      go_wp2_with fail
      refine (HNU.out _ _).mono ?_
      rintro e w9 ⟨rfl, hw9⟩
      rw [hw9]
      clear hw9
      go_wp2_with fail
      refine HRF.out.mono ?_
      rintro e w10 ⟨rfl, b10⟩
      have h10 : Herd W w10 ([(K8, tw g row)] ++ [(Kb, tb gb (.cells #[.int .i64 S, .int .i64 F, .int .i64 Y] 33))]) := HH8.out.below b10
      have x0 : w10.cell? ⟨gb, 0, none⟩ = some (.int .i64 S) := by unfold World.cell?; rw [h10.tbs]; rfl
      have x1 : w10.cell? ⟨gb, 1, none⟩ = some (.int .i64 F) := by unfold World.cell?; rw [h10.tbs]; rfl
      have x2 : w10.cell? ⟨gb, 2, none⟩ = some (.int .i64 Y) := by unfold World.cell?; rw [h10.tbs]; rfl
      obtain ⟨w11, hw11⟩ : ∃ x, w10.alloc (.cells #[.int .i64 S, .int .i64 F, .int .i64 Y] 3) = x := ⟨_, rfl⟩
      have h11 : Herd W w11 ([(K8, tw g row)] ++ [(Kb, tb gb (.cells #[.int .i64 S, .int .i64 F, .int .i64 Y] 33))]) := h10.below (by rw [← hw11]; exact (Below.refl _ _).alloc (Nat.le_refl _) _)
      have nb : w11.heap[w10.heap.size]? = some (.cells #[.int .i64 S, .int .i64 F, .int .i64 Y] 3 (0, 0)) := by rw [← hw11]; exact heap_alloc_new w10 _
      have y0 : w11.cell? ⟨w10.heap.size, 0, none⟩ = some (.int .i64 S) := by unfold World.cell?; rw [nb]; rfl
      have HQ : Hid (∀ n, Calls Tryd.prog 6 #[.pointer (some ⟨g, 0, none⟩)] (w11.drewN n) fun e w' => e = .returned (.int .i64 ((N : Int) + S)) ∧ ∃ m, w' = w11.drewN m) := fun n => by
        refine Calls.quiet_of ?_
        rw [← hrl]
        exact wlen_any ((h11.drewN n).rep 0 _ rfl)
      have HF := hide h11
      have hwz : IntKind.i64.wrap ((N : Int) + S) = (N : Int) + S := by rw [IntKind.wrap_i64]; omega
      have qz : ((N : Int) + S == (N : Int) + S) = true := by simp
      clear h10 b10 h11 nb hrl
      go_wp2_with fail
      clear hw11
      go_quiet (exact HQ.out _)
      go_wp2
      go_ret
      exact ⟨rfl, (HF.out.drewN _).bel⟩
    · have hrl : (row.length : Int) = (N : Int) + F := by
        have a1 := HRL.out
        have a2 : ((blkB (Int.toNat 1) f R l (N : Int)).length : Int) = F := HSZ.out
        omega
      have hz0 : 0 ≤ F ∧ F ≤ 4000000 := by
        have a2 : ((blkB (Int.toNat 1) f R l (N : Int)).length : Int) = F := HSZ.out
        have a3 := HZL.out
        omega
      clear HSZ HRL HZL
      go_wp2_with fail
      refine (HNU.out _ _).mono ?_
      rintro e w9 ⟨rfl, hw9⟩
      rw [hw9]
      clear hw9
      go_wp2_with fail
      refine HRF.out.mono ?_
      rintro e w10 ⟨rfl, b10⟩
      have h10 : Herd W w10 ([(K8, tw g row)] ++ [(Kb, tb gb (.cells #[.int .i64 S, .int .i64 F, .int .i64 Y] 33))]) := HH8.out.below b10
      have x0 : w10.cell? ⟨gb, 0, none⟩ = some (.int .i64 S) := by unfold World.cell?; rw [h10.tbs]; rfl
      have x1 : w10.cell? ⟨gb, 1, none⟩ = some (.int .i64 F) := by unfold World.cell?; rw [h10.tbs]; rfl
      have x2 : w10.cell? ⟨gb, 2, none⟩ = some (.int .i64 Y) := by unfold World.cell?; rw [h10.tbs]; rfl
      obtain ⟨w11, hw11⟩ : ∃ x, w10.alloc (.cells #[.int .i64 S, .int .i64 F, .int .i64 Y] 3) = x := ⟨_, rfl⟩
      have h11 : Herd W w11 ([(K8, tw g row)] ++ [(Kb, tb gb (.cells #[.int .i64 S, .int .i64 F, .int .i64 Y] 33))]) := h10.below (by rw [← hw11]; exact (Below.refl _ _).alloc (Nat.le_refl _) _)
      have nb : w11.heap[w10.heap.size]? = some (.cells #[.int .i64 S, .int .i64 F, .int .i64 Y] 3 (0, 0)) := by rw [← hw11]; exact heap_alloc_new w10 _
      have y0 : w11.cell? ⟨w10.heap.size, 1, none⟩ = some (.int .i64 F) := by unfold World.cell?; rw [nb]; rfl
      have HQ : Hid (∀ n, Calls Tryd.prog 6 #[.pointer (some ⟨g, 0, none⟩)] (w11.drewN n) fun e w' => e = .returned (.int .i64 ((N : Int) + F)) ∧ ∃ m, w' = w11.drewN m) := fun n => by
        refine Calls.quiet_of ?_
        rw [← hrl]
        exact wlen_any ((h11.drewN n).rep 0 _ rfl)
      have HF := hide h11
      have hwz : IntKind.i64.wrap ((N : Int) + F) = (N : Int) + F := by rw [IntKind.wrap_i64]; omega
      have qz : ((N : Int) + F == (N : Int) + F) = true := by simp
      clear h10 b10 h11 nb hrl
      go_wp2_with fail
      clear hw11
      go_quiet (exact HQ.out _)
      go_wp2
      go_ret
      exact ⟨rfl, (HF.out.drewN _).bel⟩
    · have hrl : (row.length : Int) = (N : Int) + Y := by
        have a1 := HRL.out
        have a2 : ((blkB (Int.toNat 2) f R l (N : Int)).length : Int) = Y := HSZ.out
        omega
      have hz0 : 0 ≤ Y ∧ Y ≤ 4000000 := by
        have a2 : ((blkB (Int.toNat 2) f R l (N : Int)).length : Int) = Y := HSZ.out
        have a3 := HZL.out
        omega
      clear HSZ HRL HZL
      go_wp2_with fail
      refine (HNU.out _ _).mono ?_
      rintro e w9 ⟨rfl, hw9⟩
      rw [hw9]
      clear hw9
      go_wp2_with fail
      refine HRF.out.mono ?_
      rintro e w10 ⟨rfl, b10⟩
      have h10 : Herd W w10 ([(K8, tw g row)] ++ [(Kb, tb gb (.cells #[.int .i64 S, .int .i64 F, .int .i64 Y] 33))]) := HH8.out.below b10
      have x0 : w10.cell? ⟨gb, 0, none⟩ = some (.int .i64 S) := by unfold World.cell?; rw [h10.tbs]; rfl
      have x1 : w10.cell? ⟨gb, 1, none⟩ = some (.int .i64 F) := by unfold World.cell?; rw [h10.tbs]; rfl
      have x2 : w10.cell? ⟨gb, 2, none⟩ = some (.int .i64 Y) := by unfold World.cell?; rw [h10.tbs]; rfl
      obtain ⟨w11, hw11⟩ : ∃ x, w10.alloc (.cells #[.int .i64 S, .int .i64 F, .int .i64 Y] 3) = x := ⟨_, rfl⟩
      have h11 : Herd W w11 ([(K8, tw g row)] ++ [(Kb, tb gb (.cells #[.int .i64 S, .int .i64 F, .int .i64 Y] 33))]) := h10.below (by rw [← hw11]; exact (Below.refl _ _).alloc (Nat.le_refl _) _)
      have nb : w11.heap[w10.heap.size]? = some (.cells #[.int .i64 S, .int .i64 F, .int .i64 Y] 3 (0, 0)) := by rw [← hw11]; exact heap_alloc_new w10 _
      have y0 : w11.cell? ⟨w10.heap.size, 2, none⟩ = some (.int .i64 Y) := by unfold World.cell?; rw [nb]; rfl
      have HQ : Hid (∀ n, Calls Tryd.prog 6 #[.pointer (some ⟨g, 0, none⟩)] (w11.drewN n) fun e w' => e = .returned (.int .i64 ((N : Int) + Y)) ∧ ∃ m, w' = w11.drewN m) := fun n => by
        refine Calls.quiet_of ?_
        rw [← hrl]
        exact wlen_any ((h11.drewN n).rep 0 _ rfl)
      have HF := hide h11
      have hwz : IntKind.i64.wrap ((N : Int) + Y) = (N : Int) + Y := by rw [IntKind.wrap_i64]; omega
      have qz : ((N : Int) + Y == (N : Int) + Y) = true := by simp
      clear h10 b10 h11 nb hrl
      go_wp2_with fail
      clear hw11
      go_quiet (exact HQ.out _)
      go_wp2
      go_ret
      exact ⟨rfl, (HF.out.drewN _).bel⟩
end Go.Proofs.YtfdhffcdkmklbaaDoor

