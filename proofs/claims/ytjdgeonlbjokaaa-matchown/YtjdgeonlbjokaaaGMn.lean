import Derived.Test.YtjdgeonlbjokaaaGEx
namespace Go.Proofs.Ytjdgeonlbjokaaa
open Go.RowKit Go.Maps
set_option maxRecDepth 20000
set_option linter.unusedVariables false

theorem tmod_pos {k n : Int} (h : 0 ≤ k) : k.tmod n = k % n := Int.tmod_eq_emod_of_nonneg h

theorem tmod_neg {k n : Int} (hn : 0 < n) (h : k < 0) : (k.tmod n < 0 → k.tmod n + n = k % n) ∧ (¬ k.tmod n < 0 → k.tmod n = k % n) := by
  have h1 := Int.emod_nonneg k (show n ≠ 0 by omega)
  have h2 := Int.emod_lt_of_pos k hn
  have e : k.tmod n = -((-k) % n) := by
    have h5 := Int.tmod_eq_emod_of_nonneg (a := -k) (b := n) (by omega)
    have := Int.neg_tmod (-k) n
    rw [Int.neg_neg, h5] at this
    exact this
  have h3 := Int.emod_nonneg (-k) (show n ≠ 0 by omega)
  have h4 := Int.emod_lt_of_pos (-k) hn
  have d1 := Int.mul_ediv_add_emod k n
  have d2 := Int.mul_ediv_add_emod (-k) n
  have key : k % n = (if (-k) % n = 0 then 0 else n - (-k) % n) := by
    by_cases hz : (-k) % n = 0
    · rw [if_pos hz]
      have : k = n * (-((-k) / n)) := by rw [Int.mul_neg]; omega
      rw [this, Int.mul_emod_right]
    · rw [if_neg hz]
      have : k = (n - (-k) % n) + n * (-((-k) / n) - 1) := by rw [Int.mul_sub, Int.mul_neg]; omega
      conv => lhs; rw [this]
      rw [Int.add_mul_emod_self_left, Int.emod_eq_of_lt (by omega) (by omega)]
  rw [e, key]
  refine ⟨fun h => ?_, fun h => ?_⟩
  · rw [if_neg (by omega)]; omega
  · rw [if_pos (by omega)]; omega


theorem says_any (l d z : Int) (w : World) (h : Snd (l, d, z)) : Calls Try.prog 17 #[.agg #[.int .i64 l, .int .i64 d, .int .u8 z]] w fun e w' => e = .returned (.int .i64 (says (l, d, z) : Nat)) ∧ Below w.heap.size w w' := by
  have HB : Hid (Below w.heap.size w (w.alloc (.cells #[.int .i64 l, .int .i64 d, .int .u8 z] 38))) := (Below.refl _ _).alloc (Nat.le_refl _) _
  rcases snd_parts h with ⟨q1, q2⟩ | ⟨n, m, q, q1, q2, q3, q4⟩
  · simp only at q1 q2
    subst q1
    subst q2
    have hs : says (0, 0, z) = 1 := rfl
    rw [hs]
    go_enter Try.func17, Try.ntmps17
    go_wp2
    go_ret
    exact ⟨rfl, HB.out⟩
  · simp only [Prod.mk.injEq] at q
    obtain ⟨rfl, rfl, rfl⟩ := q
    have hs : says ((n : Int), (m : Int), 0) = n := by unfold says; simp only [Int.toNat_natCast]; omega
    rw [hs]
    clear hs h
    go_enter Try.func17, Try.ntmps17
    go_wp2
    go_ret
    exact ⟨rfl, HB.out⟩

set_option maxHeartbeats 4000000 in
theorem means_any (v u : Value) (R : List Tk) (D : List Int) (lim : Int) (w : World) (h : SK w v R) (hu : SB w u D) (hE : exE lim [] R = 0) (hD : D = exT [] R) (hl : D.length ≤ 1000000000) :
    Calls Try.prog 7 #[v, u] w fun e w' => e = .returned (.bool true) ∧ Below w.heap.size w w' := by
  have HS := hide h
  have HU := hide hu
  have HE := hide hE
  have HD := hide hD
  obtain ⟨ao, cap, rfl, hlc, hcm⟩ := h.open
  obtain ⟨bo, bap, rfl, hlb, hbm⟩ := hu.open
  clear h hu hE hD
  have HLN : Hid (∀ k, k ≤ R.length → (exT [] (R.take k)).length ≤ D.length) := fun k hk => by rw [HD.out]; exact (pre_take R k).len
  go_enter Try.func7, Try.ntmps7
  go_wp2
  go_loopw [5, 6] (fun t i wr => ∃ k at' : Nat, k ≤ R.length ∧ i = .int .i64 k ∧ t = .int .i64 at' ∧ Hid (at' = (exT [] (R.take k)).length) ∧ Hid (Below w.heap.size w wr)) (fun _ i _ => R.length - (intOf i).toNat)
  case atStart => exact ⟨0, 0, Nat.zero_le _, rfl, rfl, rfl, Below.refl _ _⟩
  case round =>
    obtain ⟨k, at', hk, rfl, rfl, HAT, HB⟩ := hrel
    by_cases hlt : k < R.length
    · have hlt' : (k : Int) < (R.length : Int) := by omega
      obtain ⟨b, o, rfl, c1, c2, c3⟩ := HS.out.get HB.out hlt
      obtain ⟨x1, x2⟩ := means_at HE.out hlt
      obtain ⟨hs, s2, s3⟩ := stE_zero x2
      have HNX : Hid ((exT [] (R.take (k + 1))).length = at' + says (R.getD k tk0)) := by show _ = _; rw [ext_at hlt, ptk_len hs, HAT.out]
      have hle1 := HLN.out (k + 1) (by omega)
      rw [HNX.out] at hle1
      have HML := hide (means_lit hlt)
      have HMC := hide (fun (l d : Nat) (q0 : (R.getD k tk0).1 = (l : Int)) (q2 : (R.getD k tk0).2.1 = (d : Int)) (q1 : 0 < l) (qd : 1 ≤ d) (qx : d ≤ (exT [] (R.take k)).length) (i : Nat) (qi : i < l) => means_copy hlt q0 q2 q1 qd qx qi)
      rw [← HD.out, ← HAT.out] at HML HMC
      rw [← HAT.out] at s2
      clear x1 x2 s3
      obtain ⟨r, hr⟩ : ∃ r, r = R.getD k tk0 := ⟨_, rfl⟩
      rw [← hr] at c1 c2 c3 hs s2 HML HMC HNX hle1
      clear hr
      obtain ⟨l, d, z⟩ := r
      simp only at c1 c2 c3 s2 HML HMC
      have HB2 : Hid (Below w.heap.size w (wr.alloc (.cells #[.int .i64 l, .int .i64 d, .int .u8 z] 38))) := HB.out.alloc (HB.out.size) _
      obtain ⟨wb, hwb⟩ : ∃ wb, wr.alloc (.cells #[.int .i64 l, .int .i64 d, .int .u8 z] 38) = wb := ⟨_, rfl⟩
      have e1 : wb.cell? ⟨wr.heap.size, 0, none⟩ = some (.int .i64 l) := by rw [← hwb]; unfold World.cell?; simp only [heap_alloc_new]; rfl
      have e2 : wb.cell? ⟨wr.heap.size, 1, none⟩ = some (.int .i64 d) := by rw [← hwb]; unfold World.cell?; simp only [heap_alloc_new]; rfl
      have e3 : wb.cell? ⟨wr.heap.size, 2, none⟩ = some (.int .u8 z) := by rw [← hwb]; unfold World.cell?; simp only [heap_alloc_new]; rfl
      have hbl : wr.heap.size < wb.heap.size := by rw [← hwb]; simp
      rw [hwb] at HB2
      have HSD := hide (lsound_any l d z wb)
      have HSB : Hid (sndb (l, d, z) = true) := decide_eq_true hs
      rw [HSB.out] at HSD
      have HE1 := hide e1
      have HE2 := hide e2
      have HE3 := hide e3
      go_wp2_with fail
      refine HSD.out.mono ?_
      rintro e w2 ⟨rfl, b2⟩
      have f1 : w2.cell? ⟨wr.heap.size, 0, none⟩ = some (.int .i64 l) := (b2.cell hbl).trans HE1.out
      have f2 : w2.cell? ⟨wr.heap.size, 1, none⟩ = some (.int .i64 d) := (b2.cell hbl).trans HE2.out
      have f3 : w2.cell? ⟨wr.heap.size, 2, none⟩ = some (.int .u8 z) := (b2.cell hbl).trans HE3.out
      have HB3 := hide (HB2.out.trans (b2.mono HB2.out.size))
      have hg3 : wr.heap.size < w2.heap.size := Nat.lt_of_lt_of_le hbl b2.size
      have HSY := hide (says_any l d z w2 hs)
      obtain ⟨S, HSS⟩ : ∃ S, Hid (S = says (l, d, z)) := ⟨_, rfl⟩
      rw [← HSS.out] at HSY hle1 HNX
      clear b2 hwb e1 e2 e3 c1 c2 c3 HSD hbl HB HB2 HE1 HE2 HE3
      obtain ⟨g3, hgg⟩ : ∃ g, g = wr.heap.size := ⟨_, rfl⟩
      rw [← hgg] at f1 f2 f3 hg3 ⊢
      clear hgg
      have HF1 := hide f1
      have HF2 := hide f2
      have HF3 := hide f3
      go_wp2_with fail
      refine HSY.out.mono ?_
      rintro e w3 ⟨rfl, b3⟩
      have f1' : w3.cell? ⟨g3, 0, none⟩ = some (.int .i64 l) := (b3.cell hg3).trans HF1.out
      have f2' : w3.cell? ⟨g3, 1, none⟩ = some (.int .i64 d) := (b3.cell hg3).trans HF2.out
      have f3' : w3.cell? ⟨g3, 2, none⟩ = some (.int .u8 z) := (b3.cell hg3).trans HF3.out
      have HB4 := hide (HB3.out.trans (b3.mono HB3.out.size))
      have hg4 : g3 < w3.heap.size := Nat.lt_of_lt_of_le hg3 b3.size
      clear b3 f1 f2 f3 hg3 HSY HF1 HF2 HF3 HB3
      have hS1 : 1 ≤ S := by rw [HSS.out]; unfold says; omega
      have hS2 : S ≤ 258 := by
        rw [HSS.out]
        rcases snd_parts hs with ⟨q1, q2⟩ | ⟨n, m, q, q1, q2, q3, q4⟩
        · simp only at q1; unfold says; rw [q1]; show max 1 (0 : Int).toNat ≤ 258; decide
        · simp only [Prod.mk.injEq] at q; unfold says; rw [q.1]; simp only [Int.toNat_natCast]; omega
      have hat : at' < D.length := by omega
      have hle2 : ¬ (D.length : Int) < (at' : Int) + (S : Int) := by omega
      obtain ⟨bb, bo', rfl, cb⟩ := HU.out.get HB4.out hat
      have hd' : ¬ (at' : Int) < d := by omega
      rcases snd_parts hs with ⟨q1, q2⟩ | ⟨n, m, q, q1, q2, q3, q4⟩
      · simp only at q1 q2
        subst q1
        subst q2
        rw [HML.out rfl] at cb
        have gz : (z != z) = false := by simp
        have HG := hide hg4
        have HC1 := hide f1'
        have HC2 := hide f2'
        have HC3 := hide f3'
        have HSY : Hid (∀ wx : World, Calls Try.prog 17 #[.agg #[.int .i64 0, .int .i64 0, .int .u8 z]] wx fun e w' => e = .returned (.int .i64 (S : Nat)) ∧ Below wx.heap.size wx w') := fun wx => by rw [HSS.out]; exact says_any 0 0 z wx hs
        clear HML HMC hs
        go_wp2
        go_quiet (fail)
        go_wp2
        refine wp_loop_rounds 1 ?_
        rw [rounds_succ]
        go_wp2_with fail
        refine (HSY.out _).mono ?_
        rintro e w5 ⟨rfl, b5⟩
        have HB5 := hide ((below_drewN HB4.out _).trans (b5.mono (by have := HB4.out.size; exact this)))
        clear b5
        go_wp2
        go_roundw
        case rel => exact ⟨k + 1, at' + S, by omega, by go_num, by go_num, HNX.out.symm, HB5.out⟩
        case measure => simp [intOf]; omega
      · simp only [Prod.mk.injEq] at q
        obtain ⟨rfl, rfl, rfl⟩ := q
        have HSY : Hid (∀ wx : World, Calls Try.prog 17 #[.agg #[.int .i64 (n : Int), .int .i64 (m : Int), .int .u8 0]] wx fun e w' => e = .returned (.int .i64 (S : Nat)) ∧ Below wx.heap.size wx w') := fun wx => by rw [HSS.out]; exact says_any (n : Int) (m : Int) 0 wx hs
        have hSn : S = n := by rw [HSS.out]; unfold says; simp only [Int.toNat_natCast]; omega
        have hma : m ≤ at' := by omega
        have HCP : Hid (∀ i, i < n → D.getD (at' + i) 0 = D.getD (at' + i - m) 0) := fun i hi => HMC.out n m rfl rfl (by omega) (by omega) (by omega) i hi
        have g0 : ((n : Int) == 0) = false := by simp; omega
        have HG := hide hg4
        have HC1 := hide f1'
        have HC2 := hide f2'
        have HC3 := hide f3'
        have hna : at' + n ≤ D.length := by omega
        clear HML HMC hs hSn
        go_wp2
        go_quiet (fail)
        go_wp2
        clear f1' f2' f3' cb
        go_loopw [8] (fun i wr => ∃ j q : Nat, j ≤ n ∧ i = .int .i64 j ∧ wr = w3.drewN q) (fun i _ => n - (intOf i).toNat)
        case atStart => exact ⟨0, _, Nat.zero_le _, rfl, rfl⟩
        case round =>
          obtain ⟨j, q, hj, rfl, hw⟩ := hrel
          subst hw
          have f1 : (w3.drewN q).cell? ⟨g3, 0, none⟩ = some (.int .i64 (n : Int)) := HC1.out
          have f2 : (w3.drewN q).cell? ⟨g3, 1, none⟩ = some (.int .i64 (m : Int)) := HC2.out
          have f1w : w3.cell? ⟨g3, 0, none⟩ = some (.int .i64 (n : Int)) := HC1.out
          have f2w : w3.cell? ⟨g3, 1, none⟩ = some (.int .i64 (m : Int)) := HC2.out
          by_cases hjn : j < n
          · have hjn' : (j : Int) < (n : Int) := by omega
            obtain ⟨b1, o1, e1, y1⟩ := HU.out.get HB4.out (k := at' + j) (by omega)
            obtain ⟨b2, o2, e2, y2⟩ := HU.out.get HB4.out (k := at' + j - m) (by omega)
            simp only [Option.some.injEq, Addr.mk.injEq, and_true] at e1 e2
            obtain ⟨rfl, rfl⟩ := e1
            obtain ⟨rfl, rfl⟩ := e2
            rw [← HCP.out j hjn] at y2
            obtain ⟨y, HY⟩ : ∃ y, Hid (y = D.getD (at' + j) 0) := ⟨_, rfl⟩
            rw [← HY.out] at y1 y2
            obtain ⟨p, hp⟩ : ∃ p, p = at' + j - m := ⟨_, rfl⟩
            rw [← hp] at y2
            have y1d : (w3.drewN q).cell? ⟨bb, bo' + (at' + j), none⟩ = some (.int .u8 y) := y1
            have y2d : (w3.drewN q).cell? ⟨bb, bo' + p, none⟩ = some (.int .u8 y) := y2
            have i1 : (at' : Int) + (j : Int) < (D.length : Int) := by omega
            have i2 : (at' : Int) + (j : Int) - (m : Int) < (D.length : Int) := by omega
            have i3 : (0 : Int) ≤ (at' : Int) + (j : Int) - (m : Int) := by omega
            have n1 : ((at' : Int) + (j : Int)).toNat = at' + j := by omega
            have n2 : ((at' : Int) + (j : Int) - (m : Int)).toNat = p := by omega
            have k1 : IntKind.i64.wrap ((at' : Int) + (j : Int)) = (at' : Int) + (j : Int) := by go_arith
            have k2 : IntKind.i64.wrap ((at' : Int) + (j : Int) - (m : Int)) = (at' : Int) + (j : Int) - (m : Int) := by go_arith
            have gy : (y != y) = false := by simp
            clear hp
            go_wp2
            go_quiet (fail)
            go_wp2
            go_roundw
            case rel => exact ⟨j + 1, _, by omega, by go_num, by (try simp only [World.drewN_drewN]); rfl⟩
            case measure => simp [intOf]; omega
          · obtain rfl : j = n := by omega
            have hjn' : ¬ (j : Int) < (j : Int) := by omega
            have f3 : (w3.drewN q).cell? ⟨g3, 2, none⟩ = some (.int .u8 0) := HC3.out
            go_wp2_with fail
            refine (HSY.out _).mono ?_
            rintro e w5 ⟨rfl, b5⟩
            have HB5 := hide ((below_drewN HB4.out _).trans (b5.mono (by have := HB4.out.size; exact this)))
            clear b5 f1 f2 f3 f1w f2w
            go_wp2
            go_roundw
            case rel => exact ⟨k + 1, at' + S, by omega, by go_num, by go_num, HNX.out.symm, HB5.out⟩
            case measure => simp [intOf]; omega
    · obtain rfl : k = R.length := by omega
      have hlt' : ¬ (R.length : Int) < (R.length : Int) := by omega
      have HF : Hid (at' = D.length) := by show _ = _; rw [HAT.out, HD.out, List.take_of_length_le (Nat.le_refl _)]
      obtain ⟨n, hn⟩ : ∃ n, n = D.length := ⟨_, rfl⟩
      have gq : ((at' : Int) == (D.length : Int)) = true := by have := HF.out; simp; omega
      go_wp2
      go_ret
      exact ⟨rfl, HB.out⟩
end Go.Proofs.Ytjdgeonlbjokaaa

