import Derived.Test.YtiabhmdefaabgaaDoorGXdc
namespace Go.Proofs.YtiabhmdefaabgaaDoor
open Go.RowKit Go.Maps
set_option maxRecDepth 20000

theorem us_four {l : List Int} (hl : Lens l) (h : shp l = 4) : us l 16 = 32768 := by
  rw [us_sum hl.2]
  unfold shp at h
  by_cases c0 : tsum l = 0
  · rw [if_pos c0] at h; omega
  · rw [if_neg c0] at h
    by_cases c1 : tsum l = 1 ∧ usum l = 16384
    · rw [if_pos c1] at h; omega
    · rw [if_neg c1] at h
      by_cases c2 : 32768 < usum l
      · rw [if_pos c2] at h; omega
      · rw [if_neg c2] at h
        by_cases c3 : usum l = 32768
        · exact c3
        · rw [if_neg c3] at h; omega

theorem us_one {l : List Int} (hl : Lens l) (h : shp l = 1) : us l 16 = 16384 ∧ ∀ s, Has l s → ln l s = 1 := by
  have hs : tsum l = 1 ∧ usum l = 16384 := by
    unfold shp at h
    by_cases c0 : tsum l = 0
    · rw [if_pos c0] at h; omega
    · rw [if_neg c0] at h
      by_cases c1 : tsum l = 1 ∧ usum l = 16384
      · exact c1
      · rw [if_neg c1] at h
        by_cases c2 : 32768 < usum l
        · rw [if_pos c2] at h; omega
        · rw [if_neg c2] at h
          by_cases c3 : usum l = 32768
          · rw [if_pos c3] at h; omega
          · rw [if_neg c3] at h; omega
  refine ⟨by rw [us_sum hl.2]; exact hs.2, fun s hh => ?_⟩
  have h1 := (single_iff hl).1 hs (ln l s) (by have := (hl.ln s).2; omega)
  have h2 := hh.rk_lt hl
  by_cases e : ln l s = 1
  · exact e
  · rw [if_neg e] at h1; omega

/-- Where the bits end, a word is only begun. -/
theorem nx_end {l row : List Int} {p k : Nat} (hd : dcE l = 0) (hpl : p ≤ row.length) (h : row.length < p + (k + 1)) (hinv : ∀ s, Hit l (rowAt row p) s → k < ln l s) (h1 : shp l = 1 → k = 0) : nxE l row p = 54 ∧ nxS l row p = 0 ∧ nxP l row p = p := by
  obtain ⟨_, hs⟩ := (dcE_iff l).1 hd
  have hl := (dcE_zero hd).1
  have hR : rowAt row p < us l 16 := by
    rcases hs with hs | hs
    · have hk := h1 hs
      have hp : row.length = p := by omega
      have : rowAt row p = 0 := by
        unfold rowAt ahead
        rw [List.drop_of_length_le (by omega)]
        show rowN 0 = 0
        unfold rowN mir
        rw [bts_zero, List.reverse_replicate, val_zeros]
        rfl
      rw [this, (us_one hl hs).1]; omega
    · rw [us_four hl hs]; exact row_lt _
  obtain ⟨s, hs'⟩ := hit_ex hR
  obtain ⟨f1, f2⟩ := fd_hit hl hs'
  have := hinv s hs'
  have hE : nxE l row p = 54 := by unfold nxE; rw [if_pos f2, f1, if_neg (by omega)]
  exact ⟨hE, by unfold nxS; rw [if_neg (by rw [hE]; decide)], by unfold nxP; rw [if_neg (by rw [hE]; decide)]⟩

theorem nx_none {l row : List Int} {p : Nat} (h : ¬ ∃ s, Hit l (rowAt row p) s) : nxE l row p = 55 ∧ nxS l row p = 0 ∧ nxP l row p = p := by
  have hE : nxE l row p = 55 := by unfold nxE; rw [if_neg (by rw [(fd_none h).2]; decide)]
  exact ⟨hE, by unfold nxS; rw [if_neg (by rw [hE]; decide)], by unfold nxP; rw [if_neg (by rw [hE]; decide)]⟩

theorem nx_found {l row : List Int} {p s : Nat} (hl : Lens l) (h : Hit l (rowAt row p) s) (hp : p + ln l s ≤ row.length) : nxE l row p = 0 ∧ nxS l row p = s ∧ nxP l row p = p + ln l s := by
  obtain ⟨f1, f2⟩ := fd_hit hl h
  have hE : nxE l row p = 0 := by unfold nxE; rw [if_pos f2, f1, if_pos hp]
  exact ⟨hE, by unfold nxS; rw [if_pos hE, f1], by unfold nxP; rw [if_pos hE, f1]⟩

theorem tk_step {row : List Int} (hb : Bit row) {p k : Nat} (hk : k < 15) : mir (ahead row p 15) (k + 1) = 2 * mir (ahead row p 15) k + ahead row p (k + 1) / 2 ^ k ∧ 0 ≤ ahead row p (k + 1) ∧ ahead row p (k + 1) < 2 ^ (k + 1) := by
  have hbd := ahead_bound hb p (k + 1)
  have h1 := mir_ahead hb p (n := k + 1) (by omega)
  have h2 := mir_succ (ahead row p (k + 1)) k
  have h3 : mir (ahead row p (k + 1)) k = mir (ahead row p 15) k := by
    unfold mir
    rw [← bts_take (ahead row p (k + 1)) (show k ≤ k + 1 by omega), ahead_mod hb p (show k + 1 ≤ 15 by omega), bts_take _ (by omega)]
  have h4 := top_bit hbd.1 hbd.2
  rw [h1, h3] at h2
  exact ⟨by rw [h2, ← h4]; omega, hbd⟩

set_option maxHeartbeats 4000000 in
theorem hxnext {W w : World} {xs : List ((Nat → Nat) × Thing)} (H : Herd W w xs) (i j : Nat) {K Kr : Nat → Nat} {g r : Nat} {l row : List Int} {p : Nat} (hi : xs[i]? = some (K, tdx g l)) (hj : xs[j]? = some (Kr, tq r row p)) :
    Calls Tryd.prog 78 #[.pointer (some ⟨g, 0, none⟩), .pointer (some ⟨r, 0, none⟩)] w fun e w' => e = .returned (.tuple #[.int .i64 (nxS l row p), .int .i64 (nxE l row p)]) ∧ Herd W w' (xs.set j (Kr, tq r row (nxP l row p))) := by
  have hD : Dx w K g l := H.rep i _ hi
  have hR : Rq w Kr r row p := H.rep j _ hj
  have HD := hide hD.ok
  have HL := hide (dcE_zero hD.ok).1
  have hle : p ≤ row.length ∧ row.length ≤ 268435456 := by obtain ⟨_, _, _, h1, h2, _⟩ := hR; exact ⟨h1, h2⟩
  have HBI : Hid (Bit row) := by obtain ⟨_, _, h1, _⟩ := hR; exact h1
  have HI := hide hi
  have HJ := hide hj
  have h288 := HL.out.1
  have HSET : Hid (xs.set j (Kr, tq r row p) = xs) := by
    show _ = _
    apply List.ext_getElem?
    intro n
    rw [List.getElem?_set]
    by_cases c : j = n
    · subst c
      rw [if_pos rfl, hj, if_pos (List.getElem?_eq_some_iff.1 hj).1]
    · rw [if_neg c]
  have HH := hide H
  have hsh : shp l = 1 ∨ shp l = 4 := ((dcE_iff l).1 HD.out).2
  clear hD hR H hi hj
  obtain ⟨V, HV⟩ : ∃ V, Hid (V = ahead row p 15) := ⟨_, rfl⟩
  have HRV : Hid (rowN V = rowAt row p) := by show _ = _; rw [HV.out]; rfl
  obtain ⟨S, HSP⟩ : ∃ S, Hid (S = shp l) := ⟨_, rfl⟩
  rw [← HSP.out] at hsh
  go_enter Tryd.func78, Tryd.ntmps78
  go_wp2
  go_loopw [6, 7] (fun t i wr => ∃ k : Nat, k ≤ 15 ∧ i = .int .i64 ((k : Int) + 1) ∧ t = .int .i64 (mir V k) ∧ p + k ≤ row.length ∧ (S = 1 → k = 0) ∧ Hid (Herd W wr xs) ∧ Hid (∀ s, Hit l (rowAt row p) s → k < ln l s)) (fun _ i _ => 16 - (intOf i).toNat)
  case atStart => exact ⟨0, Nat.zero_le _, rfl, rfl, by omega, fun _ => rfl, HH, fun s hs => hs.1.2⟩
  case round =>
    clear HH
    obtain ⟨k, hk, rfl, rfl, hpk, hS1, HT, HINV⟩ := hrel
    by_cases hlt : k < 15
    · have hlt' : (k : Int) + 1 ≤ 15 := by omega
      have hks : (k : Int) + 1 = ((k + 1 : Nat) : Int) := by omega
      have hpv : peekV row p ((k : Int) + 1) = ahead row p (k + 1) ∧ peekK row p ((k : Int) + 1) = min ((k : Int) + 1) ((row.length : Int) - p) := by
        have hc : Cnt ((k : Int) + 1) := ⟨by omega, by omega⟩
        refine ⟨?_, if_pos hc⟩
        unfold peekV
        rw [if_pos hc, hks]; rfl
      have HPV := hide hpv
      clear hks hpv
      go_wp2_with fail
      refine (hqpeek HT.out j HJ.out ((k : Int) + 1)).mono ?_
      rintro e w1 ⟨rfl, h1⟩
      have H1 := hide h1
      rw [HPV.out.1, HPV.out.2]
      clear h1
      by_cases hfit : p + (k + 1) ≤ row.length
      case neg =>
        have hmin : min ((k : Int) + 1) ((row.length : Int) - p) = (row.length : Int) - p := by omega
        have hlt2 : (row.length : Int) - p < (k : Int) + 1 := by omega
        rw [hmin]
        have HN := hide (nx_end HD.out hle.1 (by omega) HINV.out (by rw [← HSP.out]; exact hS1))
        obtain ⟨z, HZ⟩ : ∃ z, Hid (z = ahead row p (k + 1)) := ⟨_, rfl⟩
        rw [← HZ.out]
        clear hmin
        go_wp2
        go_ret2
        rw [HN.out.1, HN.out.2.1, HN.out.2.2, HSET.out]
        exact ⟨rfl, H1.out⟩
      have hmin : min ((k : Int) + 1) ((row.length : Int) - p) = (k : Int) + 1 := by omega
      rw [hmin]
      obtain ⟨t1, t2, t3⟩ := tk_step HBI.out (p := p) hlt
      have hmb := mir_bound V k
      have hmb1 := mir_bound V (k + 1)
      have hp15 : (2 : Int) ^ k ≤ 2 ^ 15 := pow_le (by omega)
      have hp16 : (2 : Int) ^ (k + 1) ≤ 2 ^ 15 := pow_le (by omega)
      rw [← HV.out] at t1
      obtain ⟨y, hy⟩ : ∃ y : Nat, mir V (k + 1) = (y : Int) := ⟨(mir V (k + 1)).toNat, by omega⟩
      have HY := hide hy
      obtain ⟨z, HZ⟩ : ∃ z, Hid (z = ahead row p (k + 1)) := ⟨_, rfl⟩
      obtain ⟨t, HTK⟩ : ∃ t, Hid (t = mir V k) := ⟨_, rfl⟩
      rw [← HZ.out] at t1 t2 t3 ⊢
      rw [← HTK.out] at t1 hmb ⊢
      rw [hy] at t1 hmb1
      obtain ⟨q, hq⟩ : ∃ q, q = z / 2 ^ k := ⟨_, rfl⟩
      have hq0 : 0 ≤ q := by rw [hq]; exact Int.ediv_nonneg t2 (Int.le_of_lt (pow_pos k))
      rw [← hq] at t1
      have hqe : z / 2 ^ k = q := hq.symm
      have hq1 : q ≤ 1 := by
        have : z / 2 ^ k < 2 := by rw [Int.ediv_lt_iff_lt_mul (pow_pos k)]; rw [pow_add1] at t3; omega
        omega
      have hsum : 2 * t + q = (y : Int) := by omega
      have hwq : IntKind.i64.wrap q = q := by rw [IntKind.wrap_i64]; omega
      have hyb : (y : Int) < 32768 := by omega
      have hz32 : z < 4294967296 := by omega
      have ek : (k : Int) + 1 - 1 = k := by omega
      have hDx : Dx w1 K g l := H1.out.rep i _ HI.out
      obtain ⟨vl, vw, a1, a2, a3, _⟩ := hDx.d
      rw [← HSP.out] at a1
      have c0 : w1.cell? ⟨g, 0, none⟩ = some vl := by rw [cell_of_row _ _ _ _ _ _ a1]; rfl
      have c1 : w1.cell? ⟨g, 1, none⟩ = some vw := by rw [cell_of_row _ _ _ _ _ _ a1]; rfl
      have c2 : w1.cell? ⟨g, 2, none⟩ = some (.int .i64 S) := by rw [cell_of_row _ _ _ _ _ _ a1]; rfl
      have HOL := hide a2
      have HOW := hide a3
      obtain ⟨al, cl, hvl⟩ := a2.shape
      obtain ⟨aw, cw, hvw⟩ := a3.shape
      rw [wds_len] at hvw
      subst hvl hvw
      have hcl : l.length ≤ cl ∧ cl ≤ 9223372036854775807 := by
        obtain ⟨_, _, e1, e2, e3⟩ := a2.sb.open
        simp only [Value.slice.injEq] at e1
        obtain ⟨-, -, rfl⟩ := e1
        exact ⟨e2, e3⟩
      have hcw : l.length ≤ cw ∧ cw ≤ 9223372036854775807 := by
        obtain ⟨_, _, e1, e2, e3⟩ := a3.sb.open
        simp only [Value.slice.injEq] at e1
        obtain ⟨-, e4, rfl⟩ := e1
        rw [← e4] at e2
        exact ⟨e2, e3⟩
      obtain ⟨hcl1, hcl2⟩ := hcl
      obtain ⟨hcw1, hcw2⟩ := hcw
      have HAT : Hid (∀ s, At l (k + 1) y s ↔ Hit l (rowAt row p) s ∧ ln l s = k + 1) := fun s => by
        rw [← HRV.out]
        exact at_hit V (by omega) (by omega) HY.out
      clear a1 a2 a3 hDx t1 hmb hmb1 hp15 hp16 hmin hq HT HPV t3 hy
      go_wp2
      go_loopw [10] (fun i wr2 => ∃ s : Nat, s ≤ l.length ∧ i = .int .i64 s ∧ wr2 = w1 ∧ Hid (∀ t, t < s → ¬ At l (k + 1) y t)) (fun i _ => l.length - (intOf i).toNat)
      case atStart => exact ⟨0, Nat.zero_le _, rfl, rfl, fun t ht => by omega⟩
      case round =>
        obtain ⟨s, hs, rfl, rfl, HNA⟩ := hrel
        by_cases hsl : s < l.length
        · have hsl' : (s : Int) < (l.length : Int) := by omega
          obtain ⟨bl, _, hal, _⟩ := HOL.out.form (by omega)
          simp only [Value.slice.injEq] at hal
          obtain ⟨rfl, -, rfl⟩ := hal
          obtain ⟨bw, _, haw, _⟩ := HOW.out.form (by rw [wds_len]; omega)
          simp only [Value.slice.injEq] at haw
          obtain ⟨rfl, -, rfl⟩ := haw
          have d1 := HOL.out.get (b := bl) rfl hsl
          have d2 := HOW.out.get (b := bw) rfl (i := s) (by rw [wds_len]; exact hsl)
          rw [(HL.out.ln s).1] at d1
          rw [wds_get hsl] at d2
          obtain ⟨A, HA⟩ : ∃ A, Hid (ln l s = A) := ⟨_, rfl⟩
          obtain ⟨X, HX⟩ : ∃ X, Hid (wd l s = X) := ⟨_, rfl⟩
          rw [HA.out] at d1
          rw [HX.out] at d2
          by_cases hA : A = k + 1
          · have hA' : ((A : Int) == (k : Int) + 1) = true := by simp; omega
            have hAe : (A : Int) = (k : Int) + 1 := by omega
            rw [hAe] at d1
            by_cases hX : X = y
            · subst hX
              have hat : At l (k + 1) X s := ⟨hsl, by rw [HA.out]; exact hA, HX.out⟩
              have hhit := ((HAT.out s).1 hat).1
              have HNF := hide (nx_found HL.out hhit (by rw [HA.out, hA]; exact hfit))
              have hsk : skipE row p ((k : Int) + 1) = 0 ∧ skipP row p ((k : Int) + 1) = p + (k + 1) := ⟨by unfold skipE; rw [if_neg (by omega), if_pos (by omega)], by unfold skipP; rw [if_neg (by omega), if_pos (by omega)]; omega⟩
              have HSK := hide hsk
              clear hat hhit hsk HNA hA'
              go_wp2_with fail
              refine (hqskip H1.out j HJ.out ((k : Int) + 1)).mono ?_
              rintro e w5 ⟨rfl, h5⟩
              rw [HSK.out.2] at h5
              rw [HSK.out.1]
              have H5 := hide h5
              clear h5
              go_wp2
              go_ret2
              rw [HNF.out.1, HNF.out.2.1, HNF.out.2.2, HA.out, hA]
              exact ⟨rfl, H5.out⟩
            · have hX' : ((X : Int) == (y : Int)) = false := by simp; omega
              have hXn : ¬ (X : Int) = (y : Int) := by omega
              have HN : Hid (∀ t, t < s + 1 → ¬ At l (k + 1) y t) := fun t ht hat => by
                by_cases e : t = s
                · subst e; exact hX (by rw [← HX.out]; exact hat.2.2)
                · exact HNA.out t (by omega) hat
              clear HNA hA'
              go_wp2
              go_roundw
              case rel => exact ⟨s + 1, by omega, by go_num, by trivial, HN⟩
              case measure => simp [intOf]; omega
          · have hA' : ((A : Int) == (k : Int) + 1) = false := by simp; omega
            have hAn : ¬ (A : Int) = (k : Int) + 1 := by omega
            have HN : Hid (∀ t, t < s + 1 → ¬ At l (k + 1) y t) := fun t ht hat => by
              by_cases e : t = s
              · subst e; exact hA (by rw [← HA.out]; exact hat.2.1)
              · exact HNA.out t (by omega) hat
            clear HNA
            go_wp2
            go_roundw
            case rel => exact ⟨s + 1, by omega, by go_num, by trivial, HN⟩
            case measure => simp [intOf]; omega
        · obtain rfl : s = l.length := by omega
          have hsl' : ¬ (l.length : Int) < (l.length : Int) := by omega
          have HNV : Hid (∀ s, Hit l (rowAt row p) s → k + 1 < ln l s) := fun s hh => by
            have h1 := HINV.out s hh
            have h2 : ¬ ln l s = k + 1 := fun e => HNA.out s hh.1.1 ((HAT.out s).2 ⟨hh, e⟩)
            omega
          rcases hsh with hsh | hsh
          · subst hsh
            have hno : ¬ ∃ s, Hit l (rowAt row p) s := fun ⟨s, hs⟩ => by
              have h1 := HNV.out s hs
              have h2 := (us_one HL.out HSP.out.symm).2 s hs.1
              omega
            have HN := hide (nx_none hno)
            clear hno HNA
            go_wp2
            go_ret2
            rw [HN.out.1, HN.out.2.1, HN.out.2.2, HSET.out]
            exact ⟨rfl, H1.out⟩
          · subst hsh
            clear HNA
            go_wp2
            go_roundw
            case rel => exact ⟨k + 1, by omega, by go_num, by rw [HY.out], by omega, fun h => by omega, H1, HNV⟩
            case measure => simp [intOf]; omega
    · obtain rfl : k = 15 := by omega
      have hlt' : ¬ ((15 : Nat) : Int) + 1 ≤ 15 := by omega
      have hno : ¬ ∃ s, Hit l (rowAt row p) s := fun ⟨s, hs⟩ => by have h1 := HINV.out s hs; have h2 := (HL.out.ln s).2; omega
      have HN := hide (nx_none hno)
      clear hno
      go_wp2
      go_ret2
      rw [HN.out.1, HN.out.2.1, HN.out.2.2, HSET.out]
      exact ⟨rfl, HT.out⟩
end Go.Proofs.YtiabhmdefaabgaaDoor

