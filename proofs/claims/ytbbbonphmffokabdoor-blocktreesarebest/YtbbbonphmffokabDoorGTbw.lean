import Derived.Test.YtbbbonphmffokabDoorGTbn
import Derived.BigQuiet
namespace Go.Proofs.YtbbbonphmffokabDoor
open Go.RowKit Go.Maps
set_option maxRecDepth 20000
set_option linter.unusedVariables false

theorem shr15 {c : Nat} (h : c ≤ 15) : (32768 : Int) / 2 ^ c = ((2 ^ (15 - c) : Nat) : Int) := by
  have : ∀ c : Nat, c < 16 → (32768 : Int) / 2 ^ c = ((2 ^ (15 - c) : Nat) : Int) := by decide
  exact this c (by omega)

theorem pw15 {c : Nat} (h : c ≤ 15) : 2 ^ (15 - c) ≤ 32768 := by
  have : ∀ c : Nat, c < 16 → 2 ^ (15 - c) ≤ 32768 := by decide
  exact this c (by omega)

theorem wr_nat {n : Nat} (h : n ≤ 1000000000000) : wrap64 (n : Int) = (n : Int) ∧ IntKind.i64.wrap (n : Int) = (n : Int) := by
  refine ⟨by unfold wrap64; omega, by rw [IntKind.wrap_i64]; omega⟩

theorem wr_two {a b : Nat} (h : a + b ≤ 1000000000000) : wrap64 ((a : Int) + (b : Int)) = (a : Int) + (b : Int) ∧ IntKind.i64.wrap ((a : Int) + (b : Int)) = (a : Int) + (b : Int) := by
  refine ⟨by unfold wrap64; omega, by rw [IntKind.wrap_i64]; omega⟩

/-- A list of ints that is read. -/
theorem SI.at10 {w w' : World} {v : Value} {l : List Int} (h : SI w v l) {a : Option Addr} {n c : Nat} (hv : v = .slice a n c) (hi : 0 < l.length) : ∃ b o, a = some ⟨b, o, none⟩ ∧ ∀ j, j < l.length → w.cell? ⟨b, o + j, none⟩ = some (.int .i64 (l.getD j 0)) := by
  obtain ⟨ao, cap, rfl, h1, h2, h3, h4⟩ := h
  simp only [Value.slice.injEq] at hv
  obtain ⟨rfl, -, -⟩ := hv
  cases ao with
  | none => have := h3 rfl; omega
  | some x =>
    obtain ⟨b, o, rfl⟩ := addr_lit (h4 x rfl 0 hi)
    exact ⟨b, o, rfl, fun j hj => by have := h4 _ rfl j hj; rwa [Addr.add_lit] at this⟩

set_option maxHeartbeats 2000000 in
theorem best_walk (v vo : Value) (R : List Tk) (O : List Int) (w : World) (h : SK w v R) (hb : ∀ t ∈ R, Bt t) (hn : R.length ≤ 5864062014800) (ho : SI w vo O) (T : Ltab w ∧ Dtab w) :
    Calls Tryd.prog 4 #[v, vo] w fun e w' => e = .returned (.bool true) ∧ Below w.heap.size w w' := by
  have HS := hide h
  have HO := hide ho
  have HT := hide T
  have HBT := hide hb
  have HLS := hide (lsound_any v R w h hn)
  obtain ⟨ao, cap, rfl, hlc, hcm⟩ := h.open
  obtain ⟨ap, cp, rfl, hpc, hpm⟩ := ho.open
  clear h ho T hb
  go_enter Tryd.func4, Tryd.ntmps4
  go_wp2_with fail
  refine HLS.out.mono ?_
  rintro e w1 ⟨⟨near, rfl⟩, b1⟩
  have HB1 := hide b1
  obtain ⟨SZ, hSZ⟩ : ∃ z : Int, (if asnd R = true then lsay R else 0) = z := ⟨_, rfl⟩
  rw [hSZ]
  clear hSZ b1 HLS
  by_cases ha : ¬ asnd R = true
  · have ha' : asnd R = false := by simpa using ha
    rw [ha']
    clear ha ha'
    go_wp2
    go_ret
    exact ⟨rfl, HB1.out⟩
  have ha1 : asnd R = true := Decidable.byContradiction ha
  rw [ha1]
  by_cases hl : ¬ O.length = 286
  · have hl' : ((O.length : Int) != 286) = true := by simp; omega
    clear ha ha1 hl
    go_wp2
    go_ret
    exact ⟨rfl, HB1.out⟩
  have hl1 : O.length = 286 := Decidable.byContradiction hl
  have hl2 : ((O.length : Int) != 286) = false := by simp; omega
  by_cases hm : 16777216 < R.length
  · have hm' : (16777216 : Int) < (R.length : Int) := by omega
    clear ha ha1 hl
    go_wp2
    go_ret
    exact ⟨rfl, HB1.out⟩
  have hm' : ¬ (16777216 : Int) < (R.length : Int) := by omega
  obtain ⟨hE, f1, f2, f3, f4⟩ := ctl_facts (R := R) (by omega) ha1
  obtain ⟨t1, t2, t3, t4, t5⟩ := trl_facts (R := R) (by omega) ha1
  have HU := hide (cnt_lmE (l := ctL R) (by omega) f3 (by omega)).2
  have HE := hide hE
  have HF1 := hide f1
  have HF2 := hide f2
  have HF3 := hide f3
  have HT1 := hide t1
  have HT2 := hide t2
  have HT3 := hide t3
  have HGD := hide t4
  have HSO := hide t5
  have HLI := hide (list_any _ R w1 (HS.out.below HB1.out) (by omega))
  clear ha ha1 hl hm hE f1 f2 f3 f4 t1 t2 t3 t4 t5
  go_wp2_with fail
  refine HLI.out.mono ?_
  rintro e w2 ⟨u, rfl, o2, b2⟩
  have hsk := o2.sk
  obtain ⟨ac, cc, rfl, _, _⟩ := hsk.open
  have HB2 := hide (HB1.out.trans (b2.mono HB1.out.size))
  have HC := hide (oCount_any _ R w2 hsk HBT.out ⟨HT.out.1.low HB2.out, HT.out.2.low HB2.out⟩)
  clear o2 b2 hsk HLI
  go_wp2_with fail
  refine HC.out.mono ?_
  rintro e w3 ⟨vl, vd, rfl, o3, o4, o5, b3⟩
  have HB3 := hide (HB2.out.trans (b3.mono HB2.out.size))
  obtain ⟨al, cl, rfl, _⟩ := o3.sb.open
  obtain ⟨ad, cd, rfl, _⟩ := o4.sb.open
  have HFL := hide o3.sb
  have HLI := hide (list_any _ R w3 (HS.out.below HB3.out) (by omega))
  rw [HE.out]
  have e1 := HF1.out
  have e2 := HF2.out
  rw [e1, e2]
  rw [e1] at HFL
  clear o3 o4 o5 b3 HC e1 e2
  go_wp2_with fail
  refine HLI.out.mono ?_
  rintro e w4 ⟨u, rfl, o2, b4⟩
  have hsk := o2.sk
  obtain ⟨ac2, cc2, rfl, _, _⟩ := hsk.open
  have HB4 := hide (HB3.out.trans (b4.mono HB3.out.size))
  have HFL4 := hide (HFL.out.below b4)
  have HC := hide (oTrees_any _ R w4 hsk HBT.out ⟨HT.out.1.low HB4.out, HT.out.2.low HB4.out⟩)
  clear o2 b4 hsk HLI HFL
  go_wp2_with fail
  refine HC.out.mono ?_
  rintro e w5 ⟨vl, vd, rfl, o3, o4, o5, b5⟩
  have HB5 := hide (HB4.out.trans (b5.mono HB4.out.size))
  obtain ⟨a2, c2, rfl, _⟩ := o3.sb.open
  obtain ⟨a3, c3, rfl, _⟩ := o4.sb.open
  have HFL5 := hide (HFL4.out.below b5)
  have HTL5 := hide o3.sb
  have HO5 := hide (HO.out.below HB5.out)
  rw [HE.out]
  have e1 := HT2.out
  have e2 := HT3.out
  rw [e1, e2]
  rw [e1] at HTL5
  rw [HT1.out] at HTL5
  clear o3 o4 o5 b5 HC e1 e2 HFL4
  have e1 := HF1.out
  obtain ⟨bf, of, rfl, CF⟩ := HFL5.out.at10 (w' := w5) rfl (by omega)
  obtain ⟨bt, ot, rfl, CT⟩ := HTL5.out.at10 (w' := w5) rfl (by rw [lmt_len]; omega)
  obtain ⟨bo, oo, rfl, CO⟩ := HO5.out.at10 (w' := w5) rfl (by omega)
  rw [lmt_len, e1] at CT
  rw [e1] at CF
  rw [hl1] at CO
  have HCF := hide CF
  have HCT := hide CT
  have HCO := hide CO
  clear CF CT CO HFL5 HTL5 HO5 e1
  obtain ⟨F, hF⟩ : ∃ F, ctL R = F := ⟨_, rfl⟩
  rw [hF] at HU HF1 HF3 HT1 HGD HSO HCF HCT
  obtain ⟨L, HL⟩ : ∃ L, Hid (lmt F 15 = L) := ⟨_, rfl⟩
  have HGL : Hid (Gd F L 15) := by rw [← HL.out]; exact HGD.out
  rw [HL.out] at HCT
  have HBST : Hid (∀ O, LenOk F O 15 286 → sK F O 286 ≤ 32768 → fK F L 286 ≤ fK F O 286) := fun O h1 h2 => by
    have := best_law HSO.out HU.out (o := O) (by rw [HF1.out]; exact h1) (by rw [HF1.out]; exact h2)
    rw [HF1.out, HL.out] at this
    exact this
  clear hF HU HSO HT1 HGD HE HF2 HT2 HT3
  go_wp2
  go_loopw [14, 15, 16, 17] (fun s14 s15 s16 s17 wr => ∃ k n : Nat, k ≤ 286 ∧ s17 = .int .i64 (k : Int) ∧ s14 = .int .i64 ((sK F O k : Nat) : Int) ∧ s15 = .int .i64 ((fK F L k : Nat) : Int) ∧ s16 = .int .i64 ((fK F O k : Nat) : Int) ∧ Hid (LenOk F O 15 k) ∧ wr = w5.drewN n) (fun _ _ _ t _ => 286 - (intOf t).toNat)
  case atStart => exact ⟨0, 0, by omega, rfl, rfl, rfl, rfl, (fun s hs => by simp [usk] at hs), rfl⟩
  case round =>
    obtain ⟨k, n, hk, rfl, rfl, rfl, rfl, HLK, rfl⟩ := hrel
    by_cases hlt : k < 286
    · have hlt' : (k : Int) < 286 := by omega
      have c0 : w5.cell? ⟨bf, of + k, none⟩ = some (.int .i64 (F.getD k 0)) := HCF.out k hlt
      have c1 : w5.cell? ⟨bt, ot + k, none⟩ = some (.int .i64 (L.getD k 0)) := HCT.out k hlt
      have c2 : w5.cell? ⟨bo, oo + k, none⟩ = some (.int .i64 (O.getD k 0)) := HCO.out k hlt
      have HS1 := hide (sK_succ F O k)
      have HS2 := hide (fK_succ F L k)
      have HS3 := hide (fK_succ F O k)
      have hbf := HF3.out k
      by_cases h0 : F.getD k 0 = 0
      · have hz : L.getD k 0 = 0 := HGL.out.zero k (by rw [HF1.out]; exact hlt) h0
        have HLK2 : Hid (LenOk F O 15 (k + 1)) := lok_succ HLK.out (fun h => by omega)
        rw [if_neg (by omega)] at HS1 HS2 HS3
        rw [h0] at c0
        rw [hz] at c1
        clear h0 hz hbf
        go_wp2
        go_roundw
        case rel => exact ⟨k + 1, n, by omega, by go_num, by rw [HS1.out]; rfl, by rw [HS2.out]; rfl, by rw [HS3.out]; rfl, HLK2, rfl⟩
        case measure => simp [intOf]; omega
      · have hpos : 0 < F.getD k 0 := by omega
        have hmem : k ∈ usk F F.length := mem_us.2 ⟨by rw [HF1.out]; exact hlt, hpos⟩
        have hLk := HGL.out.ok k hmem
        rw [if_pos hpos] at HS1 HS2 HS3
        have z0 : (F.getD k 0 == 0) = false := by simpa using h0
        have z1 : ¬ L.getD k 0 < 1 := by omega
        have z2 : ¬ (15 : Int) < L.getD k 0 := by omega
        have z3 : ¬ F.getD k 0 < 0 := by omega
        have hB5 := hide (below_drewN HB5.out n)
        by_cases ho1 : O.getD k 0 < 1
        · obtain ⟨x, hx⟩ : ∃ x, F.getD k 0 = x := ⟨_, rfl⟩
          obtain ⟨y, hy⟩ : ∃ x, L.getD k 0 = x := ⟨_, rfl⟩
          obtain ⟨z, hz⟩ : ∃ x, O.getD k 0 = x := ⟨_, rfl⟩
          rw [hx] at c0 z0 z3
          rw [hy] at c1 z1 z2
          rw [hz] at c2 ho1
          clear hbf h0 hpos hmem hLk HS1 HS2 HS3 hx hy hz
          go_wp2
          go_ret
          exact ⟨rfl, hB5.out⟩
        · by_cases ho2 : (15 : Int) < O.getD k 0
          · obtain ⟨x, hx⟩ : ∃ x, F.getD k 0 = x := ⟨_, rfl⟩
            obtain ⟨y, hy⟩ : ∃ x, L.getD k 0 = x := ⟨_, rfl⟩
            obtain ⟨z, hz⟩ : ∃ x, O.getD k 0 = x := ⟨_, rfl⟩
            rw [hx] at c0 z0 z3
            rw [hy] at c1 z1 z2
            rw [hz] at c2 ho1 ho2
            clear hbf h0 hpos hmem hLk HS1 HS2 HS3 hx hy hz
            go_wp2
            go_ret
            exact ⟨rfl, hB5.out⟩
          · have HLK2 : Hid (LenOk F O 15 (k + 1)) := lok_succ HLK.out (fun h => by omega)
            have hsm := sums_small HLK.out HF3.out
            have hLO : LenOk F L 15 k := fun s hs => HGL.out.ok s (by
              have h1 : s < k ∧ 0 < F.getD s 0 := by simpa [usk] using hs
              exact mem_us.2 ⟨by rw [HF1.out]; omega, h1.2⟩)
            have hsl := sums_small hLO HF3.out
            have hbS : sK F O k ≤ 4685824 := Nat.le_trans hsm.1 (by omega)
            have hbT : fK F O k ≤ 71974260930 := Nat.le_trans hsm.2 (by omega)
            have hbO : fK F L k ≤ 71974260930 := Nat.le_trans hsl.2 (by omega)
            have hm1 : fq F k * nn L k ≤ 16777217 * 15 := Nat.mul_le_mul (by unfold fq; omega) (by unfold nn; omega)
            have hm2 : fq F k * nn O k ≤ 16777217 * 15 := Nat.mul_le_mul (by unfold fq; omega) (by unfold nn; omega)
            have hc1 : ((fq F k * nn L k : Nat) : Int) = F.getD k 0 * L.getD k 0 := by unfold fq nn; rw [Int.natCast_mul, Int.toNat_of_nonneg (by omega), Int.toNat_of_nonneg (by omega)]
            have hc2 : ((fq F k * nn O k : Nat) : Int) = F.getD k 0 * O.getD k 0 := by unfold fq nn; rw [Int.natCast_mul, Int.toNat_of_nonneg (by omega), Int.toNat_of_nonneg (by omega)]
            obtain ⟨c, hc⟩ := Int.eq_ofNat_of_zero_le (show 0 ≤ O.getD k 0 by omega)
            have hnn : nn O k = c := by unfold nn; rw [hc]; simp
            rw [hnn] at HS1
            have hc15 : c ≤ 15 := by omega
            have hsh := shr15 hc15
            have hpw := pw15 hc15
            obtain ⟨q, hq⟩ : ∃ q, 2 ^ (15 - c) = q := ⟨_, rfl⟩
            rw [hq] at hsh hpw HS1
            obtain ⟨P1, hP1⟩ : ∃ p, fq F k * nn L k = p := ⟨_, rfl⟩
            obtain ⟨P2, hP2⟩ : ∃ p, fq F k * nn O k = p := ⟨_, rfl⟩
            rw [hP1] at HS2 hm1 hc1
            rw [hP2] at HS3 hm2 hc2
            obtain ⟨S, hS⟩ : ∃ p, sK F O k = p := ⟨_, rfl⟩
            obtain ⟨U, hU⟩ : ∃ p, fK F L k = p := ⟨_, rfl⟩
            obtain ⟨V, hV⟩ : ∃ p, fK F O k = p := ⟨_, rfl⟩
            rw [hS] at HS1 hbS ⊢
            rw [hU] at HS2 hbO ⊢
            rw [hV] at HS3 hbT ⊢
            obtain ⟨x, hx⟩ : ∃ x, F.getD k 0 = x := ⟨_, rfl⟩
            obtain ⟨y, hy⟩ : ∃ x, L.getD k 0 = x := ⟨_, rfl⟩
            rw [hx] at c0 z0 z3 hc1 hc2
            rw [hy] at c1 z1 z2 hc1
            rw [hc] at c2 ho1 ho2 hc2
            have hc1' := hc1.symm
            have hc2' := hc2.symm
            clear hbf h0 hpos hmem hLk hx hy hc hS hU hV hP1 hP2 hq hsm hsl hLO hnn hc1 hc2
            have HW1 := hide (wr_nat (n := P1) (by omega))
            have HW2 := hide (wr_two (a := U) (b := P1) (by omega))
            have HW3 := hide (wr_nat (n := P2) (by omega))
            have HW4 := hide (wr_two (a := V) (b := P2) (by omega))
            have HX1 := hide hc1'
            have HX2 := hide hc2'
            have HSH := hide hsh
            clear hc1' hc2'
            go_wp2
            clear hsh
            have e0 := HX1.out
            have e1 : wrap64 (x * y) = (P1 : Int) := by rw [e0]; exact HW1.out.1
            have e2 : IntKind.i64.wrap (x * y) = (P1 : Int) := by rw [e0]; exact HW1.out.2
            obtain ⟨e3, e4⟩ := HW2.out
            obtain ⟨e5, e6⟩ := HW1.out
            go_quiet (fail)
            clear e0 e1 e2 e3 e4 e5 e6
            go_wp2
            have e0 := HX2.out
            have e1 : wrap64 (x * (c : Int)) = (P2 : Int) := by rw [e0]; exact HW3.out.1
            have e2 : IntKind.i64.wrap (x * (c : Int)) = (P2 : Int) := by rw [e0]; exact HW3.out.2
            obtain ⟨e3, e4⟩ := HW4.out
            obtain ⟨e5, e6⟩ := HW3.out
            go_quiet (fail)
            clear e0 e1 e2 e3 e4 e5 e6
            go_wp2
            go_roundw
            case rel => exact ⟨k + 1, _, by omega, by go_num, by rw [HS1.out]; push_cast; rfl, by rw [HS2.out]; push_cast; rfl, by rw [HS3.out]; push_cast; rfl, HLK2, rfl⟩
            case measure => simp [intOf]; omega
    · obtain rfl : k = 286 := by omega
      have hlt' : ¬ ((286 : Nat) : Int) < 286 := by omega
      have hB5 := hide (below_drewN HB5.out n)
      have HBB := hide (HBST.out O HLK.out)
      obtain ⟨S, hS⟩ : ∃ p, sK F O 286 = p := ⟨_, rfl⟩
      obtain ⟨U, hU⟩ : ∃ p, fK F L 286 = p := ⟨_, rfl⟩
      obtain ⟨V, hV⟩ : ∃ p, fK F O 286 = p := ⟨_, rfl⟩
      rw [hS, hU, hV] at HBB
      rw [hS, hU, hV]
      by_cases hs : S ≤ 32768
      · have hs' : ¬ (32768 : Int) < (S : Int) := by omega
        have huv : (U : Int) ≤ (V : Int) := by have := HBB.out hs; omega
        go_wp2
        go_ret
        exact ⟨by simp, hB5.out⟩
      · have hs' : (32768 : Int) < (S : Int) := by omega
        go_wp2
        go_ret
        exact ⟨rfl, hB5.out⟩
end Go.Proofs.YtbbbonphmffokabDoor

