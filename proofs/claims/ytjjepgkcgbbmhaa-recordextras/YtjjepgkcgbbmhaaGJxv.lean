import Derived.Test.YtjjepgkcgbbmhaaGJxn
import Derived.Test.YtjjepgkcgbbmhaaGVdx
import Derived.Test.YtjjepgkcgbbmhaaGCty
namespace Go.Proofs.Ytjjepgkcgbbmhaa
open Go.RowKit Go.Maps
set_option maxRecDepth 20000
set_option linter.unusedVariables false
set_option linter.unusedSimpArgs false

set_option maxHeartbeats 8000000 in
theorem vjoinExtra_any (v : Value) (R : List Xf) (w : World) (h : SR 2 w v (R.map csX)) (ho : ∀ r ∈ R, Ok64 r.1 ∧ r.2.size ≤ 9223372036854775807) :
    Calls Try.prog 22 #[v] w fun e w' => e = .returned (.tuple #[.string (jS R), .int .i64 (jE R)]) ∧ Below w.heap.size w w' := by
  have HL := hide h
  have HO := hide ho
  obtain ⟨ca, ccap, rfl, c1, c2⟩ := h.open
  have elc : (R.map csX).length = R.length := List.length_map ..
  rw [elc] at HL c1 ⊢
  have HN0 : Hid (OB w w.heap.size (.slice none 0 0) []) := ⟨by simp, .inl ⟨rfl, rfl⟩⟩
  clear h ho elc
  go_enter Try.func22, Try.ntmps22
  go_wp2
  go_loopw [4, 5, 6] (fun t i _ wr => ∃ (j : Nat) (L : List Int) (ta : Option Addr) (tc : Nat), t = .slice ta L.length tc ∧ i = .int .i64 (j : Int) ∧ j ≤ R.length ∧ L.length ≤ 65535 ∧ Hid (jst (R.take j) = ⟨L, 65535, 0⟩) ∧ Hid (OB wr w.heap.size (.slice ta L.length tc) L) ∧ Hid (Below w.heap.size w wr)) (fun _ i _ _ => R.length - (intOf i).toNat)
  case atStart => exact ⟨0, [], none, 0, rfl, rfl, Nat.zero_le _, by simp, rfl, HN0.out, Below.refl _ _⟩
  case round =>
    obtain ⟨j, L, ta, tc, rfl, rfl, hj, hL, HJ, HOB, HB⟩ := hrel
    by_cases hlt : j < R.length
    · have hlt' : (j : Int) < (R.length : Int) := by omega
      obtain ⟨r, hr⟩ : ∃ r, r = R.getD j xf0 := ⟨_, rfl⟩
      have HST : Hid (jst (R.take (j + 1)) = stp3 ⟨L, 65535, 0⟩ r) := by show _ = _; rw [hr, ← HJ.out]; exact jst_take hlt
      have hok : Ok64 r.1 ∧ r.2.size ≤ 9223372036854775807 := by rw [hr]; exact HO.out _ (by simp [List.getD, hlt])
      obtain ⟨b0, o0, hla, hrg⟩ := SR.row HL.out (i := j) (by rw [List.length_map]; exact hlt)
      rw [csX_get hlt, ← hr] at hrg
      have hno := fun hh => stp3_no (L := L) (r := r) hh hL
      have hyes := stp3_yes (L := L) (r := r)
      rw [← HST.out] at hyes
      have hno2 : (wide r.1 2 ∨ 65535 < r.2.size ∨ 65535 < L.length + 4 + r.2.size) → jE R = 124 ∧ jS R = ⟨#[]⟩ := fun hh => j_no (jst_err (j := j + 1) (by rw [HST.out]; exact hno hh))
      obtain ⟨tag, dat⟩ := r
      have g0 := hrg 0 (.int .i64 tag) rfl
      have g1 := hrg 1 (.string dat) rfl
      rw [Nat.add_zero] at g0
      subst hla
      simp only at hok hno2 hyes
      have HOk := hide hok
      have HRG : Hid (∀ W, Below w.heap.size w W → W.cell? ⟨b0, o0 + j * 2, none⟩ = some (.int .i64 tag) ∧ W.cell? ⟨b0, o0 + j * 2 + 1, none⟩ = some (.string dat)) := fun W hW => ⟨(hW.cell (World.block_lt_of_cell? _ _ g0)).trans g0, (hW.cell (World.block_lt_of_cell? _ _ g1)).trans g1⟩
      have HNO := hide hno2
      have HYE := hide hyes
      clear hr hrg hok hno hno2 hyes g0 g1
      obtain ⟨g0, g1⟩ := HRG.out wr HB.out
      go_wp2_with fail
      refine (vis16_any tag wr).mono ?_
      rintro e wa ⟨rfl, hwa⟩
      subst hwa
      by_cases h16 : wide tag 2
      case pos =>
        have hw : w16 tag = false := by unfold w16; exact decide_eq_false (fun hh => hh h16)
        have HD := hide (HNO.out (.inl h16))
        rw [hw]
        clear h16 hw
        go_wp2
        go_ret2
        rw [HD.out.1, HD.out.2]
        exact ⟨rfl, HB.out⟩
      have hw : w16 tag = true := by unfold w16; exact decide_eq_true h16
      rw [hw]
      have ht0 : 0 ≤ tag := by unfold wide at h16; omega
      have ht1 : tag ≤ 65535 := by unfold wide at h16; omega
      by_cases h2 : (65535 : Int) < (dat.size : Int)
      case pos =>
        have HD := hide (HNO.out (.inr (.inl (by omega))))
        clear hw
        go_wp2
        go_ret2
        rw [HD.out.1, HD.out.2]
        exact ⟨rfl, HB.out⟩
      have hds : dat.size ≤ 65535 := by omega
      clear hw
      go_wp2_with fail
      refine (vput_any HOB.out HB.out.size tag 2 ht0 (by omega) (by omega) (by omega)).mono ?_
      rintro e wb ⟨xa, xc, rfl, hob, hb, -⟩
      have HBb := hide (HB.out.trans hb)
      obtain ⟨L1, hL1⟩ : ∃ L1, L1 = L ++ bytesLE tag 2 := ⟨_, rfl⟩
      rw [← hL1] at hob ⊢
      have HLn1 : Hid (L1.length = L.length + 2) := by show _ = _; rw [hL1, List.length_append, length_bytesLE]
      have HL1 := hide hL1
      have HO1 := hide hob
      clear hob hb hL1 g0 g1
      obtain ⟨g0, g1⟩ := HRG.out wb HBb.out
      go_wp2_with fail
      refine (vput_any HO1.out HBb.out.size (dat.size : Int) 2 (by omega) (by omega) (by omega) (by have := HLn1.out; omega)).mono ?_
      rintro e wc ⟨ya, yc, rfl, hob, hb, -⟩
      have HBc := hide (HBb.out.trans hb)
      obtain ⟨L2, hL2⟩ : ∃ L2, L2 = L1 ++ bytesLE (dat.size : Int) 2 := ⟨_, rfl⟩
      rw [← hL2] at hob ⊢
      have HLn2 : Hid (L2.length = L1.length + 2) := by show _ = _; rw [hL2, List.length_append, length_bytesLE]
      have HL2 := hide hL2
      have HO2 := hide hob
      clear hob hb hL2 g0 g1
      obtain ⟨g0, g1⟩ := HRG.out wc HBc.out
      go_wp2_with fail
      refine (vtext_any HO2.out HBc.out.size dat hds (by have := HLn1.out; have := HLn2.out; omega)).mono ?_
      rintro e wd ⟨za, zc, rfl, hob, hb, -⟩
      have HBd := hide (HBc.out.trans hb)
      obtain ⟨L3, hL3⟩ : ∃ L3, L3 = L2 ++ strL dat := ⟨_, rfl⟩
      rw [← hL3] at hob ⊢
      have HLn3 : Hid (L3.length = L2.length + dat.size) := by show _ = _; rw [hL3, List.length_append, length_strL]
      have HL3 := hide hL3
      have HO3 := hide hob
      clear hob hb hL3 g0 g1
      by_cases h3 : (65535 : Int) < (L3.length : Int)
      · have HD := hide (HNO.out (.inr (.inr (by have := HLn1.out; have := HLn2.out; have := HLn3.out; omega))))
        go_wp2
        go_ret2
        rw [HD.out.1, HD.out.2]
        exact ⟨rfl, HBd.out⟩
      · have HJ3 : Hid (jst (R.take (j + 1)) = ⟨L3, 65535, 0⟩) := by
          show _ = _
          rw [HYE.out h16 (by have := HLn1.out; have := HLn2.out; have := HLn3.out; omega), HL3.out, HL2.out, HL1.out]
        go_wp2
        go_roundw
        case rel => exact ⟨j + 1, L3, za, zc, rfl, by go_num, by omega, by omega, HJ3.out, HO3.out, HBd.out⟩
        case measure => simp [intOf]; omega
    · have hje : j = R.length := by omega
      have HJJ : Hid (jst R = ⟨L, 65535, 0⟩) := by have := HJ.out; rwa [hje, List.take_length] at this
      have HD : Hid (jE R = 0 ∧ jS R = strOfNums L) := by
        have := j_yes (R := R) (by rw [HJJ.out])
        rwa [HJJ.out] at this
      subst hje
      have hcv := rs_convert HOB.out.sb.rs12
      go_wp2
      go_ret2
      rw [HD.out.1, HD.out.2]
      exact ⟨rfl, HB.out⟩
end Go.Proofs.Ytjjepgkcgbbmhaa

