import Derived.Test.YtijmmfimkibgbaaGJxn
import Derived.Test.YtijmmfimkibgbaaGCty
namespace Go.Proofs.Ytijmmfimkibgbaa
open Go.RowKit Go.Maps
set_option maxRecDepth 20000
set_option linter.unusedVariables false
set_option linter.unusedSimpArgs false

theorem box2 {w : World} {c : Nat} {a0 a1 : Value} {t : TypeId} {k : Nat × Nat} (h : w.heap[c]? = some (.cells #[a0, a1] t k)) : w.cell? ⟨c, 0, none⟩ = some a0 ∧ w.cell? ⟨c, 1, none⟩ = some a1 := ⟨box_cells h 0, box_cells h 1⟩

set_option maxHeartbeats 8000000 in
theorem joinExtra_any (v : Value) (R : List Xf) (w : World) (h : SR 2 w v (R.map csX)) (ho : ∀ r ∈ R, Ok64 r.1 ∧ r.2.size ≤ 9223372036854775807) :
    Calls Try.prog 35 #[v] w fun e w' => e = .returned (.tuple #[.string (jS R), .int .i64 (jE R)]) ∧ Below w.heap.size w w' := by
  have HL := hide h
  have HO := hide ho
  obtain ⟨ca, ccap, rfl, c1, c2⟩ := h.open
  have elc : (R.map csX).length = R.length := List.length_map ..
  rw [elc] at HL c1 ⊢
  clear h ho elc
  go_enter Try.func35, Try.ntmps35
  go_wp2_with fail
  refine (newBz w).mono ?_
  rintro e w1 ⟨g, rfl, hz⟩
  have HZ := hide hz
  clear hz
  go_wp2
  go_loopw [6, 10] (fun _ i wr => ∃ (j : Nat), i = .int .i64 (j : Int) ∧ j ≤ R.length ∧ Hid ((jst (R.take j)).e = 0) ∧ Hid (Bz w g wr (jst (R.take j)))) (fun _ i _ => R.length - (intOf i).toNat)
  case atStart => exact ⟨0, rfl, Nat.zero_le _, rfl, HZ.out⟩
  case round =>
    obtain ⟨j, rfl, hj, HE0, HB⟩ := hrel
    by_cases hlt : j < R.length
    · have hlt' : (j : Int) < (R.length : Int) := by omega
      obtain ⟨r, hr⟩ : ∃ r, r = R.getD j xf0 := ⟨_, rfl⟩
      have HST : Hid (jst (R.take (j + 1)) = stp3 (jst (R.take j)) r) := by show _ = _; rw [hr]; exact jst_take hlt
      have hok : Ok64 r.1 ∧ r.2.size ≤ 9223372036854775807 := by rw [hr]; exact HO.out _ (by simp [List.getD, hlt])
      obtain ⟨b0, o0, hla, hrg⟩ := SR.row (HL.out.low HB.out.below) (i := j) (by rw [List.length_map]; exact hlt)
      rw [csX_get hlt, ← hr] at hrg
      obtain ⟨tag, dat⟩ := r
      have g0 := hrg 0 (.int .i64 tag) rfl
      have g1 := hrg 1 (.string dat) rfl
      rw [Nat.add_zero] at g0
      subst hla
      simp only at hok
      have HOk := hide hok
      obtain ⟨S, hS⟩ : ∃ S, S = jst (R.take j) := ⟨_, rfl⟩
      rw [← hS] at HST HB HE0
      obtain ⟨w2, hw2⟩ : ∃ y, wr.alloc (.cells #[.int .i64 tag, .string dat] 67) = y := ⟨_, rfl⟩
      have HX : Hid (Bx wr.heap.size (.cells #[.int .i64 tag, .string dat] 67) w (fun _ => 0) g w2 S) := by rw [← hw2]; exact HB.out.box _
      clear hr hrg hok hS
      obtain ⟨k0, k1⟩ := box2 HX.out.box
      go_wp2_with fail
      refine (pu16_any HX.out tag HOk.out.1).mono ?_
      rintro e w3 ⟨rfl, hx⟩
      have HX3 := hide hx
      clear hx k0 k1 hw2 HX g0 g1
      obtain ⟨k0, k1⟩ := box2 HX3.out.box
      go_wp2_with fail
      refine (pu16_any HX3.out (dat.size : Int) (by unfold Ok64; have := HOk.out.2; omega)).mono ?_
      rintro e w4 ⟨rfl, hx⟩
      have HX4 := hide hx
      clear hx k0 k1 HX3
      obtain ⟨k0, k1⟩ := box2 HX4.out.box
      go_wp2_with fail
      refine (ptext_any HX4.out dat).mono ?_
      rintro e w5 ⟨rfl, hx⟩
      have HB5 : Hid (Bz w g w5 (jst (R.take (j + 1)))) := by rw [HST.out]; exact hx.bz
      clear hx k0 k1 HX4
      go_wp2_with fail
      refine (zerr_any HB5.out).mono ?_
      rintro e w6 ⟨rfl, hw6⟩
      subst hw6
      by_cases he : (jst (R.take (j + 1))).e = 0
      · rw [he]
        have HE1 := hide he
        clear he
        go_wp2
        go_roundw
        case rel => exact ⟨j + 1, by go_num, by omega, HE1.out, HB5.out⟩
        case measure => simp [intOf]; omega
      · obtain ⟨E, hE⟩ : ∃ E, E = (jst (R.take (j + 1))).e := ⟨_, rfl⟩
        have HD := hide (j_no (jst_err he))
        rw [← hE] at he ⊢
        have hne : (E != 0) = true := by simpa using he
        clear hE he
        go_wp2
        go_ret2
        rw [HD.out.1, HD.out.2]
        exact ⟨rfl, HB5.out.below⟩
    · have hje : j = R.length := by omega
      have HEE : Hid ((jst R).e = 0) := by have := HE0.out; rwa [hje, List.take_length] at this
      have HBB : Hid (Bz w g wr (jst R)) := by have := HB.out; rwa [hje, List.take_length] at this
      have HD := hide (j_yes HEE.out)
      obtain ⟨L, hL⟩ : ∃ L, L = (jst R).l := ⟨_, rfl⟩
      have HTK := hide (ztake_any HBB.out HEE.out)
      rw [← hL] at HTK HD
      subst hje
      clear hL
      go_wp2_with fail
      refine HTK.out.mono ?_
      rintro e w2 ⟨a, c, rfl, hs, hb⟩
      have hcv := rs_convert hs.rs12
      have HB2 := hide (HBB.out.below.trans (hb.mono HBB.out.below.size))
      clear hs hb
      go_wp2
      go_ret2
      rw [HD.out.1, HD.out.2]
      exact ⟨rfl, HB2.out⟩
end Go.Proofs.Ytijmmfimkibgbaa

