import Derived.Test.YtjmjjjpanioifaaGTgn
import Derived.Deep.RegionHeld3
namespace Go.Proofs.Ytjmjjjpanioifaa
open Go.RowKit Go.Maps
set_option maxRecDepth 20000
set_option linter.unusedVariables false
set_option linter.unusedSimpArgs false

set_option maxHeartbeats 8000000 in
theorem tight_any (v : Value) (R : List Ent) (cm : ByteArray) (w : World) (h : SR 20 w v (R.map Ent.cs)) (ho : ∀ e ∈ R, Ok64 e.frm ∧ Ok64 e.til) (hcm : cm.size ≤ 140737488351232) :
    Calls Try.prog 10 #[v, .string cm] w fun e w' => e = .returned (.int .i64 (tig R cm)) ∧ Below w.heap.size w w' := by
  have HL := hide h
  have HO := hide ho
  obtain ⟨ca, ccap, rfl, c1, c2⟩ := h.open
  rw [List.length_map] at c1
  have elc : (R.map Ent.cs).length = R.length := List.length_map ..
  rw [elc] at HL ⊢
  have HT0 : Hid (tig (R.take 0) cm = 22 + (cm.size : Int)) := by show _ = _; unfold tig wrap64; simp [tsum]; omega
  have HTT : Hid (∀ j, -9223372036854775808 ≤ tig (R.take j) cm ∧ tig (R.take j) cm ≤ 9223372036854775807) := fun j => wrap_in _
  clear h ho elc
  go_enter Try.func10, Try.ntmps10
  go_wp2
  go_loopw [5, 6, 7, 13] (fun n _ _ i wr => ∃ (j : Nat), n = .int .i64 (tig (R.take j) cm) ∧ i = .int .i64 (j : Int) ∧ j ≤ R.length ∧ Hid (Below w.heap.size w wr)) (fun _ _ _ i _ => R.length - (intOf i).toNat)
  case atStart => exact ⟨0, by rw [HT0.out], rfl, Nat.zero_le _, Below.refl _ _⟩
  case round =>
    obtain ⟨j, rfl, rfl, hj, HBr⟩ := hrel
    by_cases hlt : j < R.length
    · have hlt' : (j : Int) < (R.length : Int) := by omega
      obtain ⟨l, hl⟩ : ∃ l, l = R.getD j Ent.zero := ⟨_, rfl⟩
      have HNX : Hid (tig (R.take (j + 1)) cm = wrap64 (tig (R.take j) cm + ent1 l)) := by show _ = _; rw [hl]; exact tig_next hlt
      have HOl : Hid (Ok64 l.frm ∧ Ok64 l.til) := by rw [hl]; exact HO.out _ (memN hlt)
      obtain ⟨b0, o0, hla, hrg⟩ := SR.row (HL.out.low HBr.out) (i := j) (by rw [List.length_map]; exact hlt)
      rw [csN_get hlt, ← hl] at hrg
      obtain ⟨P, hP⟩ : ∃ P, P = o0 + j * 20 := ⟨_, rfl⟩
      rw [← hP] at hrg
      have g8 := range_cell hrg (i := 8) (u := .string l.cen.loc.name) rfl
      have g9 := range_cell hrg (i := 9) (u := .string l.cen.loc.extra) rfl
      have g15 := range_cell hrg (i := 15) (u := .string l.cen.comment) rfl
      have g17 := range_cell hrg (i := 17) (u := .int .i64 l.frm) rfl
      have g19 := range_cell hrg (i := 19) (u := .int .i64 l.til) rfl
      have HXC : Hid (∀ W : World, W.cell? ⟨b0, P + 17, none⟩ = some (.int .i64 l.frm) → W.cell? ⟨b0, P + 19, none⟩ = some (.int .i64 l.til) → Calls Try.prog 29 #[.pointer (some ⟨b0, P, none⟩)] W fun e w' => e = .returned (.int .i64 (xb l.frm l.til)) ∧ ∃ n, w' = W.drewN n) := fun W h1 h2 => extentBytes_any b0 P l.frm l.til W h1 h2 HOl.out.1 HOl.out.2
      obtain ⟨X, hX⟩ : ∃ X, X = xb l.frm l.til := ⟨_, rfl⟩
      have hx := xb_in l.frm l.til
      rw [← hX] at HXC hx
      obtain ⟨na, hna⟩ : ∃ n : Nat, n = l.cen.loc.name.size := ⟨_, rfl⟩
      obtain ⟨nb, hnb⟩ : ∃ n : Nat, n = l.cen.loc.extra.size := ⟨_, rfl⟩
      obtain ⟨nc, hnc⟩ : ∃ n : Nat, n = l.cen.comment.size := ⟨_, rfl⟩
      have HEN : Hid (ent1 l = 46 + na + nb + nc + X) := by show _ = _; unfold ent1; rw [hX, hna, hnb, hnc]
      obtain ⟨N, hN⟩ : ∃ N, N = tig (R.take j) cm := ⟨_, rfl⟩
      rw [← hN] at HNX ⊢
      subst hla
      have HP := hide hP
      clear hl hrg hX hN hP
      go_wp2
      rw [← HP.out]
      have HC := hide (And.intro (And.intro g8 (And.intro g9 g15)) (And.intro g17 g19))
      go_region_held3 (fun W => (W.cell? ⟨b0, P + 8, none⟩ = some (.string l.cen.loc.name) ∧ W.cell? ⟨b0, P + 9, none⟩ = some (.string l.cen.loc.extra) ∧ W.cell? ⟨b0, P + 15, none⟩ = some (.string l.cen.comment)) ∧ W.cell? ⟨b0, P + 17, none⟩ = some (.int .i64 l.frm) ∧ W.cell? ⟨b0, P + 19, none⟩ = some (.int .i64 l.til)) (first | exact HC.out | exact HC2.out)
        (first
          | (go_at_call 29; refine (HXC.out wr.drew HC.out.2.1 HC.out.2.2).mono ?_; rintro e w2 ⟨rfl, k2, hw2⟩; have HC2 : Hid ((w2.cell? ⟨b0, P + 8, none⟩ = some (.string l.cen.loc.name) ∧ w2.cell? ⟨b0, P + 9, none⟩ = some (.string l.cen.loc.extra) ∧ w2.cell? ⟨b0, P + 15, none⟩ = some (.string l.cen.comment)) ∧ w2.cell? ⟨b0, P + 17, none⟩ = some (.int .i64 l.frm) ∧ w2.cell? ⟨b0, P + 19, none⟩ = some (.int .i64 l.til)) := (by rw [hw2]; exact HC.out); have HB2 : Hid (Below w.heap.size w w2) := (by rw [hw2]; exact below_drewN HBr.out.drew k2); clear hw2))
      go_wp2
      go_roundw
      case rel =>
        refine ⟨j + 1, ?_, by go_num, by omega, HB2.out⟩
        rw [HNX.out, HEN.out, hna, hnb, hnc]
        refine congrArg (Value.int .i64) ?_
        first
          | (simp only [i64_w, wr_l, wr_r, wr_s, wr_t]; done)
          | (simp only [i64_w, wr_l, wr_r, wr_s, wr_t]; exact congrArg wrap64 (by omega))
      case measure => simp [intOf]; omega
    · have hje : j = R.length := by omega
      subst hje
      go_wp2
      go_ret
      exact ⟨by rw [List.take_length]; rfl, HBr.out⟩
end Go.Proofs.Ytjmjjjpanioifaa

