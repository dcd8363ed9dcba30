import Derived.Test.YtjmjjjpanioifaaGTgn
namespace Go.Proofs.Ytjmjjjpanioifaa
open Go.RowKit Go.Maps
set_option maxRecDepth 20000
set_option linter.unusedVariables false
set_option linter.unusedSimpArgs false

/-- The document's test. -/
theorem xb_cases (f t : Int) (hf : Ok64 f) (ht : Ok64 t) : (t < f ∧ xb f t = 0) ∨ (f ≤ t ∧ 0 ≤ f ∧ t - f ≤ 16777216 ∧ xb f t = t - f) ∨ (f ≤ t ∧ 0 ≤ f ∧ 16777216 < t - f ∧ xb f t = 0) ∨ (f ≤ t ∧ f < 0 ∧ t ≤ 16777216 + f ∧ xb f t = t - f) ∨ (f ≤ t ∧ f < 0 ∧ 16777216 + f < t ∧ xb f t = 0) := by
  unfold xb
  by_cases h1 : t < f
  · exact .inl ⟨h1, if_pos h1⟩
  · rw [if_neg h1]
    by_cases h2 : 16777216 < t - f
    · rw [if_pos h2]
      by_cases h3 : 0 ≤ f
      · exact .inr (.inr (.inl ⟨by omega, h3, h2, rfl⟩))
      · exact .inr (.inr (.inr (.inr ⟨by omega, by omega, by omega, rfl⟩)))
    · rw [if_neg h2]
      by_cases h3 : 0 ≤ f
      · exact .inr (.inl ⟨by omega, h3, by omega, rfl⟩)
      · exact .inr (.inr (.inr (.inl ⟨by omega, by omega, by omega, rfl⟩)))

set_option maxHeartbeats 16000000 in
theorem ztight_any (v : Value) (R : List Ent) (cm : ByteArray) (w : World) (h : SR 20 w v (R.map Ent.cs)) (ho : ∀ e ∈ R, Ok64 e.frm ∧ Ok64 e.til) (hcm : cm.size ≤ 140737488351232) :
    Calls Try.prog 11 #[v, .string cm] w fun e w' => e = .returned (.int .i64 (tig R cm)) ∧ Below w.heap.size w w' := by
  have HL := hide h
  have HO := hide ho
  obtain ⟨ca, ccap, rfl, c1, c2⟩ := h.open
  rw [List.length_map] at c1
  have elc : (R.map Ent.cs).length = R.length := List.length_map ..
  rw [elc] at HL ⊢
  have HT0 : Hid (tig (R.take 0) cm = 22 + (cm.size : Int)) := by show _ = _; unfold tig wrap64; simp [tsum]; omega
  clear h ho elc
  go_enter Try.func11, Try.ntmps11
  go_wp2
  go_loopw [5, 6, 7] (fun n i _ wr => ∃ (j : Nat), n = .int .i64 (tig (R.take j) cm) ∧ i = .int .i64 (j : Int) ∧ j ≤ R.length ∧ Hid (Below w.heap.size w wr)) (fun _ i _ _ => R.length - (intOf i).toNat)
  case atStart => exact ⟨0, by rw [HT0.out], rfl, Nat.zero_le _, Below.refl _ _⟩
  case round =>
    obtain ⟨j, rfl, rfl, hj, HBr⟩ := hrel
    by_cases hlt : j < R.length
    · have hlt' : (j : Int) < (R.length : Int) := by omega
      obtain ⟨l, hl⟩ : ∃ l, l = R.getD j Ent.zero := ⟨_, rfl⟩
      have HNX : Hid (tig (R.take (j + 1)) cm = wrap64 (tig (R.take j) cm + ent1 l)) := by show _ = _; rw [hl]; exact tig_next hlt
      have HOl : Hid (Ok64 l.frm ∧ Ok64 l.til) := by rw [hl]; exact HO.out _ (memN hlt)
      obtain ⟨A, hA⟩ : ∃ A, A = l.cs := ⟨_, rfl⟩
      have HSA : Hid (A.size = 20) := by rw [hA]; exact rsN _
      have HOA : Hid (A.all (·.oneCell') = true) := by rw [hA]; exact roN _
      obtain ⟨b0, o0, hla, hrg⟩ := SR.row (HL.out.low HBr.out) (i := j) (by rw [List.length_map]; exact hlt)
      rw [csN_get hlt, ← hl, ← hA] at hrg
      have HRG := hide hrg
      have HZ : Hid ((wr.alloc (.cells #[.int .i64 0, .int .i64 0, .int .i64 0, .int .i64 0, .int .i64 0, .int .u32 0, .int .i64 0, .int .i64 0, .string ⟨#[]⟩, .string ⟨#[]⟩, .int .i64 0, .int .i64 0, .int .i64 0, .int .i64 0, .int .i64 0, .string ⟨#[]⟩, .string ⟨#[]⟩, .int .i64 0, .int .i64 0, .int .i64 0] 30)).heap[wr.heap.size]? = some (.cells #[.int .i64 0, .int .i64 0, .int .i64 0, .int .i64 0, .int .i64 0, .int .u32 0, .int .i64 0, .int .i64 0, .string ⟨#[]⟩, .string ⟨#[]⟩, .int .i64 0, .int .i64 0, .int .i64 0, .int .i64 0, .int .i64 0, .string ⟨#[]⟩, .string ⟨#[]⟩, .int .i64 0, .int .i64 0, .int .i64 0] 30 (0, 0))) := heap_alloc_new _ _
      obtain ⟨ws, hws⟩ : ∃ y, wr.alloc (.cells A 30) = y := ⟨_, rfl⟩
      have HBs : Hid (Below w.heap.size w ws) := by rw [← hws]; exact HBr.out.alloc HBr.out.size _
      have n1 : ws.heap[wr.heap.size]? = some (.cells A 30 (0, 0)) := by rw [← hws]; exact heap_alloc_new _ _
      have HW3 : Hid ((wr.alloc (.cells #[.int .i64 0, .int .i64 0, .int .i64 0, .int .i64 0, .int .i64 0, .int .u32 0, .int .i64 0, .int .i64 0, .string ⟨#[]⟩, .string ⟨#[]⟩, .int .i64 0, .int .i64 0, .int .i64 0, .int .i64 0, .int .i64 0, .string ⟨#[]⟩, .string ⟨#[]⟩, .int .i64 0, .int .i64 0, .int .i64 0] 30)).setRow wr.heap.size A = ws) := by show _ = _; rw [World.setRow_alloc_new]; exact hws
      have cb : ∀ (i : Nat) (u : Value), l.cs[i]? = some u → ws.cell? ⟨wr.heap.size, i, none⟩ = some u := fun i u hu => by
        rw [← hA] at hu
        simp only [World.cell?, n1]
        simpa using hu
      have g8 := cb 8 (.string l.cen.loc.name) rfl
      have g9 := cb 9 (.string l.cen.loc.extra) rfl
      have g15 := cb 15 (.string l.cen.comment) rfl
      have g17 := cb 17 (.int .i64 l.frm) rfl
      have g19 := cb 19 (.int .i64 l.til) rfl
      obtain ⟨f, hf⟩ : ∃ f, f = l.frm := ⟨_, rfl⟩
      obtain ⟨t, ht⟩ : ∃ t, t = l.til := ⟨_, rfl⟩
      have hcs := xb_cases l.frm l.til HOl.out.1 HOl.out.2
      obtain ⟨⟨f0, f1⟩, ⟨t0, t1⟩⟩ := HOl.out
      obtain ⟨X, hX⟩ : ∃ X, X = xb l.frm l.til := ⟨_, rfl⟩
      rw [← hX] at hcs
      obtain ⟨na, hna⟩ : ∃ n : Nat, n = l.cen.loc.name.size := ⟨_, rfl⟩
      obtain ⟨nb, hnb⟩ : ∃ n : Nat, n = l.cen.loc.extra.size := ⟨_, rfl⟩
      obtain ⟨nc, hnc⟩ : ∃ n : Nat, n = l.cen.comment.size := ⟨_, rfl⟩
      have HEN : Hid (ent1 l = 46 + na + nb + nc + X) := by show _ = _; unfold ent1; rw [hX, hna, hnb, hnc]
      rw [← hf] at hcs f0 f1 g17
      rw [← ht] at hcs t0 t1 g19
      obtain ⟨N, hN⟩ : ∃ N, N = tig (R.take j) cm := ⟨_, rfl⟩
      rw [← hN] at HNX ⊢
      subst hla
      have HNS : Hid (na = l.cen.loc.name.size ∧ nb = l.cen.loc.extra.size ∧ nc = l.cen.comment.size) := ⟨hna, hnb, hnc⟩
      clear hl hrg hX hN hA hws n1 cb hf ht hna hnb hnc HOl
      rcases hcs with ⟨k1, k4⟩ | ⟨k1, k2, k3, k4⟩ | ⟨k1, k2, k3, k4⟩ | ⟨k1, k2, k3, k4⟩ | ⟨k1, k2, k3, k4⟩
      all_goals (
        go_wp2_with (first
          | ((with_reducible refine wpList_lmN b0 (o0 + j * 20) A HSA.out ?hx HRG.out ?_); (case hx => rfl))
          | ((with_reducible refine wpList_stN wr.heap.size A #[.int .i64 0, .int .i64 0, .int .i64 0, .int .i64 0, .int .i64 0, .int .u32 0, .int .i64 0, .int .i64 0, .string ⟨#[]⟩, .string ⟨#[]⟩, .int .i64 0, .int .i64 0, .int .i64 0, .int .i64 0, .int .i64 0, .string ⟨#[]⟩, .string ⟨#[]⟩, .int .i64 0, .int .i64 0, .int .i64 0] HSA.out rfl HOA.out ?hx ?hy HZ.out ?_); (case hx => rfl); (case hy => rfl); rw [HW3.out]))
        go_roundw
        case rel =>
          refine ⟨j + 1, ?_, by go_num, by omega, HBs.out⟩
          rw [HNX.out, HEN.out, HNS.out.1, HNS.out.2.1, HNS.out.2.2]
          refine congrArg (Value.int .i64) ?_
          simp only [wr_l, wr_r, wr_s, wr_t]
          exact congrArg wrap64 (by omega)
        case measure => simp [intOf]; omega)
    · have hje : j = R.length := by omega
      subst hje
      go_wp2
      go_ret
      exact ⟨by rw [List.take_length]; rfl, HBr.out⟩
end Go.Proofs.Ytjmjjjpanioifaa

