import Derived.Test.YtlleajegfeilfaaGNed
import Derived.Test.YtlleajegfeilfaaGZnd
import Derived.Test.YtlleajegfeilfaaGSmw
import Derived.Test.YtlleajegfeilfaaGOpenW
namespace Go.Proofs.Ytlleajegfeilfaa
open Go.RowKit Go.Maps
set_option maxRecDepth 20000
set_option linter.unusedVariables false
set_option linter.unusedSimpArgs false

theorem numb_any (x : Int) (w : World) : Calls Try.prog 8 #[.int .i64 x] w fun e w' => e = .returned (.int .i64 x) ∧ w' = w := by
  go_enter Try.func8, Try.ntmps8
  go_wp2
  go_ret
  exact ⟨rfl, rfl⟩

theorem prf_we (F : List Fe) : prs (F.map Fe.we) = prf F := by
  unfold prs prf
  rw [List.map_map]
  rfl
theorem prs_nms {R S : List We} (h : prs R = prs S) : nms R = nms S := by
  have : ∀ T : List We, nms T = (prs T).map (fun p => (p.1, p.2.length)) := fun T => by unfold nms prs; rw [List.map_map]; rfl
  rw [this, this, h]
theorem prs_ok {R S : List We} (h : prs R = prs S) (hs : sml S) (ho : ∀ e ∈ S, -9223372036854775808 ≤ e.at' ∧ e.at' ≤ 9223372036854775807) : sml R ∧ ∀ e ∈ R, -9223372036854775808 ≤ e.at' ∧ e.at' ≤ 9223372036854775807 := by
  have hl : R.length = S.length := by have := congrArg List.length h; simpa [prs] using this
  have key : ∀ e ∈ R, ∃ f ∈ S, f.at' = e.at' ∧ f.l = e.l := fun e he => by
    have : (e.at', e.l) ∈ prs S := by rw [← h]; exact List.mem_map_of_mem (f := fun e : We => (e.at', e.l)) he
    obtain ⟨f, hf, hq⟩ := List.mem_map.1 this
    exact ⟨f, hf, congrArg Prod.fst hq, congrArg Prod.snd hq⟩
  refine ⟨⟨by rw [hl]; exact hs.1, fun e he => ?_⟩, fun e he => ?_⟩
  · obtain ⟨f, hf, _, h2⟩ := key e he
    rw [← h2]; exact hs.2 f hf
  · obtain ⟨f, hf, h1, _⟩ := key e he
    rw [← h1]; exact ho f hf

set_option maxHeartbeats 8000000 in
theorem needs_walk (old size : Int) (v : Value) (R : List We) (w : World) (h : SW w v R) (hs : sml R) (ho : ∀ e ∈ R, -9223372036854775808 ≤ e.at' ∧ e.at' ≤ 9223372036854775807) :
    Calls Try.prog 5 #[.int .i64 old, .int .i64 size, v] w fun e w' => e = .returned (.bool true) ∧ Below w.heap.size w w' := by
  have HFW := hide (framedWrites_any v R w h hs)
  have HS := hide (fun w' (hb : Below w.heap.size w w') => h.low hb)
  have HND := hide (fun (v1 v2 : Value) (F : List Fe) (w1 : World) (hq : prf F = prs R) (hw : FW w1 w.heap.size v1 v2 F) => by
    have hp := (prf_we F).trans hq
    have q := prs_ok hp hs ho
    have := need_any v1 (F.map Fe.we) old size w1 hw.sw q.2 q.1.2
    rw [prs_nms hp] at this
    exact this)
  have HZD := hide (fun w' (hb : Below w.heap.size w w') => zneed_any v R old size w' (h.low hb) ho hs.2)
  have HSW := hide (fun (v1 v2 : Value) (F : List Fe) (w1 w2 : World) (hq : prf F = prs R) (hw : FW w1 w.heap.size v1 v2 F) (hb : Below w1.heap.size w1 w2) (hb2 : Below w.heap.size w w2) => sameWrites_any v1 v (F.map Fe.we) R w2 (hw.below hb).sw (h.low hb2) ((prf_we F).trans hq))
  have HWA := hide (fun (v1 v2 : Value) (F : List Fe) (w1 w2 : World) (hq : prf F = prs R) (hw : FW w1 w.heap.size v1 v2 F) (hb : Below w1.heap.size w1 w2) (hb2 : Below w.heap.size w w2) => wholeAll_any v1 v2 v w.heap.size R F w2 (hw.below hb) (h.low hb2) hs hq)
  obtain ⟨E0, hE0⟩ : ∃ E, E = ndE old size (nms R) := ⟨_, rfl⟩
  obtain ⟨N0, hN0⟩ : ∃ E, E = ndN old size (nms R) := ⟨_, rfl⟩
  rw [← hE0, ← hN0] at HND HZD
  clear hE0 hN0 h hs ho
  go_enter Try.func5, Try.ntmps5
  go_wp2_with fail
  refine HFW.out.mono ?_
  rintro e w1 ⟨v1, v2, F, rfl, hq, hw, hb⟩
  have HQ := hide hq
  have HW := hide hw
  have HB1 := hide hb
  clear hq hw hb HFW
  go_wp2_with fail
  refine (HND.out v1 v2 F w1 HQ.out HW.out).mono ?_
  rintro e w2 ⟨rfl, hb2⟩
  have HC2 := hide hb2
  have HB2 := hide (HB1.out.trans (hb2.mono HB1.out.size))
  clear hb2 HND
  go_wp2_with fail
  refine (HZD.out w2 HB2.out).mono ?_
  rintro e w3 ⟨rfl, hb3⟩
  have HC3 := hide (HC2.out.trans (hb3.mono HC2.out.size))
  have HB3 := hide (HB2.out.trans (hb3.mono HB2.out.size))
  clear hb3 HZD
  go_wp2_with fail
  refine (numb_any _ _).mono ?_
  rintro e w4 ⟨rfl, h4⟩
  rw [h4]
  clear h4 w4
  go_wp2_with fail
  refine (HSW.out v1 v2 F w1 w3 HQ.out HW.out HC3.out HB3.out).mono ?_
  rintro e w4 ⟨rfl, n4, h4⟩
  have HC4 : Hid (Below w1.heap.size w1 w4) := by rw [h4]; exact below_drewN HC3.out n4
  have HB4 : Hid (Below w.heap.size w w4) := by rw [h4]; exact below_drewN HB3.out n4
  clear h4
  go_wp2_with fail
  refine (HWA.out v1 v2 F w1 w4 HQ.out HW.out HC4.out HB4.out).mono ?_
  rintro e w5 ⟨rfl, n5, h5⟩
  have HB5 : Hid (Below w.heap.size w w5) := by rw [h5]; exact below_drewN HB4.out n5
  clear h5
  go_wp2
  go_ret
  exact ⟨rfl, HB5.out⟩
end Go.Proofs.Ytlleajegfeilfaa

