import Derived.Test.YtklffkbcigehfabWrs2
namespace Go.Proofs.Ytklffkbcigehfab
open Go.RowKit Go.Maps
set_option maxRecDepth 20000

def ord (i : Nat) : Nat := if i = 2 then 3 else if i = 3 then 5 else if i = 4 then 2 else if i = 5 then 4 else i

theorem Herd.order {W w : World} {A B C D E F G : (Nat → Nat) × Thing} (h : Herd W w [A, B, C, D, E, F, G]) : Herd W w [A, B, D, F, C, E, G] := by
  refine h.sub ord (fun i d hd => ?_) (fun i j hi hj e => by simp only [List.length_cons, List.length_nil] at hi hj; unfold ord at e; (repeat' split at e) <;> omega)
  match i, hd with
  | 0, hd => exact hd
  | 1, hd => exact hd
  | 2, hd => exact hd
  | 3, hd => exact hd
  | 4, hd => exact hd
  | 5, hd => exact hd
  | 6, hd => exact hd
  | n + 7, hd => simp at hd

def three {α : Type} (a b c : α) (i : Nat) : α := if i = 0 then a else if i = 1 then b else c

set_option linter.unusedSimpArgs false in
set_option maxHeartbeats 4000000 in
theorem begin_any (w : World) : Calls Try.prog 40 #[] w fun e w' => ∃ Bw, e = .returned (.tuple #[.pointer (some ⟨Bw, 0, none⟩), .bool true]) ∧ W3 w w' Bw := by
  obtain ⟨V, HV⟩ : ∃ V, Hid (V = w.alloc (.cells #[.pointer none, .pointer none, .pointer none, .pointer none, .pointer none, .pointer none] 85)) := ⟨_, rfl⟩
  obtain ⟨Bw, HE⟩ : ∃ B, Hid (B = w.heap.size) := ⟨_, rfl⟩
  obtain ⟨Kw, hH⟩ := (Herd.nil w).alloc (.cells #[.pointer none, .pointer none, .pointer none, .pointer none, .pointer none, .pointer none] 85)
  rw [← HV.out, ← HE.out] at hH
  have H0 : Hid (Herd w V [(Kw, tb Bw (.cells #[.pointer none, .pointer none, .pointer none, .pointer none, .pointer none, .pointer none] 85 (0, 0)))]) := hH
  clear hH
  go_enter Try.func40, Try.ntmps40
  go_wp2
  rw [← HV.out, ← HE.out]
  refine wp_loop_rounds 4 ?_
  rw [rounds_succ]
  have HCL : Hid (∀ n, Calls Try.prog 9 #[] (V.drewN n) fun e w' => ∃ u, e = .returned u ∧ (∃ g0 Kg0, u = .pointer (some ⟨g0, 0, none⟩) ∧ Herd w w' [(Kw, tb Bw (.cells #[.pointer none, .pointer none, .pointer none, .pointer none, .pointer none, .pointer none] 85 (0, 0))), (Kg0, tw g0 [])])) := fun n => by
    refine (hnewW (H0.out.drewN n)).mono ?_
    rintro e w2 ⟨gn, Kn, rfl, hH⟩
    exact ⟨_, rfl, gn, Kn, rfl, hH⟩
  go_wp2
  go_region_law (refine step_call0 rfl 9 rfl Try.call9 (HCL.out 1) ?_; rintro v w1 ⟨g0, Kg0, rfl, hH⟩; have HP1 := hide hH; clear hH; have z0 : w1.cell? ⟨Bw, 0, none⟩ = some (.pointer none) := HP1.out.box 0 rfl 0; have zf : w1.frozen? ⟨Bw, 0, none⟩ = false := HP1.out.frozen 0 rfl 0)
  have hH := HP1.out.setb 0 rfl 0 (.pointer (some ⟨g0, 0, none⟩))
  obtain ⟨V1, HV1⟩ : ∃ V', Hid (V' = w1.setCell ⟨Bw, 0, none⟩ (.pointer (some ⟨g0, 0, none⟩))) := ⟨_, rfl⟩
  rw [← HV1.out] at hH ⊢
  have H1 : Hid (Herd w V1 [(Kw, tb Bw (.cells #[.pointer (some ⟨g0, 0, none⟩), .pointer none, .pointer none, .pointer none, .pointer none, .pointer none] 85 (0, 0))), (Kg0, tw g0 [])]) := hH
  clear hH HCL z0 zf HP1
  have HCL : Hid (∀ n, Calls Try.prog 58 #[] (V1.drewN n) fun e w' => ∃ u, e = .returned u ∧ (∃ x0 Kx0, u = .pointer (some ⟨x0, 0, none⟩) ∧ Herd w w' [(Kw, tb Bw (.cells #[.pointer (some ⟨g0, 0, none⟩), .pointer none, .pointer none, .pointer none, .pointer none, .pointer none] 85 (0, 0))), (Kg0, tw g0 []), (Kx0, tx x0 [])])) := fun n => by
    refine (hxnew (H1.out.drewN n)).mono ?_
    rintro e w2 ⟨gn, Kn, rfl, hH⟩
    exact ⟨_, rfl, gn, Kn, rfl, hH⟩
  go_wp2
  go_region_law (refine step_call0 rfl 58 rfl Try.call58 (HCL.out 1) ?_; rintro v w2 ⟨x0, Kx0, rfl, hH⟩; have HP2 := hide hH; clear hH; have z0 : w2.cell? ⟨Bw, 3, none⟩ = some (.pointer none) := HP2.out.box 0 rfl 3; have zf : w2.frozen? ⟨Bw, 3, none⟩ = false := HP2.out.frozen 0 rfl 3)
  have hH := HP2.out.setb 0 rfl 3 (.pointer (some ⟨x0, 0, none⟩))
  obtain ⟨V2, HV2⟩ : ∃ V', Hid (V' = w2.setCell ⟨Bw, 3, none⟩ (.pointer (some ⟨x0, 0, none⟩))) := ⟨_, rfl⟩
  rw [← HV2.out] at hH ⊢
  have H2 : Hid (Herd w V2 [(Kw, tb Bw (.cells #[.pointer (some ⟨g0, 0, none⟩), .pointer none, .pointer none, .pointer (some ⟨x0, 0, none⟩), .pointer none, .pointer none] 85 (0, 0))), (Kg0, tw g0 []), (Kx0, tx x0 [])]) := hH
  clear hH HCL z0 zf HP2
  have yy : V2.cell? ⟨Bw, 0, none⟩ = some (.pointer (some ⟨g0, 0, none⟩)) := H2.out.box 0 rfl 0
  go_wp2
  rw [rounds_succ]
  have HCL : Hid (∀ n, Calls Try.prog 9 #[] (V2.drewN n) fun e w' => ∃ u, e = .returned u ∧ (∃ g1 Kg1, u = .pointer (some ⟨g1, 0, none⟩) ∧ Herd w w' [(Kw, tb Bw (.cells #[.pointer (some ⟨g0, 0, none⟩), .pointer none, .pointer none, .pointer (some ⟨x0, 0, none⟩), .pointer none, .pointer none] 85 (0, 0))), (Kg0, tw g0 []), (Kx0, tx x0 []), (Kg1, tw g1 [])])) := fun n => by
    refine (hnewW (H2.out.drewN n)).mono ?_
    rintro e w2 ⟨gn, Kn, rfl, hH⟩
    exact ⟨_, rfl, gn, Kn, rfl, hH⟩
  go_wp2
  go_region_law (refine step_call0 rfl 9 rfl Try.call9 (HCL.out 1) ?_; rintro v w3 ⟨g1, Kg1, rfl, hH⟩; have HP3 := hide hH; clear hH; have z0 : w3.cell? ⟨Bw, 1, none⟩ = some (.pointer none) := HP3.out.box 0 rfl 1; have zf : w3.frozen? ⟨Bw, 1, none⟩ = false := HP3.out.frozen 0 rfl 1)
  have hH := HP3.out.setb 0 rfl 1 (.pointer (some ⟨g1, 0, none⟩))
  obtain ⟨V3, HV3⟩ : ∃ V', Hid (V' = w3.setCell ⟨Bw, 1, none⟩ (.pointer (some ⟨g1, 0, none⟩))) := ⟨_, rfl⟩
  rw [← HV3.out] at hH ⊢
  have H3 : Hid (Herd w V3 [(Kw, tb Bw (.cells #[.pointer (some ⟨g0, 0, none⟩), .pointer (some ⟨g1, 0, none⟩), .pointer none, .pointer (some ⟨x0, 0, none⟩), .pointer none, .pointer none] 85 (0, 0))), (Kg0, tw g0 []), (Kx0, tx x0 []), (Kg1, tw g1 [])]) := hH
  clear hH HCL z0 zf HP3
  have HCL : Hid (∀ n, Calls Try.prog 58 #[] (V3.drewN n) fun e w' => ∃ u, e = .returned u ∧ (∃ x1 Kx1, u = .pointer (some ⟨x1, 0, none⟩) ∧ Herd w w' [(Kw, tb Bw (.cells #[.pointer (some ⟨g0, 0, none⟩), .pointer (some ⟨g1, 0, none⟩), .pointer none, .pointer (some ⟨x0, 0, none⟩), .pointer none, .pointer none] 85 (0, 0))), (Kg0, tw g0 []), (Kx0, tx x0 []), (Kg1, tw g1 []), (Kx1, tx x1 [])])) := fun n => by
    refine (hxnew (H3.out.drewN n)).mono ?_
    rintro e w2 ⟨gn, Kn, rfl, hH⟩
    exact ⟨_, rfl, gn, Kn, rfl, hH⟩
  go_wp2
  go_region_law (refine step_call0 rfl 58 rfl Try.call58 (HCL.out 1) ?_; rintro v w4 ⟨x1, Kx1, rfl, hH⟩; have HP4 := hide hH; clear hH; have z0 : w4.cell? ⟨Bw, 4, none⟩ = some (.pointer none) := HP4.out.box 0 rfl 4; have zf : w4.frozen? ⟨Bw, 4, none⟩ = false := HP4.out.frozen 0 rfl 4)
  have hH := HP4.out.setb 0 rfl 4 (.pointer (some ⟨x1, 0, none⟩))
  obtain ⟨V4, HV4⟩ : ∃ V', Hid (V' = w4.setCell ⟨Bw, 4, none⟩ (.pointer (some ⟨x1, 0, none⟩))) := ⟨_, rfl⟩
  rw [← HV4.out] at hH ⊢
  have H4 : Hid (Herd w V4 [(Kw, tb Bw (.cells #[.pointer (some ⟨g0, 0, none⟩), .pointer (some ⟨g1, 0, none⟩), .pointer none, .pointer (some ⟨x0, 0, none⟩), .pointer (some ⟨x1, 0, none⟩), .pointer none] 85 (0, 0))), (Kg0, tw g0 []), (Kx0, tx x0 []), (Kg1, tw g1 []), (Kx1, tx x1 [])]) := hH
  clear hH HCL z0 zf HP4
  have yy : V4.cell? ⟨Bw, 1, none⟩ = some (.pointer (some ⟨g1, 0, none⟩)) := H4.out.box 0 rfl 1
  go_wp2
  rw [rounds_succ]
  have HCL : Hid (∀ n, Calls Try.prog 9 #[] (V4.drewN n) fun e w' => ∃ u, e = .returned u ∧ (∃ g2 Kg2, u = .pointer (some ⟨g2, 0, none⟩) ∧ Herd w w' [(Kw, tb Bw (.cells #[.pointer (some ⟨g0, 0, none⟩), .pointer (some ⟨g1, 0, none⟩), .pointer none, .pointer (some ⟨x0, 0, none⟩), .pointer (some ⟨x1, 0, none⟩), .pointer none] 85 (0, 0))), (Kg0, tw g0 []), (Kx0, tx x0 []), (Kg1, tw g1 []), (Kx1, tx x1 []), (Kg2, tw g2 [])])) := fun n => by
    refine (hnewW (H4.out.drewN n)).mono ?_
    rintro e w2 ⟨gn, Kn, rfl, hH⟩
    exact ⟨_, rfl, gn, Kn, rfl, hH⟩
  go_wp2
  go_region_law (refine step_call0 rfl 9 rfl Try.call9 (HCL.out 1) ?_; rintro v w5 ⟨g2, Kg2, rfl, hH⟩; have HP5 := hide hH; clear hH; have z0 : w5.cell? ⟨Bw, 2, none⟩ = some (.pointer none) := HP5.out.box 0 rfl 2; have zf : w5.frozen? ⟨Bw, 2, none⟩ = false := HP5.out.frozen 0 rfl 2)
  have hH := HP5.out.setb 0 rfl 2 (.pointer (some ⟨g2, 0, none⟩))
  obtain ⟨V5, HV5⟩ : ∃ V', Hid (V' = w5.setCell ⟨Bw, 2, none⟩ (.pointer (some ⟨g2, 0, none⟩))) := ⟨_, rfl⟩
  rw [← HV5.out] at hH ⊢
  have H5 : Hid (Herd w V5 [(Kw, tb Bw (.cells #[.pointer (some ⟨g0, 0, none⟩), .pointer (some ⟨g1, 0, none⟩), .pointer (some ⟨g2, 0, none⟩), .pointer (some ⟨x0, 0, none⟩), .pointer (some ⟨x1, 0, none⟩), .pointer none] 85 (0, 0))), (Kg0, tw g0 []), (Kx0, tx x0 []), (Kg1, tw g1 []), (Kx1, tx x1 []), (Kg2, tw g2 [])]) := hH
  clear hH HCL z0 zf HP5
  have HCL : Hid (∀ n, Calls Try.prog 58 #[] (V5.drewN n) fun e w' => ∃ u, e = .returned u ∧ (∃ x2 Kx2, u = .pointer (some ⟨x2, 0, none⟩) ∧ Herd w w' [(Kw, tb Bw (.cells #[.pointer (some ⟨g0, 0, none⟩), .pointer (some ⟨g1, 0, none⟩), .pointer (some ⟨g2, 0, none⟩), .pointer (some ⟨x0, 0, none⟩), .pointer (some ⟨x1, 0, none⟩), .pointer none] 85 (0, 0))), (Kg0, tw g0 []), (Kx0, tx x0 []), (Kg1, tw g1 []), (Kx1, tx x1 []), (Kg2, tw g2 []), (Kx2, tx x2 [])])) := fun n => by
    refine (hxnew (H5.out.drewN n)).mono ?_
    rintro e w2 ⟨gn, Kn, rfl, hH⟩
    exact ⟨_, rfl, gn, Kn, rfl, hH⟩
  go_wp2
  go_region_law (refine step_call0 rfl 58 rfl Try.call58 (HCL.out 1) ?_; rintro v w6 ⟨x2, Kx2, rfl, hH⟩; have HP6 := hide hH; clear hH; have z0 : w6.cell? ⟨Bw, 5, none⟩ = some (.pointer none) := HP6.out.box 0 rfl 5; have zf : w6.frozen? ⟨Bw, 5, none⟩ = false := HP6.out.frozen 0 rfl 5)
  have hH := HP6.out.setb 0 rfl 5 (.pointer (some ⟨x2, 0, none⟩))
  obtain ⟨V6, HV6⟩ : ∃ V', Hid (V' = w6.setCell ⟨Bw, 5, none⟩ (.pointer (some ⟨x2, 0, none⟩))) := ⟨_, rfl⟩
  rw [← HV6.out] at hH ⊢
  have H6 : Hid (Herd w V6 [(Kw, tb Bw (.cells #[.pointer (some ⟨g0, 0, none⟩), .pointer (some ⟨g1, 0, none⟩), .pointer (some ⟨g2, 0, none⟩), .pointer (some ⟨x0, 0, none⟩), .pointer (some ⟨x1, 0, none⟩), .pointer (some ⟨x2, 0, none⟩)] 85 (0, 0))), (Kg0, tw g0 []), (Kx0, tx x0 []), (Kg1, tw g1 []), (Kx1, tx x1 []), (Kg2, tw g2 []), (Kx2, tx x2 [])]) := hH
  clear hH HCL z0 zf HP6
  have yy : V6.cell? ⟨Bw, 2, none⟩ = some (.pointer (some ⟨g2, 0, none⟩)) := H6.out.box 0 rfl 2
  go_wp2
  have HN : Hid (W3 w V6 Bw) := ⟨Kw, three Kg0 Kg1 Kg2, three Kx0 Kx1 Kx2, three g0 g1 g2, three x0 x1 x2, fun _ => [], Herd.order H6.out⟩
  rw [rounds_succ]
  go_wp2
  go_ret2
  exact ⟨Bw, rfl, HN.out⟩
end Go.Proofs.Ytklffkbcigehfab
