import Derived.Test.YtjdgeonlbjokaaaGTto
import Derived.Test.YtjdgeonlbjokaaaGXtk
namespace Go.Proofs.Ytjdgeonlbjokaaa
open Go.RowKit Go.Maps Go.Shelf
attribute [local go_sem] Oper.semAt_some
set_option maxRecDepth 20000
set_option linter.unusedVariables false

set_option maxHeartbeats 4000000 in
theorem tokens_yes (v : Value) (D : List Int) (W C : Nat) (z : Bool) (w : World) (h : SB w v D) (hB : Byt D) (hn : D.length ≤ 16777216) (hW : 1 ≤ W) (hW2 : W ≤ 32768) (hC : C ≤ 4096) :
    Calls Try.prog 5 #[v, .agg #[.int .i64 (W : Int), .int .i64 (C : Int), .bool z]] w fun e w' => ∃ u, e = .returned (.tuple #[u, .int .i64 0]) ∧ OK w' w.heap.size u (tkl D W C z) ∧ Below w.heap.size w w' := by
  have HM : Hid (mbb D.length (W : Int) (C : Int) = true) := decide_eq_true ⟨by omega, by omega, by omega, by omega, by omega⟩
  have HBY := hide hB
  have HB1 : Hid (Below w.heap.size w (w.alloc (.cells #[.int .i64 (W : Int), .int .i64 (C : Int), .bool z] 24))) := (Below.refl _ _).alloc (Nat.le_refl _) _
  have HS := hide (h.below HB1.out)
  obtain ⟨w1, hw1⟩ : ∃ w1, w.alloc (.cells #[.int .i64 (W : Int), .int .i64 (C : Int), .bool z] 24) = w1 := ⟨_, rfl⟩
  have hs1 : w1.heap.size = w.heap.size + 1 := by rw [← hw1]; simp
  have HE1 : Hid (w1.heap[w.heap.size]? = some (.cells #[.int .i64 (W : Int), .int .i64 (C : Int), .bool z] 24 (0, 0))) := by show _ = _; rw [← hw1]; exact heap_alloc_new w _
  rw [hw1] at HB1 HS
  have d0 : w1.cell? ⟨w.heap.size, 0, none⟩ = some (.int .i64 (W : Int)) := cellIn HE1.out rfl
  have d1 : w1.cell? ⟨w.heap.size, 1, none⟩ = some (.int .i64 (C : Int)) := cellIn HE1.out rfl
  have d2 : w1.cell? ⟨w.heap.size, 2, none⟩ = some (.bool z) := cellIn HE1.out rfl
  obtain ⟨ao, cap, rfl, hlc, hcm⟩ := h.open
  have HMB := hide (mayBe_any D ao cap (W : Int) (C : Int) z w1)
  rw [HM.out] at HMB
  clear h hB
  refine (callsIn_wide (n := 3)).1 ?_
  refine callsIn_of_wp_marks Try.func5 rfl trivial ?_ rfl
  simp only [Try.ntmps5, List.size_toArray, List.length_cons, List.length_nil, Nat.reduceAdd, Nat.reduceSub, Array.replicate_succ, Array.replicate_zero, List.push_toArray, List.append_toArray, List.nil_append, List.cons_append]
  gi_wp2_with fail
  refine ⟨trivial, (callsIn_wide.2 HMB.out).mono ?_⟩
  rintro e w2 ⟨rfl, b2⟩
  obtain ⟨n0, hn0⟩ : ∃ n, w.heap.size = n := ⟨_, rfl⟩
  have hs2 := b2.size
  have HB2 : Hid (Below w.heap.size w w2) := HB1.out.trans (b2.mono (by omega))
  have HE2 : Hid (w2.heap[w.heap.size]? = some (.cells #[.int .i64 (W : Int), .int .i64 (C : Int), .bool z] 24 (0, 0))) := (b2.block _ (by omega)).trans HE1.out
  have HS2 := hide (HS.out.below b2)
  clear b2 HMB HE1 HS hw1 HB1 d0 d1 d2
  obtain ⟨w3, hw3⟩ : ∃ w3, w2.alloc (.cells #[.slice none 0 0] 26) = w3 := ⟨_, rfl⟩
  have b3 : Below w2.heap.size w2 w3 := by rw [← hw3]; exact (Below.refl _ _).alloc (Nat.le_refl _) _
  have hs3 : w3.heap.size = w2.heap.size + 1 := by rw [← hw3]; simp
  obtain ⟨gT, hgT⟩ : ∃ g, w2.heap.size = g := ⟨_, rfl⟩
  have HV3 : Hid (w3.heap[gT]? = some (.cells #[.slice none 0 0] 26 (0, 0))) := by show _ = _; rw [← hw3, ← hgT]; exact heap_alloc_new w2 _
  have HE3 := hide ((b3.block w.heap.size (by omega)).trans HE2.out)
  have d0 : w3.cell? ⟨w.heap.size, 0, none⟩ = some (.int .i64 (W : Int)) := cellIn HE3.out rfl
  have d1 : w3.cell? ⟨w.heap.size, 1, none⟩ = some (.int .i64 (C : Int)) := cellIn HE3.out rfl
  have d2 : w3.cell? ⟨w.heap.size, 2, none⟩ = some (.bool z) := cellIn HE3.out rfl
  have HB3 : Hid (Below w.heap.size w w3) := HB2.out.trans (b3.mono (by omega))
  have HEA := hide (each_yes _ D (W : Int) (C : Int) z w3 (HS2.out.below b3) hn HM.out)
  rw [hn0] at d0 d1 d2
  clear b3 HE2 HS2 HB2
  gi_wp2_with fail
  refine ⟨trivial, (callsIn_wide.2 HEA.out).mono ?_⟩
  rintro e w4 ⟨u, rfl, ho4, hd4, he4, b4⟩
  have hs4 : w3.heap.size + 2 ≤ w4.heap.size := by have := (Array.getElem?_eq_some_iff.1 he4).1; omega
  have HO4 := hide ho4
  have HD4 := hide hd4
  have HE4 := hide he4
  have HV4 : Hid (w4.heap[gT]? = some (.cells #[.slice none 0 0] 26 (0, 0))) := (b4.block _ (by omega)).trans HV3.out
  have HB4 : Hid (Below w.heap.size w w4) := HB3.out.trans (b4.mono (by omega))
  have hgd : gT < w4.heap.size := by omega
  have hub : ∀ b, u.ownBlock = some b → b < w4.heap.size ∧ b ≠ gT := fun b e => by have := ho4.lt b e; omega
  have HUB := hide hub
  obtain ⟨dB, hdB⟩ : ∃ g, w3.heap.size = g := ⟨_, rfl⟩
  have q3 : gT < dB ∧ dB + 1 < w4.heap.size := by omega
  rw [hdB] at HD4 HE4 ⊢
  have HLE : Hid (w.heap.size ≤ gT) := by show _ ≤ _; omega
  clear ho4 hd4 he4 b4 HEA hub d0 d1 d2 hw3 hs1 hs2 hs3 HV3 HE3 HB3 hs4
  have HLN : Hid ((tkl D W C z).length ≤ 16777216) := by
    have := tks_len (D := D) (W := W) (C := C) (z := z) D.length 0 (Nat.zero_le _)
    show (tks D W C z D.length 0).length ≤ _
    omega
  obtain ⟨R, hR⟩ : ∃ R, tkl D W C z = R := ⟨_, rfl⟩
  gi_wp2_with fail
  refine wp_each dB (dB + 1) W C u D z rfl rfl HBY.out hn hW hW2 (by omega) HO4.out.sb (fun k e => (HUB.out k e).1) (cellIn HD4.out rfl) (cellIn HE4.out rfl) (cellIn HE4.out rfl) (cellIn HE4.out rfl)
    (TkJ (tkl D W C z) w4 w4.heap.size gT) (fun _ _ _ => False) (TkJ.recs hgd) (fun k S o V h e => by have := h.sge _ e; omega) (fun c => ⟨fun o V h => h.elim, fun o o' V h => h.elim⟩)
    (fun S o V h => ⟨h.blk dB (by omega) (by omega), h.blk (dB + 1) (by omega) (by omega), by have := h.size; omega⟩) (TkJ.bears hgd) (TkJ.start HV4.out) ?act ?assign ?body ?done ?stop
  case assign =>
    intro x V c K hc hK
    gi_wp2
    exact hK
  case body =>
    intro k S o V c hk hT hS hU hc hcl hcS
    rw [hR] at hk hT hc ⊢
    obtain ⟨⟨t1, t2, t3⟩, ht⟩ : ∃ t, R.getD k tk0 = t := ⟨_, rfl⟩
    rw [ht] at hc ⊢
    obtain ⟨tv, e1, e2, e3⟩ := hT.var
    have HTT := hide hT
    obtain ⟨P, HP⟩ : ∃ P, Hid (P = R.take k) := ⟨_, hide rfl⟩
    rw [← HP.out] at e2
    have HV := hide (And.intro e1 (And.intro e2 e3))
    have hV1 : V.cell? ⟨gT, 0, none⟩ = some tv := cellIn e1 rfl
    have hV2 : V.frozen? ⟨gT, 0, none⟩ = false := frozenIn e1
    obtain ⟨c0, c1, c2, _, _, _⟩ := tkc_cells hc
    have b0 : V.cell? ⟨c, 0, none⟩ = some (.int .i64 t1) := c0
    have b1 : V.cell? ⟨c, 1, none⟩ = some (.int .i64 t2) := c1
    have b2 : V.cell? ⟨c, 2, none⟩ = some (.int .u8 t3) := c2
    have HSS := hide hS
    obtain ⟨ta, tc, htv, _⟩ := e2.shape
    subst htv
    have hsz := hT.size
    have HTL : Hid (P.length ≤ 5864062014800) := by show _ ≤ _; rw [HP.out, List.length_take]; have := HLN.out; rw [hR] at this; omega
    clear c0 c1 c2 hT e1 e2 e3 hS hU
    gi_wp2_with (gi_at_builtin; refine wpTokIn rfl _ _ rfl (w4.heap.size + 2) (.slice ta P.length tc) P t1 t2 t3 rfl HV.out.2.1 _ rfl HTL.out hsz ?_)
    intro v9 w9 ho9 hg9 hat9
    have HP9 : Hid (P ++ [(t1, t2, t3)] = R.take (k + 1)) := by show _ = _; rw [tk_snoc hk, ht, HP.out]
    rw [HP9.out] at ho9
    have hb9 : Below V.heap.size V (V.alloc (.cells #[.int .i64 t1, .int .i64 t2, .int .u8 t3] 38)) := (Below.refl _ _).alloc (Nat.le_refl _) _
    have hNX := HTT.out.next hgd HSS.out HV.out.1 (by rw [← HP.out]; exact HV.out.2.1) HV.out.2.2 hb9 hg9 ho9 (hat9.imp id fun e => ⟨_, e, by omega⟩)
    have HNX := hide hNX
    have l1 := hg9.size
    have f9 : w9.heap[gT]? = V.heap[gT]? := (hg9.block gT (by simp; omega) (fun e => by have := (HV.out.2.1.lt gT e.symm).1; omega)).trans (hb9.block gT (by omega))
    have hW1 : w9.cell? ⟨gT, 0, none⟩ = some (.slice ta P.length tc) := (World.cell?_of_block f9).trans hV1
    have hW2' : w9.frozen? ⟨gT, 0, none⟩ = false := frozenIn (f9.trans HV.out.1)
    obtain ⟨P9, HPP⟩ : ∃ P9, Hid (P9 = R.take (k + 1)) := ⟨_, hide rfl⟩
    rw [← HPP.out] at ho9
    obtain ⟨a9, c9, hv9, _⟩ := ho9.shape
    subst hv9
    clear hNX hg9 ho9 hat9 hb9 l1 f9 b0 b1 b2 hV1 hV2
    gi_wp2
    exact ⟨HNX.out.1, fun b e => HNX.out.2.1 b (e.imp id fun e => HUB.out b e), HNX.out.2.2⟩
  case done =>
    intro S o V hT
    rw [hR] at hT
    obtain ⟨tv, e1, e2, e3⟩ := hT.var
    rw [List.take_of_length_le (Nat.le_refl _)] at e2
    have hV1 : V.cell? ⟨gT, 0, none⟩ = some tv := cellIn e1 rfl
    have HTT := hide hT
    have HE2 := hide e2
    obtain ⟨ta, tc, htv, _⟩ := e2.shape
    subst htv
    clear e1 e2 e3 hT
    gi_wp2
    refine ⟨by simp, .inl ⟨_, _, rfl, run_takeDeferred HTT.out.dfr, ?_⟩⟩
    have hsz := HTT.out.size
    refine ⟨_, results_tmp2 rfl _ _ _, _, rfl, ?_, ?_⟩
    · rw [hR]
      have hm : OK (V.putObj w4.heap.size (.deferred none)) (w4.heap.size + 2) (.slice ta R.length tc) R := tokown_move HE2.out fun b hb => putObj_ne _ _ (by have := (HE2.out.lt b hb).1; omega)
      exact hm.base (by have := HLE.out; omega)
    · have hle := HLE.out
      refine ⟨HTT.out.os.trans HB4.out.os, HTT.out.tape.trans HB4.out.tape, HTT.out.output.trans HB4.out.output, by rw [putObj_size]; omega, fun b hb => ?_⟩
      rw [putObj_ne _ _ (by omega), HTT.out.blk b (by omega) (by omega)]
      exact HB4.out.block b hb
  case stop => exact fun c o V h => h.elim

theorem tokens_no (v : Value) (D : List Int) (x y : Int) (z : Bool) (w : World) (h : SB w v D) (hm : mbb D.length x y = false) :
    Calls Try.prog 5 #[v, .agg #[.int .i64 x, .int .i64 y, .bool z]] w fun e w' => e = .returned (.tuple #[.slice none 0 0, .int .i64 1]) ∧ Below w.heap.size w w' := by
  have HB1 : Hid (Below w.heap.size w (w.alloc (.cells #[.int .i64 x, .int .i64 y, .bool z] 24))) := (Below.refl _ _).alloc (Nat.le_refl _) _
  obtain ⟨w1, hw1⟩ : ∃ w1, w.alloc (.cells #[.int .i64 x, .int .i64 y, .bool z] 24) = w1 := ⟨_, rfl⟩
  have hs1 : w1.heap.size = w.heap.size + 1 := by rw [← hw1]; simp
  have HE1 : w1.heap[w.heap.size]? = some (.cells #[.int .i64 x, .int .i64 y, .bool z] 24 (0, 0)) := by rw [← hw1]; exact heap_alloc_new w _
  rw [hw1] at HB1
  have d0 : w1.cell? ⟨w.heap.size, 0, none⟩ = some (.int .i64 x) := cellIn HE1 rfl
  have d1 : w1.cell? ⟨w.heap.size, 1, none⟩ = some (.int .i64 y) := cellIn HE1 rfl
  have d2 : w1.cell? ⟨w.heap.size, 2, none⟩ = some (.bool z) := cellIn HE1 rfl
  obtain ⟨ao, cap, rfl, hlc, hcm⟩ := h.open
  have HMB := hide (mayBe_any D ao cap x y z w1)
  rw [hm] at HMB
  clear h HE1
  go_enter Try.func5, Try.ntmps5
  go_wp2_with fail
  refine HMB.out.mono ?_
  rintro e w2 ⟨rfl, b2⟩
  have HB2 : Hid (Below w.heap.size w w2) := HB1.out.trans (b2.mono (by omega))
  clear b2 HMB hw1
  go_wp2
  refine bodyPost_ret (results_tmp2 rfl _ _ _) rfl ?_
  exact ⟨rfl, HB2.out⟩

theorem mbb_tE {D : List Int} {x y : Int} : mbb D.length x y = true ↔ tE D x y = 0 := by
  unfold mbb tE
  by_cases h : (D.length : Int) ≤ 16777216 ∧ Dmn x y
  · rw [decide_eq_true h, if_pos h]; simp
  · rw [decide_eq_false h, if_neg h]; simp

/-- Tokens, whatever it is asked. -/
theorem tokens_any (v : Value) (D : List Int) (x y : Int) (z : Bool) (w : World) (h : SB w v D) (hB : Byt D) :
    Calls Try.prog 5 #[v, .agg #[.int .i64 x, .int .i64 y, .bool z]] w fun e w' => ∃ u, e = .returned (.tuple #[u, .int .i64 (tE D x y)]) ∧ OK w' w.heap.size u (tL D x y z) ∧ Below w.heap.size w w' := by
  by_cases h1 : (D.length : Int) ≤ 16777216 ∧ Dmn x y
  · obtain ⟨e1, e2⟩ := tE_ok (z := z) h1
    rw [e1, e2]
    obtain ⟨h2, h3⟩ := h1
    unfold Dmn at h3
    obtain ⟨W, rfl⟩ := Int.eq_ofNat_of_zero_le (show 0 ≤ x by omega)
    obtain ⟨C, rfl⟩ := Int.eq_ofNat_of_zero_le (show 0 ≤ y by omega)
    exact tokens_yes v D W C z w h hB (by omega) (by omega) (by omega) (by omega)
  · obtain ⟨e1, e2⟩ := tE_bad (z := z) h1
    rw [e1, e2]
    exact (tokens_no v D x y z w h (decide_eq_false h1)).mono fun e w' ⟨q1, q2⟩ => ⟨_, q1, OK.nil _ _, q2⟩
end Go.Proofs.Ytjdgeonlbjokaaa

