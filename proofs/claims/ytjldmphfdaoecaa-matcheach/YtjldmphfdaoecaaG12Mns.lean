import Derived.Test.YtjldmphfdaoecaaG02Brb
import Derived.Test.YtjldmphfdaoecaaG00Tnm
import Derived.Test.YtjldmphfdaoecaaG11Tto
import Derived.Test.YtjldmphfdaoecaaG05Bcd
namespace Go.Proofs.Ytjldmphfdaoecaa
open Go.RowKit Go.Maps
set_option maxRecDepth 20000
set_option linter.unusedVariables false

def tE (D : List Int) (x y : Int) : Int := if (D.length : Int) ≤ 16777216 ∧ Dmn x y then 0 else 1
def tL (D : List Int) (x y : Int) (z : Bool) : List Tk := if tE D x y = 0 then tkl D x.toNat y.toNat z else []

theorem tE_bad {D : List Int} {x y : Int} {z : Bool} (h : ¬ ((D.length : Int) ≤ 16777216 ∧ Dmn x y)) : tE D x y = 1 ∧ tL D x y z = [] := by
  have : tE D x y = 1 := by unfold tE; rw [if_neg h]
  exact ⟨this, by unfold tL; rw [this]; rfl⟩
theorem tE_ok {D : List Int} {x y : Int} {z : Bool} (h : (D.length : Int) ≤ 16777216 ∧ Dmn x y) : tE D x y = 0 ∧ tL D x y z = tkl D x.toNat y.toNat z := by
  have : tE D x y = 0 := by unfold tE; rw [if_pos h]
  exact ⟨this, by unfold tL; rw [this]; rfl⟩

end Go.Proofs.Ytjldmphfdaoecaa

namespace Go.Proofs.Ytjldmphfdaoecaa
open Go.RowKit Go.Maps Go.Shelf
attribute [local go_sem] Oper.semAt_some
set_option maxRecDepth 20000
set_option linter.unusedVariables false

set_option maxHeartbeats 4000000 in
theorem tokens_yes (v : Value) (D : List Int) (W C : Nat) (z : Bool) (w : World) (h : SB w v D) (hB : Byt D) (hn : D.length ≤ 16777216) (hW : 1 ≤ W) (hW2 : W ≤ 32768) (hC : C ≤ 4096) :
    Calls Try.prog 6 #[v, .agg #[.int .i64 (W : Int), .int .i64 (C : Int), .bool z]] w fun e w' => ∃ u, e = .returned (.tuple #[u, .int .i64 0]) ∧ OK w' w.heap.size u (tkl D W C z) ∧ Below w.heap.size w w' := by
  have HM : Hid (mbb D.length (W : Int) (C : Int) = true) := decide_eq_true ⟨by omega, by omega, by omega, by omega, by omega⟩
  have HBY := hide hB
  have HB1 : Hid (Below w.heap.size w (w.alloc (.cells #[.int .i64 (W : Int), .int .i64 (C : Int), .bool z] 24))) := (Below.refl _ _).alloc (Nat.le_refl _) _
  have HS := hide (h.below HB1.out)
  obtain ⟨w1, hw1⟩ : ∃ w1, w.alloc (.cells #[.int .i64 (W : Int), .int .i64 (C : Int), .bool z] 24) = w1 := ⟨_, rfl⟩
  have hs1 : w1.heap.size = w.heap.size + 1 := by rw [← hw1]; simp
  have HE1 : Hid (w1.heap[w.heap.size]? = some (.cells #[.int .i64 (W : Int), .int .i64 (C : Int), .bool z] 24 (0, 0))) := by show _ = _; rw [← hw1]; exact heap_alloc_new w _
  rw [hw1] at HB1 HS
  have d0 : w1.cell? ⟨w.heap.size, 0, none⟩ = some (.int .i64 (W : Int)) := cellIn HE1.out rfl
  have d1 : w1.cell? ⟨w.heap.size, 1, none⟩ = some (.int .i64 (C : Int)) := cellIn HE1.out rfl
  have d2 : w1.cell? ⟨w.heap.size, 2, none⟩ = some (.bool z) := cellIn HE1.out rfl
  obtain ⟨ao, cap, rfl, hlc, hcm⟩ := h.open
  have HMB := hide (mayBe_any D ao cap (W : Int) (C : Int) z w1)
  rw [HM.out] at HMB
  clear h hB
  refine (callsIn_wide (n := 3)).1 ?_
  refine callsIn_of_wp_marks Try.func6 rfl trivial ?_ rfl
  simp only [Try.ntmps6, List.size_toArray, List.length_cons, List.length_nil, Nat.reduceAdd, Nat.reduceSub, Array.replicate_succ, Array.replicate_zero, List.push_toArray, List.append_toArray, List.nil_append, List.cons_append]
  gi_wp2_with fail
  refine ⟨trivial, (callsIn_wide.2 HMB.out).mono ?_⟩
  rintro e w2 ⟨rfl, b2⟩
  obtain ⟨n0, hn0⟩ : ∃ n, w.heap.size = n := ⟨_, rfl⟩
  have hs2 := b2.size
  have HB2 : Hid (Below w.heap.size w w2) := HB1.out.trans (b2.mono (by omega))
  have HE2 : Hid (w2.heap[w.heap.size]? = some (.cells #[.int .i64 (W : Int), .int .i64 (C : Int), .bool z] 24 (0, 0))) := (b2.block _ (by omega)).trans HE1.out
  have HS2 := hide (HS.out.below b2)
  clear b2 HMB HE1 HS hw1 HB1 d0 d1 d2
  obtain ⟨w3, hw3⟩ : ∃ w3, w2.alloc (.cells #[.slice none 0 0] 29) = w3 := ⟨_, rfl⟩
  have b3 : Below w2.heap.size w2 w3 := by rw [← hw3]; exact (Below.refl _ _).alloc (Nat.le_refl _) _
  have hs3 : w3.heap.size = w2.heap.size + 1 := by rw [← hw3]; simp
  obtain ⟨gT, hgT⟩ : ∃ g, w2.heap.size = g := ⟨_, rfl⟩
  have HV3 : Hid (w3.heap[gT]? = some (.cells #[.slice none 0 0] 29 (0, 0))) := by show _ = _; rw [← hw3, ← hgT]; exact heap_alloc_new w2 _
  have HE3 := hide ((b3.block w.heap.size (by omega)).trans HE2.out)
  have d0 : w3.cell? ⟨w.heap.size, 0, none⟩ = some (.int .i64 (W : Int)) := cellIn HE3.out rfl
  have d1 : w3.cell? ⟨w.heap.size, 1, none⟩ = some (.int .i64 (C : Int)) := cellIn HE3.out rfl
  have d2 : w3.cell? ⟨w.heap.size, 2, none⟩ = some (.bool z) := cellIn HE3.out rfl
  have HB3 : Hid (Below w.heap.size w w3) := HB2.out.trans (b3.mono (by omega))
  have HEA := hide (each_yes _ D (W : Int) (C : Int) z w3 (HS2.out.below b3) hn HM.out)
  rw [hn0] at d0 d1 d2
  clear b3 HE2 HS2 HB2
  gi_wp2_with fail
  refine ⟨trivial, (callsIn_wide.2 HEA.out).mono ?_⟩
  rintro e w4 ⟨u, rfl, ho4, hd4, he4, b4⟩
  have hs4 : w3.heap.size + 2 ≤ w4.heap.size := by have := (Array.getElem?_eq_some_iff.1 he4).1; omega
  have HO4 := hide ho4
  have HD4 := hide hd4
  have HE4 := hide he4
  have HV4 : Hid (w4.heap[gT]? = some (.cells #[.slice none 0 0] 29 (0, 0))) := (b4.block _ (by omega)).trans HV3.out
  have HB4 : Hid (Below w.heap.size w w4) := HB3.out.trans (b4.mono (by omega))
  have hgd : gT < w4.heap.size := by omega
  have hub : ∀ b, u.ownBlock = some b → b < w4.heap.size ∧ b ≠ gT := fun b e => by have := ho4.lt b e; omega
  have HUB := hide hub
  obtain ⟨dB, hdB⟩ : ∃ g, w3.heap.size = g := ⟨_, rfl⟩
  have q3 : gT < dB ∧ dB + 1 < w4.heap.size := by omega
  rw [hdB] at HD4 HE4 ⊢
  have HLE : Hid (w.heap.size ≤ gT) := by show _ ≤ _; omega
  clear ho4 hd4 he4 b4 HEA hub d0 d1 d2 hw3 hs1 hs2 hs3 HV3 HE3 HB3 hs4
  have HLN : Hid ((tkl D W C z).length ≤ 16777216) := by
    have := tks_len (D := D) (W := W) (C := C) (z := z) D.length 0 (Nat.zero_le _)
    show (tks D W C z D.length 0).length ≤ _
    omega
  obtain ⟨R, hR⟩ : ∃ R, tkl D W C z = R := ⟨_, rfl⟩
  gi_wp2_with fail
  refine wp_each dB (dB + 1) W C u D z rfl rfl HBY.out hn hW hW2 (by omega) HO4.out.sb (fun k e => (HUB.out k e).1) (cellIn HD4.out rfl) (cellIn HE4.out rfl) (cellIn HE4.out rfl) (cellIn HE4.out rfl)
    (TkJ (tkl D W C z) w4 w4.heap.size gT) (fun _ _ _ => False) (TkJ.recs hgd) (fun k S o V h e => by have := h.sge _ e; omega) (fun c => ⟨fun o V h => h.elim, fun o o' V h => h.elim⟩)
    (fun S o V h => ⟨h.blk dB (by omega) (by omega), h.blk (dB + 1) (by omega) (by omega), by have := h.size; omega⟩) (TkJ.bears hgd) (TkJ.start HV4.out) ?act ?assign ?body ?done ?stop
  case assign =>
    intro x V c K hc hK
    gi_wp2
    exact hK
  case body =>
    intro k S o V c hk hT hS hU hc hcl hcS
    rw [hR] at hk hT hc ⊢
    obtain ⟨⟨t1, t2, t3⟩, ht⟩ : ∃ t, R.getD k tk0 = t := ⟨_, rfl⟩
    rw [ht] at hc ⊢
    obtain ⟨tv, e1, e2, e3⟩ := hT.var
    have HTT := hide hT
    obtain ⟨P, HP⟩ : ∃ P, Hid (P = R.take k) := ⟨_, hide rfl⟩
    rw [← HP.out] at e2
    have HV := hide (And.intro e1 (And.intro e2 e3))
    have hV1 : V.cell? ⟨gT, 0, none⟩ = some tv := cellIn e1 rfl
    have hV2 : V.frozen? ⟨gT, 0, none⟩ = false := frozenIn e1
    obtain ⟨c0, c1, c2, _, _, _⟩ := tkc_cells hc
    have b0 : V.cell? ⟨c, 0, none⟩ = some (.int .i64 t1) := c0
    have b1 : V.cell? ⟨c, 1, none⟩ = some (.int .i64 t2) := c1
    have b2 : V.cell? ⟨c, 2, none⟩ = some (.int .u8 t3) := c2
    have HSS := hide hS
    obtain ⟨ta, tc, htv, _⟩ := e2.shape
    subst htv
    have hsz := hT.size
    have HTL : Hid (P.length ≤ 5864062014800) := by show _ ≤ _; rw [HP.out, List.length_take]; have := HLN.out; rw [hR] at this; omega
    clear c0 c1 c2 hT e1 e2 e3 hS hU
    gi_wp2_with (gi_at_builtin; refine wpTokIn rfl _ _ rfl (w4.heap.size + 2) (.slice ta P.length tc) P t1 t2 t3 rfl HV.out.2.1 _ rfl HTL.out hsz ?_)
    intro v9 w9 ho9 hg9 hat9
    have HP9 : Hid (P ++ [(t1, t2, t3)] = R.take (k + 1)) := by show _ = _; rw [tk_snoc hk, ht, HP.out]
    rw [HP9.out] at ho9
    have hb9 : Below V.heap.size V (V.alloc (.cells #[.int .i64 t1, .int .i64 t2, .int .u8 t3] 38)) := (Below.refl _ _).alloc (Nat.le_refl _) _
    have hNX := HTT.out.next hgd HSS.out HV.out.1 (by rw [← HP.out]; exact HV.out.2.1) HV.out.2.2 hb9 hg9 ho9 (hat9.imp id fun e => ⟨_, e, by omega⟩)
    have HNX := hide hNX
    have l1 := hg9.size
    have f9 : w9.heap[gT]? = V.heap[gT]? := (hg9.block gT (by simp; omega) (fun e => by have := (HV.out.2.1.lt gT e.symm).1; omega)).trans (hb9.block gT (by omega))
    have hW1 : w9.cell? ⟨gT, 0, none⟩ = some (.slice ta P.length tc) := (World.cell?_of_block f9).trans hV1
    have hW2' : w9.frozen? ⟨gT, 0, none⟩ = false := frozenIn (f9.trans HV.out.1)
    obtain ⟨P9, HPP⟩ : ∃ P9, Hid (P9 = R.take (k + 1)) := ⟨_, hide rfl⟩
    rw [← HPP.out] at ho9
    obtain ⟨a9, c9, hv9, _⟩ := ho9.shape
    subst hv9
    clear hNX hg9 ho9 hat9 hb9 l1 f9 b0 b1 b2 hV1 hV2
    gi_wp2
    exact ⟨HNX.out.1, fun b e => HNX.out.2.1 b (e.imp id fun e => HUB.out b e), HNX.out.2.2⟩
  case done =>
    intro S o V hT
    rw [hR] at hT
    obtain ⟨tv, e1, e2, e3⟩ := hT.var
    rw [List.take_of_length_le (Nat.le_refl _)] at e2
    have hV1 : V.cell? ⟨gT, 0, none⟩ = some tv := cellIn e1 rfl
    have HTT := hide hT
    have HE2 := hide e2
    obtain ⟨ta, tc, htv, _⟩ := e2.shape
    subst htv
    clear e1 e2 e3 hT
    gi_wp2
    refine ⟨by simp, .inl ⟨_, _, rfl, run_takeDeferred HTT.out.dfr, ?_⟩⟩
    have hsz := HTT.out.size
    refine ⟨_, results_tmp2 rfl _ _ _, _, rfl, ?_, ?_⟩
    · rw [hR]
      have hm : OK (V.putObj w4.heap.size (.deferred none)) (w4.heap.size + 2) (.slice ta R.length tc) R := tokown_move HE2.out fun b hb => putObj_ne _ _ (by have := (HE2.out.lt b hb).1; omega)
      exact hm.base (by have := HLE.out; omega)
    · have hle := HLE.out
      refine ⟨HTT.out.os.trans HB4.out.os, HTT.out.tape.trans HB4.out.tape, HTT.out.output.trans HB4.out.output, by rw [putObj_size]; omega, fun b hb => ?_⟩
      rw [putObj_ne _ _ (by omega), HTT.out.blk b (by omega) (by omega)]
      exact HB4.out.block b hb
  case stop => exact fun c o V h => h.elim

theorem tokens_no (v : Value) (D : List Int) (x y : Int) (z : Bool) (w : World) (h : SB w v D) (hm : mbb D.length x y = false) :
    Calls Try.prog 6 #[v, .agg #[.int .i64 x, .int .i64 y, .bool z]] w fun e w' => e = .returned (.tuple #[.slice none 0 0, .int .i64 1]) ∧ Below w.heap.size w w' := by
  have HB1 : Hid (Below w.heap.size w (w.alloc (.cells #[.int .i64 x, .int .i64 y, .bool z] 24))) := (Below.refl _ _).alloc (Nat.le_refl _) _
  obtain ⟨w1, hw1⟩ : ∃ w1, w.alloc (.cells #[.int .i64 x, .int .i64 y, .bool z] 24) = w1 := ⟨_, rfl⟩
  have hs1 : w1.heap.size = w.heap.size + 1 := by rw [← hw1]; simp
  have HE1 : w1.heap[w.heap.size]? = some (.cells #[.int .i64 x, .int .i64 y, .bool z] 24 (0, 0)) := by rw [← hw1]; exact heap_alloc_new w _
  rw [hw1] at HB1
  have d0 : w1.cell? ⟨w.heap.size, 0, none⟩ = some (.int .i64 x) := cellIn HE1 rfl
  have d1 : w1.cell? ⟨w.heap.size, 1, none⟩ = some (.int .i64 y) := cellIn HE1 rfl
  have d2 : w1.cell? ⟨w.heap.size, 2, none⟩ = some (.bool z) := cellIn HE1 rfl
  obtain ⟨ao, cap, rfl, hlc, hcm⟩ := h.open
  have HMB := hide (mayBe_any D ao cap x y z w1)
  rw [hm] at HMB
  clear h HE1
  go_enter Try.func6, Try.ntmps6
  go_wp2_with fail
  refine HMB.out.mono ?_
  rintro e w2 ⟨rfl, b2⟩
  have HB2 : Hid (Below w.heap.size w w2) := HB1.out.trans (b2.mono (by omega))
  clear b2 HMB hw1
  go_wp2
  refine bodyPost_ret (results_tmp2 rfl _ _ _) rfl ?_
  exact ⟨rfl, HB2.out⟩

theorem tokens_any (v : Value) (D : List Int) (x y : Int) (z : Bool) (w : World) (h : SB w v D) (hB : Byt D) :
    Calls Try.prog 6 #[v, .agg #[.int .i64 x, .int .i64 y, .bool z]] w fun e w' => ∃ u, e = .returned (.tuple #[u, .int .i64 (tE D x y)]) ∧ OK w' w.heap.size u (tL D x y z) ∧ Below w.heap.size w w' := by
  by_cases h1 : (D.length : Int) ≤ 16777216 ∧ Dmn x y
  · obtain ⟨e1, e2⟩ := tE_ok (z := z) h1
    rw [e1, e2]
    obtain ⟨h2, h3⟩ := h1
    unfold Dmn at h3
    obtain ⟨W, rfl⟩ := Int.eq_ofNat_of_zero_le (show 0 ≤ x by omega)
    obtain ⟨C, rfl⟩ := Int.eq_ofNat_of_zero_le (show 0 ≤ y by omega)
    exact tokens_yes v D W C z w h hB (by omega) (by omega) (by omega) (by omega)
  · obtain ⟨e1, e2⟩ := tE_bad (z := z) h1
    rw [e1, e2]
    exact (tokens_no v D x y z w h (decide_eq_false h1)).mono fun e w' ⟨q1, q2⟩ => ⟨_, q1, OK.nil _ _, q2⟩
end Go.Proofs.Ytjldmphfdaoecaa

namespace Go.Proofs.Ytjldmphfdaoecaa
open Go.RowKit Go.Maps
set_option maxRecDepth 20000
set_option linter.unusedVariables false
set_option linter.unusedSimpArgs false

theorem list3 {α : Type} {l : List α} (h : l.length = 3) : ∃ a b c, l = [a, b, c] := by
  match l, h with
  | [a, b, c], _ => exact ⟨a, b, c, rfl⟩

theorem tok_st : Try.prog.underlying 38 = some (.struct (Try.prog.fieldsOf 38)) := by kernel_rfl
theorem tok_held : Try.prog.stoodInHeld 38 = false := by kernel_rfl
theorem tok_guard : Try.prog.eqGuardType Try.prog.depth 38 = false := by kernel_rfl
theorem tok_fields : (Try.prog.fieldsOf 38).toList.map (fun f => (decide (f.name ≠ "_"), f.type, f.offset)) = [(true, 3, 0), (true, 3, 1), (true, 5, 2)] := by kernel_rfl

theorem tk_eq (w : World) (a b c d e f : Int) : (Op.equalIn 10000 38 (.agg #[.int .i64 a, .int .i64 b, .int .u8 c]) (.agg #[.int .i64 d, .int .i64 e, .int .u8 f])).run Try.prog w = .ok (a == d && (b == e && c == f)) w := by
  rw [run_equalIn_struct w 9999 38 _ _ tok_st tok_held]
  have hf := tok_fields
  obtain ⟨f1, f2, f3, hfg⟩ := list3 (l := (Try.prog.fieldsOf 38).toList) (by have := congrArg List.length hf; simpa using this)
  rw [hfg] at hf ⊢
  · simp only [List.map_cons, List.map_nil, List.cons.injEq, Prod.mk.injEq, decide_eq_true_eq, and_true] at hf
    obtain ⟨⟨n1, t1, o1⟩, ⟨n2, t2, o2⟩, n3, t3, o3⟩ := hf
    simp only [Op.eqFields, if_pos n1, if_pos n2, if_pos n3, t1, t2, t3, o1, o2, o3]
    have p1 : ∀ x y z : Int, (part 3 #[.int .i64 x, .int .i64 y, .int .u8 z] 0).run Try.prog w = .ok (.int .i64 x) w := fun x y z => by kernel_rfl
    have p2 : ∀ x y z : Int, (part 3 #[.int .i64 x, .int .i64 y, .int .u8 z] 1).run Try.prog w = .ok (.int .i64 y) w := fun x y z => by kernel_rfl
    have p3 : ∀ x y z : Int, (part 5 #[.int .i64 x, .int .i64 y, .int .u8 z] 2).run Try.prog w = .ok (.int .u8 z) w := fun x y z => by kernel_rfl
    have q : ∀ x y : Int, (Op.equalIn 9999 3 (.int .i64 x) (.int .i64 y)).run Try.prog w = .ok (x == y) w := fun x y => run_equalIn_int w 9998 3 .i64 .i64 x y Try.underlying3
    have q8 : ∀ x y : Int, (Op.equalIn 9999 5 (.int .u8 x) (.int .u8 y)).run Try.prog w = .ok (x == y) w := fun x y => run_equalIn_int w 9998 5 .u8 .u8 x y Try.underlying5
    simp only [Sem.run_bind, p1, p2, p3, q, q8, Result.andThen_ok]
    by_cases e1 : a = d
    · subst e1
      by_cases e2 : b = e
      · subst e2
        by_cases e3 : c = f
        · subst e3; simp [p1, p2, p3, q, q8]
        · simp [p1, p2, p3, q, q8, e3]
      · simp [p1, p2, p3, q, q8, e2]
    · simp [e1]

theorem tk_neq (w : World) (a b c d e f : Int) : (binOp .neq 38 (.agg #[.int .i64 a, .int .i64 b, .int .u8 c]) (.agg #[.int .i64 d, .int .i64 e, .int .u8 f])).run Try.prog w = .ok (.bool (!(a == d && (b == e && c == f)))) w := by
  rw [run_neq_struct, tk_eq]; rfl
theorem tk_eql (w : World) (a b c d e f : Int) : (binOp .eql 38 (.agg #[.int .i64 a, .int .i64 b, .int .u8 c]) (.agg #[.int .i64 d, .int .i64 e, .int .u8 f])).run Try.prog w = .ok (.bool (a == d && (b == e && c == f))) w := by
  rw [run_eql_struct, tk_eq]; rfl

def eqK (l1 l2 : List Tk) : Bool := decide (l1 = l2)
theorem eqK_self (l : List Tk) : eqK l l = true := by simp [eqK]
theorem eqB_self (l : List Int) : eqB l l = true := by simp [eqB]

theorem ktake_step {l1 l2 : List Tk} {k : Nat} (h1 : k < l1.length) (hl : l1.length = l2.length) (ht : l1.take k = l2.take k) :
    (l1.getD k tk0 = l2.getD k tk0 → l1.take (k + 1) = l2.take (k + 1)) ∧ (l1.getD k tk0 ≠ l2.getD k tk0 → l1 ≠ l2) := by
  refine ⟨fun h => ?_, fun h e => h (by rw [e])⟩
  rw [tk_snoc h1, tk_snoc (by omega), ht, h]

theorem alike_any (v1 v2 : Value) (l1 l2 : List Tk) (w : World) (h1 : SK w v1 l1) (h2 : SK w v2 l2) :
    Calls Try.prog 12 #[v1, v2] w fun e w' => e = .returned (.bool (eqK l1 l2)) ∧ ∃ n, w' = w.drewN n := by
  have H1 := hide h1
  have H2 := hide h2
  obtain ⟨ao1, cap1, rfl, hlc1, hcm1⟩ := h1.open
  obtain ⟨ao2, cap2, rfl, hlc2, hcm2⟩ := h2.open
  clear h1 h2
  by_cases hne : l1.length = l2.length
  case neg =>
    have hd : ((l1.length : Int) == l2.length) = false := by simp; omega
    have hd' : ((l1.length : Int) != l2.length) = true := by simp; omega
    have HE : Hid (eqK l1 l2 = false) := by show _ = _; simp [eqK]; intro h; exact hne (by rw [h])
    clear hne
    go_enter Try.func12, Try.ntmps12
    go_wp2
    go_ret
    rw [HE.out]
    exact ⟨rfl, 0, rfl⟩
  case pos =>
    have hd' : ((l1.length : Int) != l2.length) = false := by simp; omega
    have HNE : Hid (l1.length = l2.length) := hne
    clear hne
    go_enter Try.func12, Try.ntmps12
    go_wp2
    go_loopw [5] (fun i wr => ∃ k n : Nat, k ≤ l1.length ∧ i = .int .i64 k ∧ wr = w.drewN n ∧ Hid (l1.take k = l2.take k)) (fun i _ => l1.length - (intOf i).toNat)
    case atStart => exact ⟨0, 0, Nat.zero_le _, rfl, rfl, rfl⟩
    case round =>
      obtain ⟨k, n, hk, rfl, hw, HT⟩ := hrel
      subst hw
      by_cases hlt : k < l1.length
      · have hlt' : (k : Int) < (l1.length : Int) := by omega
        have hlt2 : (k : Int) < (l2.length : Int) := by have := HNE.out; omega
        obtain ⟨b1, o1, rfl, c1, c2, c3⟩ := H1.out.get (w := w.drewN n) (below_drewN (Below.refl _ _) n) hlt
        obtain ⟨b2, o2, rfl, d1, d2, d3⟩ := H2.out.get (w := w.drewN n) (below_drewN (Below.refl _ _) n) (k := k) (by have := HNE.out; omega)
        have HK := hide (ktake_step (k := k) hlt HNE.out HT.out)
        obtain ⟨x, hx⟩ : ∃ x, x = l1.getD k tk0 := ⟨_, rfl⟩
        obtain ⟨y, hy⟩ : ∃ y, y = l2.getD k tk0 := ⟨_, rfl⟩
        rw [← hx] at c1 c2 c3 HK
        rw [← hy] at d1 d2 d3 HK
        clear hx hy
        obtain ⟨xa, xb, xc⟩ := x
        obtain ⟨ya, yb, yc⟩ := y
        simp only at c1 c2 c3 d1 d2 d3
        have c1w : w.cell? ⟨b1, o1 + k * 3, none⟩ = some (.int .i64 xa) := c1
        have c2w : w.cell? ⟨b1, o1 + k * 3 + 1, none⟩ = some (.int .i64 xb) := c2
        have c3w : w.cell? ⟨b1, o1 + k * 3 + 2, none⟩ = some (.int .u8 xc) := c3
        have d1w : w.cell? ⟨b2, o2 + k * 3, none⟩ = some (.int .i64 ya) := d1
        have d2w : w.cell? ⟨b2, o2 + k * 3 + 1, none⟩ = some (.int .i64 yb) := d2
        have d3w : w.cell? ⟨b2, o2 + k * 3 + 2, none⟩ = some (.int .u8 yc) := d3
        have hnq := fun W => tk_neq W xa xb xc ya yb yc
        have hgd := tok_guard
        by_cases hcc : xa = ya ∧ xb = yb ∧ xc = yc
        · have hb : (!(xa == ya && (xb == yb && xc == yc))) = false := by simp [hcc.1, hcc.2.1, hcc.2.2]
          have HK2 := hide (HK.out.1 (by rw [hcc.1, hcc.2.1, hcc.2.2]))
          rw [hb] at hnq
          clear hcc HK
          go_wp2
          go_quiet (fail)
          go_wp2
          go_roundw
          case rel => exact ⟨k + 1, _, by omega, by go_num, by (try simp only [World.drewN_drewN]); rfl, HK2⟩
          case measure => simp [intOf]; omega
        · have hb : (!(xa == ya && (xb == yb && xc == yc))) = true := by
            simp only [Bool.not_eq_true', Bool.and_eq_false_iff, beq_eq_false_iff_ne]
            by_cases q : xa = ya
            · by_cases q2 : xb = yb
              · exact .inr (.inr (fun e => hcc ⟨q, q2, e⟩))
              · exact .inr (.inl q2)
            · exact .inl q
          have HX : Hid (eqK l1 l2 = false) := by show _ = _; simp only [eqK, decide_eq_false_iff_not]; exact HK.out.2 (fun e => hcc (by simpa using e))
          rw [hb] at hnq
          clear hcc HK
          go_wp2
          go_quiet (fail)
          go_wp2
          go_ret
          rw [HX.out]
          exact ⟨rfl, _, by (try simp only [World.drewN_drewN]); rfl⟩
      · obtain rfl : k = l1.length := by omega
        have hlt' : ¬ (l1.length : Int) < (l1.length : Int) := by omega
        have HX : Hid (eqK l1 l2 = true) := by
          show _ = _
          have := HT.out
          rw [List.take_of_length_le (Nat.le_refl _), List.take_of_length_le (by rw [← HNE.out]; exact Nat.le_refl _)] at this
          simp [eqK, this]
        go_wp2
        go_ret
        rw [HX.out]
        exact ⟨rfl, n, rfl⟩

end Go.Proofs.Ytjldmphfdaoecaa

namespace Go.Proofs.Ytjldmphfdaoecaa
open Go.RowKit Go.Maps
set_option maxRecDepth 20000
set_option linter.unusedVariables false

theorem tmod_pos {k n : Int} (h : 0 ≤ k) : k.tmod n = k % n := Int.tmod_eq_emod_of_nonneg h

theorem tmod_neg {k n : Int} (hn : 0 < n) (h : k < 0) : (k.tmod n < 0 → k.tmod n + n = k % n) ∧ (¬ k.tmod n < 0 → k.tmod n = k % n) := by
  have h1 := Int.emod_nonneg k (show n ≠ 0 by omega)
  have h2 := Int.emod_lt_of_pos k hn
  have e : k.tmod n = -((-k) % n) := by
    have h5 := Int.tmod_eq_emod_of_nonneg (a := -k) (b := n) (by omega)
    have := Int.neg_tmod (-k) n
    rw [Int.neg_neg, h5] at this
    exact this
  have h3 := Int.emod_nonneg (-k) (show n ≠ 0 by omega)
  have h4 := Int.emod_lt_of_pos (-k) hn
  have d1 := Int.mul_ediv_add_emod k n
  have d2 := Int.mul_ediv_add_emod (-k) n
  have key : k % n = (if (-k) % n = 0 then 0 else n - (-k) % n) := by
    by_cases hz : (-k) % n = 0
    · rw [if_pos hz]
      have : k = n * (-((-k) / n)) := by rw [Int.mul_neg]; omega
      rw [this, Int.mul_emod_right]
    · rw [if_neg hz]
      have : k = (n - (-k) % n) + n * (-((-k) / n) - 1) := by rw [Int.mul_sub, Int.mul_neg]; omega
      conv => lhs; rw [this]
      rw [Int.add_mul_emod_self_left, Int.emod_eq_of_lt (by omega) (by omega)]
  rw [e, key]
  refine ⟨fun h => ?_, fun h => ?_⟩
  · rw [if_neg (by omega)]; omega
  · rw [if_pos (by omega)]; omega

theorem which_any (k n : Int) (hn : 0 < n) (hn1 : n ≤ 4611686018427387904) (w : World) : Calls Try.prog 11 #[.int .i64 k, .int .i64 n] w fun e w' => e = .returned (.int .i64 (k % n)) ∧ w' = w := by
  by_cases hk : 0 ≤ k
  · have h0 := tmod_pos (n := n) hk
    have h1 := Int.emod_nonneg k (show n ≠ 0 by omega)
    have h2 : k.tmod n = k % n ∧ ¬ (k % n < 0) := ⟨h0, by omega⟩
    obtain ⟨M, HM⟩ : ∃ M, Hid (M = k % n) := ⟨_, rfl⟩
    rw [← HM.out] at h0 h1 ⊢
    clear h2
    have hn0 : n ≠ 0 := by omega
    go_enter Try.func11, Try.ntmps11
    go_wp2
    go_ret
    exact ⟨rfl, rfl⟩
  · obtain ⟨h1, h2⟩ := tmod_neg (k := k) hn (by omega)
    obtain ⟨M, HM⟩ : ∃ M, Hid (M = k.tmod n) := ⟨_, rfl⟩
    have hM : k.tmod n = M := HM.out.symm
    rw [hM] at h1 h2
    have hn0 : n ≠ 0 := by omega
    have H1 := hide h1
    have H2 := hide h2
    have h3 := Int.emod_nonneg k hn0
    have h4 := Int.emod_lt_of_pos k hn
    by_cases h0 : M < 0
    · have HX : Hid (M + n = k % n) := h1 h0
      have hw : -4611686018427387904 ≤ M + n ∧ M + n ≤ 4611686018427387904 := by have := HX.out; omega
      clear h1 h2 h3 h4
      go_enter Try.func11, Try.ntmps11
      go_wp2
      go_ret
      rw [← HX.out]
      exact ⟨rfl, rfl⟩
    · have HX : Hid (M = k % n) := h2 h0
      clear h1 h2 h3 h4
      go_enter Try.func11, Try.ntmps11
      go_wp2
      go_ret
      rw [← HX.out]
      exact ⟨rfl, rfl⟩

theorem says_any (l d z : Int) (w : World) (h : Snd (l, d, z)) : Calls Try.prog 20 #[.agg #[.int .i64 l, .int .i64 d, .int .u8 z]] w fun e w' => e = .returned (.int .i64 (says (l, d, z) : Nat)) ∧ Below w.heap.size w w' := by
  have HB : Hid (Below w.heap.size w (w.alloc (.cells #[.int .i64 l, .int .i64 d, .int .u8 z] 38))) := (Below.refl _ _).alloc (Nat.le_refl _) _
  rcases snd_parts h with ⟨q1, q2⟩ | ⟨n, m, q, q1, q2, q3, q4⟩
  · simp only at q1 q2
    subst q1
    subst q2
    have hs : says (0, 0, z) = 1 := rfl
    rw [hs]
    go_enter Try.func20, Try.ntmps20
    go_wp2
    go_ret
    exact ⟨rfl, HB.out⟩
  · simp only [Prod.mk.injEq] at q
    obtain ⟨rfl, rfl, rfl⟩ := q
    have hs : says ((n : Int), (m : Int), 0) = n := by unfold says; simp only [Int.toNat_natCast]; omega
    rw [hs]
    clear hs h
    go_enter Try.func20, Try.ntmps20
    go_wp2
    go_ret
    exact ⟨rfl, HB.out⟩

set_option maxHeartbeats 4000000 in
theorem means_any (v u : Value) (R : List Tk) (D : List Int) (lim : Int) (w : World) (h : SK w v R) (hu : SB w u D) (hE : exE lim [] R = 0) (hD : D = exT [] R) (hl : D.length ≤ 1000000000) :
    Calls Try.prog 8 #[v, u] w fun e w' => e = .returned (.bool true) ∧ Below w.heap.size w w' := by
  have HS := hide h
  have HU := hide hu
  have HE := hide hE
  have HD := hide hD
  obtain ⟨ao, cap, rfl, hlc, hcm⟩ := h.open
  obtain ⟨bo, bap, rfl, hlb, hbm⟩ := hu.open
  clear h hu hE hD
  have HLN : Hid (∀ k, k ≤ R.length → (exT [] (R.take k)).length ≤ D.length) := fun k hk => by rw [HD.out]; exact (pre_take R k).len
  go_enter Try.func8, Try.ntmps8
  go_wp2
  go_loopw [5, 6] (fun t i wr => ∃ k at' : Nat, k ≤ R.length ∧ i = .int .i64 k ∧ t = .int .i64 at' ∧ Hid (at' = (exT [] (R.take k)).length) ∧ Hid (Below w.heap.size w wr)) (fun _ i _ => R.length - (intOf i).toNat)
  case atStart => exact ⟨0, 0, Nat.zero_le _, rfl, rfl, rfl, Below.refl _ _⟩
  case round =>
    obtain ⟨k, at', hk, rfl, rfl, HAT, HB⟩ := hrel
    by_cases hlt : k < R.length
    · have hlt' : (k : Int) < (R.length : Int) := by omega
      obtain ⟨b, o, rfl, c1, c2, c3⟩ := HS.out.get HB.out hlt
      obtain ⟨x1, x2⟩ := means_at HE.out hlt
      obtain ⟨hs, s2, s3⟩ := stE_zero x2
      have HNX : Hid ((exT [] (R.take (k + 1))).length = at' + says (R.getD k tk0)) := by show _ = _; rw [ext_at hlt, ptk_len hs, HAT.out]
      have hle1 := HLN.out (k + 1) (by omega)
      rw [HNX.out] at hle1
      have HML := hide (means_lit hlt)
      have HMC := hide (fun (l d : Nat) (q0 : (R.getD k tk0).1 = (l : Int)) (q2 : (R.getD k tk0).2.1 = (d : Int)) (q1 : 0 < l) (qd : 1 ≤ d) (qx : d ≤ (exT [] (R.take k)).length) (i : Nat) (qi : i < l) => means_copy hlt q0 q2 q1 qd qx qi)
      rw [← HD.out, ← HAT.out] at HML HMC
      rw [← HAT.out] at s2
      clear x1 x2 s3
      obtain ⟨r, hr⟩ : ∃ r, r = R.getD k tk0 := ⟨_, rfl⟩
      rw [← hr] at c1 c2 c3 hs s2 HML HMC HNX hle1
      clear hr
      obtain ⟨l, d, z⟩ := r
      simp only at c1 c2 c3 s2 HML HMC
      have HB2 : Hid (Below w.heap.size w (wr.alloc (.cells #[.int .i64 l, .int .i64 d, .int .u8 z] 38))) := HB.out.alloc (HB.out.size) _
      obtain ⟨wb, hwb⟩ : ∃ wb, wr.alloc (.cells #[.int .i64 l, .int .i64 d, .int .u8 z] 38) = wb := ⟨_, rfl⟩
      have e1 : wb.cell? ⟨wr.heap.size, 0, none⟩ = some (.int .i64 l) := by rw [← hwb]; unfold World.cell?; simp only [heap_alloc_new]; rfl
      have e2 : wb.cell? ⟨wr.heap.size, 1, none⟩ = some (.int .i64 d) := by rw [← hwb]; unfold World.cell?; simp only [heap_alloc_new]; rfl
      have e3 : wb.cell? ⟨wr.heap.size, 2, none⟩ = some (.int .u8 z) := by rw [← hwb]; unfold World.cell?; simp only [heap_alloc_new]; rfl
      have hbl : wr.heap.size < wb.heap.size := by rw [← hwb]; simp
      rw [hwb] at HB2
      have HSD := hide (lsound_any l d z wb)
      have HSB : Hid (sndb (l, d, z) = true) := decide_eq_true hs
      rw [HSB.out] at HSD
      have HE1 := hide e1
      have HE2 := hide e2
      have HE3 := hide e3
      go_wp2_with fail
      refine HSD.out.mono ?_
      rintro e w2 ⟨rfl, b2⟩
      have f1 : w2.cell? ⟨wr.heap.size, 0, none⟩ = some (.int .i64 l) := (b2.cell hbl).trans HE1.out
      have f2 : w2.cell? ⟨wr.heap.size, 1, none⟩ = some (.int .i64 d) := (b2.cell hbl).trans HE2.out
      have f3 : w2.cell? ⟨wr.heap.size, 2, none⟩ = some (.int .u8 z) := (b2.cell hbl).trans HE3.out
      have HB3 := hide (HB2.out.trans (b2.mono HB2.out.size))
      have hg3 : wr.heap.size < w2.heap.size := Nat.lt_of_lt_of_le hbl b2.size
      have HSY := hide (says_any l d z w2 hs)
      obtain ⟨S, HSS⟩ : ∃ S, Hid (S = says (l, d, z)) := ⟨_, rfl⟩
      rw [← HSS.out] at HSY hle1 HNX
      clear b2 hwb e1 e2 e3 c1 c2 c3 HSD hbl HB HB2 HE1 HE2 HE3
      obtain ⟨g3, hgg⟩ : ∃ g, g = wr.heap.size := ⟨_, rfl⟩
      rw [← hgg] at f1 f2 f3 hg3 ⊢
      clear hgg
      have HF1 := hide f1
      have HF2 := hide f2
      have HF3 := hide f3
      go_wp2_with fail
      refine HSY.out.mono ?_
      rintro e w3 ⟨rfl, b3⟩
      have f1' : w3.cell? ⟨g3, 0, none⟩ = some (.int .i64 l) := (b3.cell hg3).trans HF1.out
      have f2' : w3.cell? ⟨g3, 1, none⟩ = some (.int .i64 d) := (b3.cell hg3).trans HF2.out
      have f3' : w3.cell? ⟨g3, 2, none⟩ = some (.int .u8 z) := (b3.cell hg3).trans HF3.out
      have HB4 := hide (HB3.out.trans (b3.mono HB3.out.size))
      have hg4 : g3 < w3.heap.size := Nat.lt_of_lt_of_le hg3 b3.size
      clear b3 f1 f2 f3 hg3 HSY HF1 HF2 HF3 HB3
      have hS1 : 1 ≤ S := by rw [HSS.out]; unfold says; omega
      have hS2 : S ≤ 258 := by
        rw [HSS.out]
        rcases snd_parts hs with ⟨q1, q2⟩ | ⟨n, m, q, q1, q2, q3, q4⟩
        · simp only at q1; unfold says; rw [q1]; show max 1 (0 : Int).toNat ≤ 258; decide
        · simp only [Prod.mk.injEq] at q; unfold says; rw [q.1]; simp only [Int.toNat_natCast]; omega
      have hat : at' < D.length := by omega
      have hle2 : ¬ (D.length : Int) < (at' : Int) + (S : Int) := by omega
      obtain ⟨bb, bo', rfl, cb⟩ := HU.out.get HB4.out hat
      have hd' : ¬ (at' : Int) < d := by omega
      rcases snd_parts hs with ⟨q1, q2⟩ | ⟨n, m, q, q1, q2, q3, q4⟩
      · simp only at q1 q2
        subst q1
        subst q2
        rw [HML.out rfl] at cb
        have gz : (z != z) = false := by simp
        have HG := hide hg4
        have HC1 := hide f1'
        have HC2 := hide f2'
        have HC3 := hide f3'
        have HSY : Hid (∀ wx : World, Calls Try.prog 20 #[.agg #[.int .i64 0, .int .i64 0, .int .u8 z]] wx fun e w' => e = .returned (.int .i64 (S : Nat)) ∧ Below wx.heap.size wx w') := fun wx => by rw [HSS.out]; exact says_any 0 0 z wx hs
        clear HML HMC hs
        go_wp2
        go_quiet (fail)
        go_wp2
        refine wp_loop_rounds 1 ?_
        rw [rounds_succ]
        go_wp2_with fail
        refine (HSY.out _).mono ?_
        rintro e w5 ⟨rfl, b5⟩
        have HB5 := hide ((below_drewN HB4.out _).trans (b5.mono (by have := HB4.out.size; exact this)))
        clear b5
        go_wp2
        go_roundw
        case rel => exact ⟨k + 1, at' + S, by omega, by go_num, by go_num, HNX.out.symm, HB5.out⟩
        case measure => simp [intOf]; omega
      · simp only [Prod.mk.injEq] at q
        obtain ⟨rfl, rfl, rfl⟩ := q
        have HSY : Hid (∀ wx : World, Calls Try.prog 20 #[.agg #[.int .i64 (n : Int), .int .i64 (m : Int), .int .u8 0]] wx fun e w' => e = .returned (.int .i64 (S : Nat)) ∧ Below wx.heap.size wx w') := fun wx => by rw [HSS.out]; exact says_any (n : Int) (m : Int) 0 wx hs
        have hSn : S = n := by rw [HSS.out]; unfold says; simp only [Int.toNat_natCast]; omega
        have hma : m ≤ at' := by omega
        have HCP : Hid (∀ i, i < n → D.getD (at' + i) 0 = D.getD (at' + i - m) 0) := fun i hi => HMC.out n m rfl rfl (by omega) (by omega) (by omega) i hi
        have g0 : ((n : Int) == 0) = false := by simp; omega
        have HG := hide hg4
        have HC1 := hide f1'
        have HC2 := hide f2'
        have HC3 := hide f3'
        have hna : at' + n ≤ D.length := by omega
        clear HML HMC hs hSn
        go_wp2
        go_quiet (fail)
        go_wp2
        clear f1' f2' f3' cb
        go_loopw [8] (fun i wr => ∃ j q : Nat, j ≤ n ∧ i = .int .i64 j ∧ wr = w3.drewN q) (fun i _ => n - (intOf i).toNat)
        case atStart => exact ⟨0, _, Nat.zero_le _, rfl, rfl⟩
        case round =>
          obtain ⟨j, q, hj, rfl, hw⟩ := hrel
          subst hw
          have f1 : (w3.drewN q).cell? ⟨g3, 0, none⟩ = some (.int .i64 (n : Int)) := HC1.out
          have f2 : (w3.drewN q).cell? ⟨g3, 1, none⟩ = some (.int .i64 (m : Int)) := HC2.out
          have f1w : w3.cell? ⟨g3, 0, none⟩ = some (.int .i64 (n : Int)) := HC1.out
          have f2w : w3.cell? ⟨g3, 1, none⟩ = some (.int .i64 (m : Int)) := HC2.out
          by_cases hjn : j < n
          · have hjn' : (j : Int) < (n : Int) := by omega
            obtain ⟨b1, o1, e1, y1⟩ := HU.out.get HB4.out (k := at' + j) (by omega)
            obtain ⟨b2, o2, e2, y2⟩ := HU.out.get HB4.out (k := at' + j - m) (by omega)
            simp only [Option.some.injEq, Addr.mk.injEq, and_true] at e1 e2
            obtain ⟨rfl, rfl⟩ := e1
            obtain ⟨rfl, rfl⟩ := e2
            rw [← HCP.out j hjn] at y2
            obtain ⟨y, HY⟩ : ∃ y, Hid (y = D.getD (at' + j) 0) := ⟨_, rfl⟩
            rw [← HY.out] at y1 y2
            obtain ⟨p, hp⟩ : ∃ p, p = at' + j - m := ⟨_, rfl⟩
            rw [← hp] at y2
            have y1d : (w3.drewN q).cell? ⟨bb, bo' + (at' + j), none⟩ = some (.int .u8 y) := y1
            have y2d : (w3.drewN q).cell? ⟨bb, bo' + p, none⟩ = some (.int .u8 y) := y2
            have i1 : (at' : Int) + (j : Int) < (D.length : Int) := by omega
            have i2 : (at' : Int) + (j : Int) - (m : Int) < (D.length : Int) := by omega
            have i3 : (0 : Int) ≤ (at' : Int) + (j : Int) - (m : Int) := by omega
            have n1 : ((at' : Int) + (j : Int)).toNat = at' + j := by omega
            have n2 : ((at' : Int) + (j : Int) - (m : Int)).toNat = p := by omega
            have k1 : IntKind.i64.wrap ((at' : Int) + (j : Int)) = (at' : Int) + (j : Int) := by go_arith
            have k2 : IntKind.i64.wrap ((at' : Int) + (j : Int) - (m : Int)) = (at' : Int) + (j : Int) - (m : Int) := by go_arith
            have gy : (y != y) = false := by simp
            clear hp
            go_wp2
            go_quiet (fail)
            go_wp2
            go_roundw
            case rel => exact ⟨j + 1, _, by omega, by go_num, by (try simp only [World.drewN_drewN]); rfl⟩
            case measure => simp [intOf]; omega
          · obtain rfl : j = n := by omega
            have hjn' : ¬ (j : Int) < (j : Int) := by omega
            have f3 : (w3.drewN q).cell? ⟨g3, 2, none⟩ = some (.int .u8 0) := HC3.out
            go_wp2_with fail
            refine (HSY.out _).mono ?_
            rintro e w5 ⟨rfl, b5⟩
            have HB5 := hide ((below_drewN HB4.out _).trans (b5.mono (by have := HB4.out.size; exact this)))
            clear b5 f1 f2 f3 f1w f2w
            go_wp2
            go_roundw
            case rel => exact ⟨k + 1, at' + S, by omega, by go_num, by go_num, HNX.out.symm, HB5.out⟩
            case measure => simp [intOf]; omega
    · obtain rfl : k = R.length := by omega
      have hlt' : ¬ (R.length : Int) < (R.length : Int) := by omega
      have HF : Hid (at' = D.length) := by show _ = _; rw [HAT.out, HD.out, List.take_of_length_le (Nat.le_refl _)]
      obtain ⟨n, hn⟩ : ∃ n, n = D.length := ⟨_, rfl⟩
      have gq : ((at' : Int) == (D.length : Int)) = true := by have := HF.out; simp; omega
      go_wp2
      go_ret
      exact ⟨rfl, HB.out⟩
end Go.Proofs.Ytjldmphfdaoecaa

