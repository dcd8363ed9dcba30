import Derived.Test.YtjdgeonlbjokaaaGTll
namespace Go.Proofs.Ytjdgeonlbjokaaa
open Go.RowKit Go.Maps Go.Shelf
attribute [local go_sem] Oper.semAt_some
set_option maxRecDepth 20000
set_option linter.unusedVariables false

/-- The caller's part bears what the iterator does. -/
def Bears (J : Nat → (Nat → Prop) → World → Prop) : Prop := ∀ k S S' w w', J k S w → Mv S w w' → (∀ b, S b → b < w.heap.size) → (∀ b, S b → S' b) → (∀ b, S' b → (S b ∨ w.heap.size ≤ b) ∧ b < w'.heap.size) → J k S' w'

/-- The caller's turn. -/
def Turns (R : List Tk) (l : Nat) (v : Value) (J : Nat → (Nat → Prop) → World → Prop) (Jx : World → Prop) : Prop :=
  ∀ k S w, k < R.length → J k S w → (∀ b, S b → b < w.heap.size) → (∀ b, v.ownBlock = some b → b < w.heap.size) → YieldAt Fence.wide 1 Try.prog l #[.agg (tkc (R.getD k tk0))] w fun e w' => (e = .returned (.bool true) ∧ J (k + 1) S w' ∧ (∀ b, S b ∨ v.ownBlock = some b → w'.heap[b]? = w.heap[b]?) ∧ w.heap.size ≤ w'.heap.size) ∨ (e = .returned (.bool false) ∧ Jx w')

theorem bst_small (D : List Int) (i W C : Nat) : (bst D i W C).1 ≤ 1000 := by
  rcases bst_facts (D := D) (i := i) (W := W) (C := C) with h | ⟨j, _, _, _, h4, h5, _⟩
  · rw [h]; simp
  · have h6 := rno_le D j i
    have h7 : (bst D i W C).1 = rno D j i := by rw [h5]
    omega

set_option maxHeartbeats 4000000 in
theorem tell_any (l base g m W C : Nat) (v : Value) (D : List Int) (z : Bool) (f0 : Int × Int × Int → Value) (hB : Byt D) (hn : D.length ≤ 16777216) (hW : 1 ≤ W) (hW2 : W ≤ 32768) (hC : C ≤ 1000000000)
    (J : Nat → (Nat → Prop) → World → Prop) (Jx : World → Prop) (hmv : Bears J) (hY : Turns (tkl D W C z) l v J Jx) (w : World) (S0 : Nat → Prop) (h : Tlx w base g m v D W C z f0 0) (hS : ∀ b, TelB g m v f0 b → S0 b ∨ v.ownBlock = some b) (hSb : ∀ b, S0 b → b < w.heap.size) (hj : J 0 S0 w) :
    Calls Try.prog 28 #[.pointer (some ⟨g, 0, none⟩), .func (.yield l) #[] #[]] w fun e w' => (∃ v, e = .returned v) ∧ ((∃ S', J (tkl D W C z).length S' w') ∨ Jx w') := by
  have HB := hide hB
  have HMV := hide hmv
  have HY := hide hY
  have hgs := h.lt.1
  have hbg := h.bg
  obtain ⟨w1, hw1⟩ : ∃ w1, w.alloc (.cells #[.int .i64 0, .int .i64 0, .int .u8 0] 38) = w1 := ⟨_, rfl⟩
  have hb1 : Below w.heap.size w w1 := by rw [← hw1]; exact (Below.refl _ _).alloc (Nat.le_refl _) _
  have hs1 : w1.heap.size = w.heap.size + 1 := by rw [← hw1]; simp
  have HT : Hid (Tst J w1 base g m v D W C z f0 0 w.heap.size (0, 0) (grw S0 w w1) 0 0) := by
    refine ⟨Tlr.far h hb1, Nat.le_refl _, by rw [← hw1]; exact heap_alloc_new w _, .inl rfl, Nat.le_refl _, Nat.zero_le _, Nat.zero_le _, rfl, fun b hb => (hS b hb).elim (fun e => .inl (.inl e)) .inr, .inr ⟨Nat.le_refl _, by omega⟩, ?_, fun e => ?_, by omega, hmv 0 S0 _ w w1 hj ⟨hb1.os, hb1.tape, hb1.output, hb1.size, fun b x _ => hb1.block b x⟩ hSb (fun b e => .inl e) (fun b e => ?_)⟩
    · rintro b (e | e)
      · have := hSb b e; omega
      · exact e.2
    · have := tel_lt h e (by omega); omega
    · rcases e with e | e
      · exact ⟨.inl e, by have := hSb b e; omega⟩
      · exact ⟨.inr e.1, e.2⟩
  obtain ⟨gA, hgA⟩ : ∃ gA, w.heap.size = gA := ⟨_, rfl⟩
  obtain ⟨ao, cap, rfl, hlc, hcm⟩ := h.dat.open
  clear h hS hSb hj hB hmv hY
  refine (callsIn_wide (n := 2)).1 ?_
  refine callsIn_of_wp Try.func28 rfl trivial ?_ rfl
  simp only [Try.ntmps28, List.size_toArray, List.length_cons, List.length_nil, Nat.reduceAdd, Nat.reduceSub, Array.replicate_succ, Array.replicate_zero, List.push_toArray, List.append_toArray, List.nil_append, List.cons_append]
  gi_wp2
  rw [hgA] at HT
  clear hw1 hb1 hs1 hgs hgA
  gi_loopw [5] (fun p wr => ∃ (k i nx : Nat) (s : Nat × Nat) (f : Int × Int × Int → Value) (S : Nat → Prop), p = .int .i64 (i : Int) ∧ i ≤ D.length ∧ Hid (Tst J wr base g m (.slice ao D.length cap) D W C z f nx gA s S k i)) (fun p _ => D.length - (intOf p).toNat)
  case atStart => exact ⟨0, 0, 0, (0, 0), f0, _, rfl, Nat.zero_le _, HT⟩
  case round =>
    obtain ⟨k, i, nx, s, f, S, rfl, hil, HX⟩ := hrel
    have c0 := HX.out.tl.box.cells.1
    by_cases hi : i < D.length
    · have hlt : (i : Int) < (D.length : Int) := by omega
      obtain ⟨s1, s2⟩ := s
      obtain ⟨hA, hbw⟩ := HX.out.lt
      have hbA := HX.out.bA
      obtain ⟨a0, a1, a2, a3, a4, a5⟩ := tkc_cells HX.out.ah
      have b0 : wr.cell? ⟨gA, 0, none⟩ = some (.int .i64 (s1 : Int)) := a0
      have b1 : wr.cell? ⟨gA, 1, none⟩ = some (.int .i64 (s2 : Int)) := a1
      have b2 : wr.cell? ⟨gA, 2, none⟩ = some (.int .u8 0) := a2
      have HM0 : Hid (Mid wr (wr.alloc (.cells #[.int .i64 (s1 : Int), .int .i64 (s2 : Int), .int .u8 0] 38)) base g m (.slice ao D.length cap) D W C z f f nx gA (tk2 (s1, s2)) (tk2 (s1, s2))) := HX.out.mid (tk2 (s1, s2))
      obtain ⟨b6, hb6⟩ : ∃ b6, wr.heap.size = b6 := ⟨_, rfl⟩
      have HB6 := hide hb6
      obtain ⟨BS, HBS⟩ : ∃ BS, Hid (BS = bst D i W C) := ⟨_, hide rfl⟩
      have HCR : Hid (s1 = 0 ∨ (s1, s2) = BS) := by
        rcases HX.out.cry with e | ⟨_, e⟩
        · exact .inl (congrArg Prod.fst e)
        · exact .inr (e.trans HBS.out.symm)
      have hB1 : BS.1 ≤ 1000 := by rw [HBS.out]; exact bst_small D i W C
      obtain ⟨B1, B2⟩ := BS
      have hB1' : B1 ≤ 1000 := hB1
      clear a0 a1 a2 hB1
      have HTK := hide (HX.out.tok hi)
      obtain ⟨O, HO⟩ : ∃ O, Hid (O = ofb D W C z i) := ⟨_, hide rfl⟩
      have HOF : Hid (pof D W C z i B1 = O) := by
        have := pof_ofb D W C z i
        rw [← HBS.out] at this
        exact this.trans HO.out.symm
      have HLT : Hid (Lit D W C z i ↔ (B1 = 0 ∨ 0 < O.1)) := by
        have := lit_ofb (D := D) (W := W) (C := C) (z := z) (i := i)
        rw [← HBS.out, ← HO.out] at this
        exact this
      obtain ⟨O1, O2⟩ := O
      have HLT : Hid (Lit D W C z i ↔ (B1 = 0 ∨ 0 < O1)) := HLT
      obtain ⟨dv, HDV⟩ : ∃ dv, Hid (D.getD i 0 = dv) := ⟨_, hide rfl⟩
      by_cases h0 : s1 = 0
      · skip
        have h0' : (s1 : Int) = 0 := by omega
        rw [h0'] at b0 HM0
        gi_wp2_with fail
        obtain ⟨w1, hw1⟩ : ∃ w1, wr.alloc (.cells #[.int .i64 0, .int .i64 (s2 : Int), .int .u8 0] 38) = w1 := ⟨_, rfl⟩
        rw [hw1] at HM0 ⊢
        clear hw1
        have HBE : Hid (Calls Try.prog 32 #[.pointer (some ⟨g, 0, none⟩), .int .i64 (i : Int), .int .i64 2] w1 fun e w' => e = .returned (.agg #[.int .i64 (B1 : Int), .int .i64 (B2 : Int), .int .u8 0]) ∧ ∃ f' nx', Tlx w' base g m (.slice ao D.length cap) D W C z f' nx' ∧ nx' ≤ i ∧ Below base w1 w' ∧ FT g m f f' w1 w') := by
          have := tbest_any w1 base g m W C nx i 2 _ D z f HM0.out.tl HB.out hn HX.out.nxi (by omega) hW hW2 hC (by omega) (by have := HM0.out.sz; omega)
          rw [bb_two, ← HBS.out] at this
          exact this
        refine ⟨trivial, (callsIn_wide.2 HBE.out).mono ?_⟩
        rintro e w2 ⟨rfl, f3, nx3, t2, hx3, r2, r3⟩
        have HM2 := hide (HM0.out.call hA t2 r2 r3)
        obtain ⟨p0, p1, p2, p3, p4, p5⟩ := tkc_cells HM2.out.tk
        have q0 : w2.cell? ⟨b6, 0, none⟩ = some (.int .i64 (s1 : Int)) := by rw [← hb6]; exact p0
        have q1 : w2.cell? ⟨b6, 1, none⟩ = some (.int .i64 (s2 : Int)) := by rw [← hb6]; exact p1
        have q2 : w2.cell? ⟨b6, 2, none⟩ = some (.int .u8 0) := by rw [← hb6]; exact p2
        rw [hb6] at p3 p4 p5
        have HM3 := hide (HM2.out.set6 hA hbw (tk2 (B1, B2)))
        obtain ⟨w3, hw3⟩ : ∃ w3, ((w2.setCell ⟨b6, 0, none⟩ (.int .i64 (B1 : Int))).setCell ⟨b6, 1, none⟩ (.int .i64 (B2 : Int))).setCell ⟨b6, 2, none⟩ (.int .u8 0) = w3 := ⟨_, rfl⟩
        have hw3' : put3 w2 wr.heap.size (tk2 (B1, B2)) = w3 := by rw [hb6]; exact hw3
        rw [hw3'] at HM3
        clear hw3' p0 p1 p2 t2 r2 r3 HM2 HBE HCR HM0
        have c3 := HM3.out.tl.box.cells.1
        obtain ⟨x0, x1, x2, x3, x4, x5⟩ := tkc_cells HM3.out.tk
        have y0 : w3.cell? ⟨b6, 0, none⟩ = some (.int .i64 (B1 : Int)) := by rw [← hb6]; exact x0
        have y1 : w3.cell? ⟨b6, 1, none⟩ = some (.int .i64 (B2 : Int)) := by rw [← hb6]; exact x1
        have y2 : w3.cell? ⟨b6, 2, none⟩ = some (.int .u8 0) := by rw [← hb6]; exact x2
        clear x0 x1 x2 x3 x4 x5 b0 b1 b2 a3 a4 a5 c0 h0' h0
        gi_wp2_with fail
        clear hw3 q0 q1 q2 p3 p4 p5 c3 y0 y1 y2
        have HPO : Hid (Calls Try.prog 33 #[.pointer (some ⟨g, 0, none⟩), .int .i64 (i : Int), .agg #[.int .i64 (B1 : Int), .int .i64 (B2 : Int), .int .u8 0]] w3 fun e w' => e = .returned (.agg #[.int .i64 (O1 : Int), .int .i64 (O2 : Int), .int .u8 0]) ∧ ∃ f' nx', Tlx w' base g m (.slice ao D.length cap) D W C z f' nx' ∧ nx' ≤ i + 1 ∧ Below base w3 w' ∧ FT g m f3 f' w3 w') := by
          have := putoff_any w3 base g m W C nx3 i B1 B2 0 _ D z f3 HM3.out.tl HB.out hn hx3 (by omega) hW hW2 hC hB1' (by have := HM3.out.sz; omega)
          rw [HOF.out] at this
          exact this
        refine ⟨trivial, (callsIn_wide.2 HPO.out).mono ?_⟩
        rintro e w4 ⟨rfl, f4, nx4, t4, hx4, r4, r5⟩
        have HM4 := hide (HM3.out.call hA t4 r4 r5)
        clear HPO HM3 t4 r4 r5 hx3
        obtain ⟨k0, k1, k2, k3, k4, k5⟩ := tkc_cells HM4.out.ah
        have HM5 := hide (HM4.out.setA hA hbA (tk2 (O1, O2)))
        obtain ⟨w5, hw5⟩ : ∃ w5, ((w4.setCell ⟨gA, 0, none⟩ (.int .i64 (O1 : Int))).setCell ⟨gA, 1, none⟩ (.int .i64 (O2 : Int))).setCell ⟨gA, 2, none⟩ (.int .u8 0) = w5 := ⟨_, rfl⟩
        have hw5' : put3 w4 gA (tk2 (O1, O2)) = w5 := hw5
        rw [hw5'] at HM5
        clear hw5' HM4
        obtain ⟨x0, x1, x2, l3, l4, l5⟩ := tkc_cells HM5.out.tk
        have l0 : w5.cell? ⟨b6, 0, none⟩ = some (.int .i64 (B1 : Int)) := by rw [← hb6]; exact x0
        have l1 : w5.cell? ⟨b6, 1, none⟩ = some (.int .i64 (B2 : Int)) := by rw [← hb6]; exact x1
        have l2 : w5.cell? ⟨b6, 2, none⟩ = some (.int .u8 0) := by rw [← hb6]; exact x2
        rw [hb6] at l3 l4 l5
        obtain ⟨x6, _, _, _, _, _⟩ := tkc_cells HM5.out.ah
        have o0 : w5.cell? ⟨gA, 0, none⟩ = some (.int .i64 (O1 : Int)) := x6
        have c5 := HM5.out.tl.box.cells.1
        obtain ⟨db, dof, hao, hdc⟩ := HM5.out.tl.dat.get (Below.refl _ _) (k := i) hi
        rw [HDV.out] at hdc
        subst hao
        clear x0 x1 x2 x6
        by_cases hB0 : B1 = 0
        · have g0 : (B1 : Int) = 0 := by omega
          have HLI : Hid (Lit D W C z i) := HLT.out.2 (.inl hB0)
          have HTE : Hid (tok D W C z i = (0, 0, dv)) := by have := tok_lit HLI.out; rw [HDV.out] at this; exact this
          have HSY : Hid (says (tok D W C z i) = 1) := says_lit HLI.out
          have HM6 := hide (HM5.out.set6 hA hbw (0, 0, dv))
          obtain ⟨w6, hw6⟩ : ∃ w6, ((w5.setCell ⟨b6, 0, none⟩ (.int .i64 0)).setCell ⟨b6, 1, none⟩ (.int .i64 0)).setCell ⟨b6, 2, none⟩ (.int .u8 dv) = w6 := ⟨_, rfl⟩
          have hw6' : put3 w5 wr.heap.size (0, 0, dv) = w6 := by rw [hb6]; exact hw6
          rw [hw6'] at HM6
          clear hw6' HM5
          obtain ⟨x0, x1, x2, _, _, _⟩ := tkc_cells HM6.out.tk
          have z0 : w6.cell? ⟨b6, 0, none⟩ = some (.int .i64 0) := by rw [← hb6]; exact x0
          have z1 : w6.cell? ⟨b6, 1, none⟩ = some (.int .i64 0) := by rw [← hb6]; exact x1
          have z2 : w6.cell? ⟨b6, 2, none⟩ = some (.int .u8 dv) := by rw [← hb6]; exact x2
          clear x0 x1 x2
          have hT := HTK.out
          obtain ⟨J9, S9, T9, A9⟩ := HX.out.out HMV.out HM6.out
          have hYY := HY.out k (grw S wr w6) w6 hT.1 J9 S9 (fun b hb => Nat.lt_of_lt_of_le (HM6.out.tl.low b hb) (by have := HM6.out.sz; omega))
          rw [hT.2.1, HTE.out] at hYY
          obtain ⟨fn, tmps, assign, body, hy, hRd⟩ := hYY
          dsimp only [tkc] at hy
          have H9 := hide (And.intro S9 (And.intro T9 A9))
          have hz6 : b6 < w6.heap.size := by have := HM6.out.sz; omega
          clear hT J9 S9 T9 A9
          gi_wp2
          refine hRd.mono ?_
          rintro e w7 (⟨rfl, hj7, hk7, hs7⟩ | ⟨rfl, hJx7⟩)
          · have il7 := tok_end (D := D) (W := W) (C := C) (z := z) hi
            have cr7 := cry_go (D := D) (W := W) (C := C) (z := z) hi
            have hT := HTK.out.2.2
            rw [HSY.out] at il7 cr7 hT
            rw [← HO.out] at cr7
            have HT7 := hide (HX.out.on (i' := i + 1) HM6.out (by omega) cr7 il7 (by have := HX.out.ki; omega) HTK.out.1 hT H9.out.1 H9.out.2.1 H9.out.2.2 hk7 hs7 hj7)
            have k7 : w7.cell? ⟨b6, 0, none⟩ = some (.int .i64 0) := (World.cell?_of_block (hk7 b6 (.inl (.inr ⟨by omega, hz6⟩)))).trans z0
            clear hk7 hs7 hj7 cr7 hT hy
            gi_wp2
            go_roundw
            case rel => exact ⟨k + 1, i + 1, nx4, (O1, O2), f4, _, by go_num, il7, HT7⟩
            case measure => simp [intOf]; omega
          · have HJX := hide hJx7
            clear hJx7 hy
            gi_wp2
            refine bodyPost_ret (results_none rfl _ _ _) rfl ?_
            exact ⟨⟨_, rfl⟩, .inr HJX.out⟩
        · have g0 : ¬ (B1 : Int) = 0 := by omega
          by_cases hO0 : 0 < O1
          · have g1 : (0 : Int) < (O1 : Int) := by omega
            have HLI : Hid (Lit D W C z i) := HLT.out.2 (.inr hO0)
            have HTE : Hid (tok D W C z i = (0, 0, dv)) := by have := tok_lit HLI.out; rw [HDV.out] at this; exact this
            have HSY : Hid (says (tok D W C z i) = 1) := says_lit HLI.out
            have HM6 := hide (HM5.out.set6 hA hbw (0, 0, dv))
            obtain ⟨w6, hw6⟩ : ∃ w6, ((w5.setCell ⟨b6, 0, none⟩ (.int .i64 0)).setCell ⟨b6, 1, none⟩ (.int .i64 0)).setCell ⟨b6, 2, none⟩ (.int .u8 dv) = w6 := ⟨_, rfl⟩
            have hw6' : put3 w5 wr.heap.size (0, 0, dv) = w6 := by rw [hb6]; exact hw6
            rw [hw6'] at HM6
            clear hw6' HM5
            obtain ⟨x0, x1, x2, _, _, _⟩ := tkc_cells HM6.out.tk
            have z0 : w6.cell? ⟨b6, 0, none⟩ = some (.int .i64 0) := by rw [← hb6]; exact x0
            have z1 : w6.cell? ⟨b6, 1, none⟩ = some (.int .i64 0) := by rw [← hb6]; exact x1
            have z2 : w6.cell? ⟨b6, 2, none⟩ = some (.int .u8 dv) := by rw [← hb6]; exact x2
            clear x0 x1 x2
            have hT := HTK.out
            obtain ⟨J9, S9, T9, A9⟩ := HX.out.out HMV.out HM6.out
            have hYY := HY.out k (grw S wr w6) w6 hT.1 J9 S9 (fun b hb => Nat.lt_of_lt_of_le (HM6.out.tl.low b hb) (by have := HM6.out.sz; omega))
            rw [hT.2.1, HTE.out] at hYY
            obtain ⟨fn, tmps, assign, body, hy, hRd⟩ := hYY
            dsimp only [tkc] at hy
            have H9 := hide (And.intro S9 (And.intro T9 A9))
            have hz6 : b6 < w6.heap.size := by have := HM6.out.sz; omega
            clear hT J9 S9 T9 A9
            gi_wp2
            refine hRd.mono ?_
            rintro e w7 (⟨rfl, hj7, hk7, hs7⟩ | ⟨rfl, hJx7⟩)
            · have il7 := tok_end (D := D) (W := W) (C := C) (z := z) hi
              have cr7 := cry_go (D := D) (W := W) (C := C) (z := z) hi
              have hT := HTK.out.2.2
              rw [HSY.out] at il7 cr7 hT
              rw [← HO.out] at cr7
              have HT7 := hide (HX.out.on (i' := i + 1) HM6.out (by omega) cr7 il7 (by have := HX.out.ki; omega) HTK.out.1 hT H9.out.1 H9.out.2.1 H9.out.2.2 hk7 hs7 hj7)
              have k7 : w7.cell? ⟨b6, 0, none⟩ = some (.int .i64 0) := (World.cell?_of_block (hk7 b6 (.inl (.inr ⟨by omega, hz6⟩)))).trans z0
              clear hk7 hs7 hj7 cr7 hT hy
              gi_wp2
              go_roundw
              case rel => exact ⟨k + 1, i + 1, nx4, (O1, O2), f4, _, by go_num, il7, HT7⟩
              case measure => simp [intOf]; omega
            · have HJX := hide hJx7
              clear hJx7 hy
              gi_wp2
              refine bodyPost_ret (results_none rfl _ _ _) rfl ?_
              exact ⟨⟨_, rfl⟩, .inr HJX.out⟩
          · have g1 : ¬ (0 : Int) < (O1 : Int) := by omega
            have HLI : Hid (¬ Lit D W C z i) := fun e => by rcases HLT.out.1 e with e | e <;> omega
            have HTE : Hid (tok D W C z i = ((B1 : Int), (B2 : Int), 0)) := by have := tok_cpy HLI.out; rw [← HBS.out] at this; exact this
            have HSY : Hid (says (tok D W C z i) = B1) := by show _ = _; rw [HTE.out]; show max 1 (B1 : Int).toNat = B1; omega
            have z0 := l0
            have hmx : max (B1 : Int) 1 = (B1 : Int) := by omega
            have hT := HTK.out
            obtain ⟨J9, S9, T9, A9⟩ := HX.out.out HMV.out HM5.out
            have hYY := HY.out k (grw S wr w5) w5 hT.1 J9 S9 (fun b hb => Nat.lt_of_lt_of_le (HM5.out.tl.low b hb) (by have := HM5.out.sz; omega))
            rw [hT.2.1, HTE.out] at hYY
            obtain ⟨fn, tmps, assign, body, hy, hRd⟩ := hYY
            dsimp only [tkc] at hy
            have H9 := hide (And.intro S9 (And.intro T9 A9))
            have hz6 : b6 < w5.heap.size := by have := HM5.out.sz; omega
            clear hT J9 S9 T9 A9
            gi_wp2
            refine hRd.mono ?_
            rintro e w7 (⟨rfl, hj7, hk7, hs7⟩ | ⟨rfl, hJx7⟩)
            · have il7 := tok_end (D := D) (W := W) (C := C) (z := z) hi
              have cr7 := cry_go (D := D) (W := W) (C := C) (z := z) hi
              have hT := HTK.out.2.2
              rw [HSY.out] at il7 cr7 hT
              rw [← HO.out] at cr7
              have HT7 := hide (HX.out.on (i' := i + B1) HM5.out (by omega) cr7 il7 (by have := HX.out.ki; omega) HTK.out.1 hT H9.out.1 H9.out.2.1 H9.out.2.2 hk7 hs7 hj7)
              have k7 : w7.cell? ⟨b6, 0, none⟩ = some (.int .i64 (B1 : Int)) := (World.cell?_of_block (hk7 b6 (.inl (.inr ⟨by omega, hz6⟩)))).trans z0
              clear hk7 hs7 hj7 cr7 hT hy
              gi_wp2
              go_roundw
              case rel => exact ⟨k + 1, i + B1, nx4, (O1, O2), f4, _, by go_num, il7, HT7⟩
              case measure => simp [intOf]; omega
            · have HJX := hide hJx7
              clear hJx7 hy
              gi_wp2
              refine bodyPost_ret (results_none rfl _ _ _) rfl ?_
              exact ⟨⟨_, rfl⟩, .inr HJX.out⟩
      · skip
        obtain ⟨e1, e2⟩ : s1 = B1 ∧ s2 = B2 := by
          rcases HCR.out with e | e
          · exact absurd e h0
          · exact ⟨congrArg Prod.fst e, congrArg Prod.snd e⟩
        have h0' : ¬ (B1 : Int) = 0 := by omega
        rw [e1] at b0 HM0
        rw [e2] at b1 HM0
        gi_wp2_with fail
        obtain ⟨w3, hw3⟩ : ∃ w3, wr.alloc (.cells #[.int .i64 (B1 : Int), .int .i64 (B2 : Int), .int .u8 0] 38) = w3 := ⟨_, rfl⟩
        rw [hw3] at HM0 ⊢
        have HM3 := HM0
        have hx3 : nx ≤ i := HX.out.nxi
        obtain ⟨f3, hf3⟩ : ∃ f3, f3 = f := ⟨_, rfl⟩
        obtain ⟨nx3, hnx3⟩ : ∃ n, n = nx := ⟨_, rfl⟩
        rw [← hnx3] at hx3
        have HM3 : Hid (Mid wr w3 base g m (.slice ao D.length cap) D W C z f f3 nx3 gA (tk2 (B1, B2)) (tk2 (B1, B2))) := by rw [hf3, hnx3]; exact HM0
        clear hw3 HM0 b0 b1 b2 a3 a4 a5 c0 h0 h0' e1 e2 HCR hf3 hnx3
        have HPO : Hid (Calls Try.prog 33 #[.pointer (some ⟨g, 0, none⟩), .int .i64 (i : Int), .agg #[.int .i64 (B1 : Int), .int .i64 (B2 : Int), .int .u8 0]] w3 fun e w' => e = .returned (.agg #[.int .i64 (O1 : Int), .int .i64 (O2 : Int), .int .u8 0]) ∧ ∃ f' nx', Tlx w' base g m (.slice ao D.length cap) D W C z f' nx' ∧ nx' ≤ i + 1 ∧ Below base w3 w' ∧ FT g m f3 f' w3 w') := by
          have := putoff_any w3 base g m W C nx3 i B1 B2 0 _ D z f3 HM3.out.tl HB.out hn hx3 (by omega) hW hW2 hC hB1' (by have := HM3.out.sz; omega)
          rw [HOF.out] at this
          exact this
        refine ⟨trivial, (callsIn_wide.2 HPO.out).mono ?_⟩
        rintro e w4 ⟨rfl, f4, nx4, t4, hx4, r4, r5⟩
        have HM4 := hide (HM3.out.call hA t4 r4 r5)
        clear HPO HM3 t4 r4 r5 hx3
        obtain ⟨k0, k1, k2, k3, k4, k5⟩ := tkc_cells HM4.out.ah
        have HM5 := hide (HM4.out.setA hA hbA (tk2 (O1, O2)))
        obtain ⟨w5, hw5⟩ : ∃ w5, ((w4.setCell ⟨gA, 0, none⟩ (.int .i64 (O1 : Int))).setCell ⟨gA, 1, none⟩ (.int .i64 (O2 : Int))).setCell ⟨gA, 2, none⟩ (.int .u8 0) = w5 := ⟨_, rfl⟩
        have hw5' : put3 w4 gA (tk2 (O1, O2)) = w5 := hw5
        rw [hw5'] at HM5
        clear hw5' HM4
        obtain ⟨x0, x1, x2, l3, l4, l5⟩ := tkc_cells HM5.out.tk
        have l0 : w5.cell? ⟨b6, 0, none⟩ = some (.int .i64 (B1 : Int)) := by rw [← hb6]; exact x0
        have l1 : w5.cell? ⟨b6, 1, none⟩ = some (.int .i64 (B2 : Int)) := by rw [← hb6]; exact x1
        have l2 : w5.cell? ⟨b6, 2, none⟩ = some (.int .u8 0) := by rw [← hb6]; exact x2
        rw [hb6] at l3 l4 l5
        obtain ⟨x6, _, _, _, _, _⟩ := tkc_cells HM5.out.ah
        have o0 : w5.cell? ⟨gA, 0, none⟩ = some (.int .i64 (O1 : Int)) := x6
        have c5 := HM5.out.tl.box.cells.1
        obtain ⟨db, dof, hao, hdc⟩ := HM5.out.tl.dat.get (Below.refl _ _) (k := i) hi
        rw [HDV.out] at hdc
        subst hao
        clear x0 x1 x2 x6
        by_cases hB0 : B1 = 0
        · have g0 : (B1 : Int) = 0 := by omega
          have HLI : Hid (Lit D W C z i) := HLT.out.2 (.inl hB0)
          have HTE : Hid (tok D W C z i = (0, 0, dv)) := by have := tok_lit HLI.out; rw [HDV.out] at this; exact this
          have HSY : Hid (says (tok D W C z i) = 1) := says_lit HLI.out
          have HM6 := hide (HM5.out.set6 hA hbw (0, 0, dv))
          obtain ⟨w6, hw6⟩ : ∃ w6, ((w5.setCell ⟨b6, 0, none⟩ (.int .i64 0)).setCell ⟨b6, 1, none⟩ (.int .i64 0)).setCell ⟨b6, 2, none⟩ (.int .u8 dv) = w6 := ⟨_, rfl⟩
          have hw6' : put3 w5 wr.heap.size (0, 0, dv) = w6 := by rw [hb6]; exact hw6
          rw [hw6'] at HM6
          clear hw6' HM5
          obtain ⟨x0, x1, x2, _, _, _⟩ := tkc_cells HM6.out.tk
          have z0 : w6.cell? ⟨b6, 0, none⟩ = some (.int .i64 0) := by rw [← hb6]; exact x0
          have z1 : w6.cell? ⟨b6, 1, none⟩ = some (.int .i64 0) := by rw [← hb6]; exact x1
          have z2 : w6.cell? ⟨b6, 2, none⟩ = some (.int .u8 dv) := by rw [← hb6]; exact x2
          clear x0 x1 x2
          have hT := HTK.out
          obtain ⟨J9, S9, T9, A9⟩ := HX.out.out HMV.out HM6.out
          have hYY := HY.out k (grw S wr w6) w6 hT.1 J9 S9 (fun b hb => Nat.lt_of_lt_of_le (HM6.out.tl.low b hb) (by have := HM6.out.sz; omega))
          rw [hT.2.1, HTE.out] at hYY
          obtain ⟨fn, tmps, assign, body, hy, hRd⟩ := hYY
          dsimp only [tkc] at hy
          have H9 := hide (And.intro S9 (And.intro T9 A9))
          have hz6 : b6 < w6.heap.size := by have := HM6.out.sz; omega
          clear hT J9 S9 T9 A9
          gi_wp2
          refine hRd.mono ?_
          rintro e w7 (⟨rfl, hj7, hk7, hs7⟩ | ⟨rfl, hJx7⟩)
          · have il7 := tok_end (D := D) (W := W) (C := C) (z := z) hi
            have cr7 := cry_go (D := D) (W := W) (C := C) (z := z) hi
            have hT := HTK.out.2.2
            rw [HSY.out] at il7 cr7 hT
            rw [← HO.out] at cr7
            have HT7 := hide (HX.out.on (i' := i + 1) HM6.out (by omega) cr7 il7 (by have := HX.out.ki; omega) HTK.out.1 hT H9.out.1 H9.out.2.1 H9.out.2.2 hk7 hs7 hj7)
            have k7 : w7.cell? ⟨b6, 0, none⟩ = some (.int .i64 0) := (World.cell?_of_block (hk7 b6 (.inl (.inr ⟨by omega, hz6⟩)))).trans z0
            clear hk7 hs7 hj7 cr7 hT hy
            gi_wp2
            go_roundw
            case rel => exact ⟨k + 1, i + 1, nx4, (O1, O2), f4, _, by go_num, il7, HT7⟩
            case measure => simp [intOf]; omega
          · have HJX := hide hJx7
            clear hJx7 hy
            gi_wp2
            refine bodyPost_ret (results_none rfl _ _ _) rfl ?_
            exact ⟨⟨_, rfl⟩, .inr HJX.out⟩
        · have g0 : ¬ (B1 : Int) = 0 := by omega
          by_cases hO0 : 0 < O1
          · have g1 : (0 : Int) < (O1 : Int) := by omega
            have HLI : Hid (Lit D W C z i) := HLT.out.2 (.inr hO0)
            have HTE : Hid (tok D W C z i = (0, 0, dv)) := by have := tok_lit HLI.out; rw [HDV.out] at this; exact this
            have HSY : Hid (says (tok D W C z i) = 1) := says_lit HLI.out
            have HM6 := hide (HM5.out.set6 hA hbw (0, 0, dv))
            obtain ⟨w6, hw6⟩ : ∃ w6, ((w5.setCell ⟨b6, 0, none⟩ (.int .i64 0)).setCell ⟨b6, 1, none⟩ (.int .i64 0)).setCell ⟨b6, 2, none⟩ (.int .u8 dv) = w6 := ⟨_, rfl⟩
            have hw6' : put3 w5 wr.heap.size (0, 0, dv) = w6 := by rw [hb6]; exact hw6
            rw [hw6'] at HM6
            clear hw6' HM5
            obtain ⟨x0, x1, x2, _, _, _⟩ := tkc_cells HM6.out.tk
            have z0 : w6.cell? ⟨b6, 0, none⟩ = some (.int .i64 0) := by rw [← hb6]; exact x0
            have z1 : w6.cell? ⟨b6, 1, none⟩ = some (.int .i64 0) := by rw [← hb6]; exact x1
            have z2 : w6.cell? ⟨b6, 2, none⟩ = some (.int .u8 dv) := by rw [← hb6]; exact x2
            clear x0 x1 x2
            have hT := HTK.out
            obtain ⟨J9, S9, T9, A9⟩ := HX.out.out HMV.out HM6.out
            have hYY := HY.out k (grw S wr w6) w6 hT.1 J9 S9 (fun b hb => Nat.lt_of_lt_of_le (HM6.out.tl.low b hb) (by have := HM6.out.sz; omega))
            rw [hT.2.1, HTE.out] at hYY
            obtain ⟨fn, tmps, assign, body, hy, hRd⟩ := hYY
            dsimp only [tkc] at hy
            have H9 := hide (And.intro S9 (And.intro T9 A9))
            have hz6 : b6 < w6.heap.size := by have := HM6.out.sz; omega
            clear hT J9 S9 T9 A9
            gi_wp2
            refine hRd.mono ?_
            rintro e w7 (⟨rfl, hj7, hk7, hs7⟩ | ⟨rfl, hJx7⟩)
            · have il7 := tok_end (D := D) (W := W) (C := C) (z := z) hi
              have cr7 := cry_go (D := D) (W := W) (C := C) (z := z) hi
              have hT := HTK.out.2.2
              rw [HSY.out] at il7 cr7 hT
              rw [← HO.out] at cr7
              have HT7 := hide (HX.out.on (i' := i + 1) HM6.out (by omega) cr7 il7 (by have := HX.out.ki; omega) HTK.out.1 hT H9.out.1 H9.out.2.1 H9.out.2.2 hk7 hs7 hj7)
              have k7 : w7.cell? ⟨b6, 0, none⟩ = some (.int .i64 0) := (World.cell?_of_block (hk7 b6 (.inl (.inr ⟨by omega, hz6⟩)))).trans z0
              clear hk7 hs7 hj7 cr7 hT hy
              gi_wp2
              go_roundw
              case rel => exact ⟨k + 1, i + 1, nx4, (O1, O2), f4, _, by go_num, il7, HT7⟩
              case measure => simp [intOf]; omega
            · have HJX := hide hJx7
              clear hJx7 hy
              gi_wp2
              refine bodyPost_ret (results_none rfl _ _ _) rfl ?_
              exact ⟨⟨_, rfl⟩, .inr HJX.out⟩
          · have g1 : ¬ (0 : Int) < (O1 : Int) := by omega
            have HLI : Hid (¬ Lit D W C z i) := fun e => by rcases HLT.out.1 e with e | e <;> omega
            have HTE : Hid (tok D W C z i = ((B1 : Int), (B2 : Int), 0)) := by have := tok_cpy HLI.out; rw [← HBS.out] at this; exact this
            have HSY : Hid (says (tok D W C z i) = B1) := by show _ = _; rw [HTE.out]; show max 1 (B1 : Int).toNat = B1; omega
            have z0 := l0
            have hmx : max (B1 : Int) 1 = (B1 : Int) := by omega
            have hT := HTK.out
            obtain ⟨J9, S9, T9, A9⟩ := HX.out.out HMV.out HM5.out
            have hYY := HY.out k (grw S wr w5) w5 hT.1 J9 S9 (fun b hb => Nat.lt_of_lt_of_le (HM5.out.tl.low b hb) (by have := HM5.out.sz; omega))
            rw [hT.2.1, HTE.out] at hYY
            obtain ⟨fn, tmps, assign, body, hy, hRd⟩ := hYY
            dsimp only [tkc] at hy
            have H9 := hide (And.intro S9 (And.intro T9 A9))
            have hz6 : b6 < w5.heap.size := by have := HM5.out.sz; omega
            clear hT J9 S9 T9 A9
            gi_wp2
            refine hRd.mono ?_
            rintro e w7 (⟨rfl, hj7, hk7, hs7⟩ | ⟨rfl, hJx7⟩)
            · have il7 := tok_end (D := D) (W := W) (C := C) (z := z) hi
              have cr7 := cry_go (D := D) (W := W) (C := C) (z := z) hi
              have hT := HTK.out.2.2
              rw [HSY.out] at il7 cr7 hT
              rw [← HO.out] at cr7
              have HT7 := hide (HX.out.on (i' := i + B1) HM5.out (by omega) cr7 il7 (by have := HX.out.ki; omega) HTK.out.1 hT H9.out.1 H9.out.2.1 H9.out.2.2 hk7 hs7 hj7)
              have k7 : w7.cell? ⟨b6, 0, none⟩ = some (.int .i64 (B1 : Int)) := (World.cell?_of_block (hk7 b6 (.inl (.inr ⟨by omega, hz6⟩)))).trans z0
              clear hk7 hs7 hj7 cr7 hT hy
              gi_wp2
              go_roundw
              case rel => exact ⟨k + 1, i + B1, nx4, (O1, O2), f4, _, by go_num, il7, HT7⟩
              case measure => simp [intOf]; omega
            · have HJX := hide hJx7
              clear hJx7 hy
              gi_wp2
              refine bodyPost_ret (results_none rfl _ _ _) rfl ?_
              exact ⟨⟨_, rfl⟩, .inr HJX.out⟩
    · have hlt : ¬ (i : Int) < (D.length : Int) := by omega
      have hr := HX.out.rest
      rw [tks_end hi] at hr
      have hkl : (tkl D W C z).length ≤ k := by
        have := congrArg List.length hr
        simp at this
        omega
      have hke : k = (tkl D W C z).length := by have := HX.out.kl; omega
      have hjj := HX.out.j
      rw [hke] at hjj
      have HJJ := hide hjj
      clear hjj hr hkl hke HX
      gi_wp2
      refine bodyPost_end (results_none rfl _ _ _) rfl ?_
      exact ⟨⟨_, rfl⟩, .inl ⟨_, HJJ.out⟩⟩
end Go.Proofs.Ytjdgeonlbjokaaa

