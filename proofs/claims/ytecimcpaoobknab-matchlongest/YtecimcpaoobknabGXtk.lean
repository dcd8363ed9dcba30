import Derived.Test.YtecimcpaoobknabGBn
import Derived.Test.YtecimcpaoobknabGTk
import Derived.Test.YtecimcpaoobknabGTnm
namespace Go.Proofs.Ytecimcpaoobknab
open Go.RowKit Go.Maps
set_option maxRecDepth 20000
set_option linter.unusedVariables false

/-- Tokens: the error and the answer. -/
def tE (D : List Int) (x y : Int) : Int := if (D.length : Int) ≤ 16777216 ∧ Dmn x y then 0 else 1
def tL (D : List Int) (x y : Int) (z : Bool) : List Tk := if tE D x y = 0 then tkl D x.toNat y.toNat z else []

theorem tE_bad {D : List Int} {x y : Int} {z : Bool} (h : ¬ ((D.length : Int) ≤ 16777216 ∧ Dmn x y)) : tE D x y = 1 ∧ tL D x y z = [] := by
  have : tE D x y = 1 := by unfold tE; rw [if_neg h]
  exact ⟨this, by unfold tL; rw [this]; rfl⟩
theorem tE_ok {D : List Int} {x y : Int} {z : Bool} (h : (D.length : Int) ≤ 16777216 ∧ Dmn x y) : tE D x y = 0 ∧ tL D x y z = tkl D x.toNat y.toNat z := by
  have : tE D x y = 0 := by unfold tE; rw [if_pos h]
  exact ⟨this, by unfold tL; rw [this]; rfl⟩

set_option maxHeartbeats 4000000 in
theorem xTokens_any (v : Value) (D : List Int) (x y : Int) (z : Bool) (w : World) (h : SB w v D) :
    Calls Try.prog 16 #[v, .agg #[.int .i64 x, .int .i64 y, .bool z]] w fun e w' => ∃ u, e = .returned (.tuple #[u, .int .i64 (tE D x y)]) ∧ OK w' w.heap.size u (tL D x y z) ∧ Below w.heap.size w w' := by
  have HB : Hid (Below w.heap.size w (w.alloc (.cells #[.int .i64 x, .int .i64 y, .bool z] 24))) := (Below.refl _ _).alloc (Nat.le_refl _) _
  have HS := hide (h.below ((Below.refl _ _).alloc (Nat.le_refl _) (.cells #[.int .i64 x, .int .i64 y, .bool z] 24)))
  obtain ⟨wb, hwb⟩ : ∃ wb, w.alloc (.cells #[.int .i64 x, .int .i64 y, .bool z] 24) = wb := ⟨_, rfl⟩
  have hbl : w.heap.size < wb.heap.size := by rw [← hwb]; simp
  have d1 : wb.cell? ⟨w.heap.size, 0, none⟩ = some (.int .i64 x) := by rw [← hwb]; unfold World.cell?; simp only [heap_alloc_new]; rfl
  have d2 : wb.cell? ⟨w.heap.size, 1, none⟩ = some (.int .i64 y) := by rw [← hwb]; unfold World.cell?; simp only [heap_alloc_new]; rfl
  have d3 : wb.cell? ⟨w.heap.size, 2, none⟩ = some (.bool z) := by rw [← hwb]; unfold World.cell?; simp only [heap_alloc_new]; rfl
  rw [hwb] at HB HS
  have HC : Hid (∀ wx, Below wb.heap.size wb wx → wx.cell? ⟨w.heap.size, 0, none⟩ = some (.int .i64 x) ∧ wx.cell? ⟨w.heap.size, 1, none⟩ = some (.int .i64 y) ∧ wx.cell? ⟨w.heap.size, 2, none⟩ = some (.bool z)) := fun wx q => ⟨(q.cell hbl).trans d1, (q.cell hbl).trans d2, (q.cell hbl).trans d3⟩
  have HFI : Hid (∀ wx, Below wb.heap.size wb wx → Below w.heap.size w wx) := fun wx q => HB.out.trans (q.mono HB.out.size)
  have hbs : w.heap.size ≤ wb.heap.size := by omega
  obtain ⟨ao, cap, rfl, hlc, hcm⟩ := h.open
  clear h
  have HDM := hide (xdom_any x y z wb)
  go_enter Try.func16, Try.ntmps16
  go_wp2_with fail
  refine HDM.out.mono ?_
  rintro e w2 ⟨rfl, b2⟩
  have HB2 := hide b2
  obtain ⟨f1, f2, f3⟩ := HC.out _ b2
  clear hwb b2 d1 d2 d3 HDM
  by_cases h1 : (D.length : Int) ≤ 16777216
  · have g1 : ¬ (16777216 : Int) < (D.length : Int) := by omega
    by_cases h2 : Dmn x y
    · have HDD : Hid (dmn x y = true) := decide_eq_true h2
      rw [HDD.out]
      have HR := hide (tE_ok (D := D) (z := z) ⟨h1, h2⟩)
      unfold Dmn at h2
      obtain ⟨W, rfl⟩ := Int.eq_ofNat_of_zero_le (show 0 ≤ x by omega)
      obtain ⟨C, rfl⟩ := Int.eq_ofNat_of_zero_le (show 0 ≤ y by omega)
      simp only [Int.toNat_natCast] at HR
      have hWb : W ≤ 32768 ∧ C ≤ 4096 := by omega
      have HXB : Hid (∀ wx (i : Nat), Below wb.heap.size wb wx → i < D.length → Calls Try.prog 35 #[.slice ao D.length cap, .int .i64 i, .agg #[.int .i64 W, .int .i64 C, .bool z]] wx fun e w' => e = .returned (.tuple #[.int .i64 ((bst D i W C).1 : Nat), .int .i64 ((bst D i W C).2 : Nat)]) ∧ Below wx.heap.size wx w') := fun wx i q hi => xbest_any _ D i W C z wx (HS.out.below q) hi (by omega) (by omega) (by omega)
      clear h2
      go_wp2
      go_loopw [7, 8] (fun u t wr => ∃ (i f : Nat) (R : List Tk), i ≤ D.length ∧ D.length ≤ i + f ∧ t = .int .i64 i ∧ R.length ≤ i ∧ Hid (OK wr wb.heap.size u R) ∧ Hid (Below wb.heap.size wb wr) ∧ Hid (R ++ tks D W C z f i = tkl D W C z)) (fun _ t _ => D.length - (intOf t).toNat)
      case atStart => exact ⟨0, D.length, [], Nat.zero_le _, by omega, rfl, Nat.le_refl _, OK.nil _ _, HB2.out, rfl⟩
      case round =>
        obtain ⟨i, f, R, h3, h4, rfl, h5, HO, HBR, HQ⟩ := hrel
        clear f1 f2 f3
        obtain ⟨f1, f2, f3⟩ := HC.out _ HBR.out
        obtain ⟨a7, c7, hu7, _⟩ := HO.out.shape
        subst hu7
        by_cases hlt : i < D.length
        · have hlt' : (i : Int) < (D.length : Int) := by omega
          obtain ⟨f, rfl⟩ : ∃ f', f = f' + 1 := ⟨f - 1, by omega⟩
          have HSQ : Hid (R ++ (tok D W C z i :: tks D W C z f (i + says (tok D W C z i))) = tkl D W C z) := by
            have := HQ.out
            simp only [tks, if_pos hlt] at this
            exact this
          have HEN : Hid (i + says (tok D W C z i) ≤ D.length) := tok_end hlt
          have HBI := hide (HXB.out wr i HBR.out hlt)
          have HP : Hid (Lit D W C z i ∨ ¬ Lit D W C z i) := Classical.em _
          have HLD : Hid (∀ q : Lit D W C z i, tok D W C z i = (0, 0, D.getD i 0) ∧ says (tok D W C z i) = 1) := fun q => ⟨tok_lit q, says_lit q⟩
          have HCD : Hid (∀ q : ¬ Lit D W C z i, tok D W C z i = ((((bst D i W C).1 : Nat) : Int), (((bst D i W C).2 : Nat) : Int), 0) ∧ says (tok D W C z i) = (bst D i W C).1 ∧ (bst D i W C).1 ≤ 258) := fun q => by
            obtain ⟨j, l, d, e, _, _, _, _, e2, _, _, _, _, e3, e4⟩ := cpy_is hlt q
            rw [e4]
            exact ⟨e, e3, e2⟩
          have HLI : Hid (Lit D W C z i ↔ ((bst D i W C).1 = 0 ∨ (z = true ∧ i + 1 < D.length ∧ (bst D i W C).1 < (bst D (i + 1) W C).1))) := Iff.rfl
          have HB2I : Hid (i + 1 < D.length → ∀ wx, Below wb.heap.size wb wx → Calls Try.prog 35 #[.slice ao D.length cap, .int .i64 ((i + 1 : Nat) : Int), .agg #[.int .i64 W, .int .i64 C, .bool z]] wx fun e w' => e = .returned (.tuple #[.int .i64 ((bst D (i + 1) W C).1 : Nat), .int .i64 ((bst D (i + 1) W C).2 : Nat)]) ∧ Below wx.heap.size wx w') := fun q wx qb => HXB.out wx (i + 1) qb q
          obtain ⟨l, HL⟩ : ∃ l, Hid (l = (bst D i W C).1) := ⟨_, rfl⟩
          obtain ⟨d, HD⟩ : ∃ l, Hid (l = (bst D i W C).2) := ⟨_, rfl⟩
          obtain ⟨l2, HL2⟩ : ∃ l, Hid (l = (bst D (i + 1) W C).1) := ⟨_, rfl⟩
          obtain ⟨d2, HD2⟩ : ∃ l, Hid (l = (bst D (i + 1) W C).2) := ⟨_, rfl⟩
          rw [← HL.out, ← HD.out] at HBI HCD
          rw [← HL.out, ← HL2.out] at HLI
          rw [← HL2.out, ← HD2.out] at HB2I
          obtain ⟨b, o, rfl, cz⟩ := HS.out.get HBR.out hlt
          have HCZ : Hid (∀ wx, Below wb.heap.size wb wx → wx.cell? ⟨b, o + i, none⟩ = some (.int .u8 (D.getD i 0))) := fun wx q => by
            obtain ⟨b', o', e', c'⟩ := HS.out.get q hlt
            simp only [Option.some.injEq, Addr.mk.injEq, and_true] at e'
            obtain ⟨rfl, rfl⟩ := e'
            exact c'
          obtain ⟨zz, HZZ⟩ : ∃ x, Hid (x = D.getD i 0) := ⟨_, rfl⟩
          rw [← HZZ.out] at HCZ HLD
          clear cz HQ HP HXB
          go_wp2_with fail
          refine HBI.out.mono ?_
          rintro e w3 ⟨rfl, b3⟩
          have HB3 := hide (HBR.out.trans (b3.mono HBR.out.size))
          clear f1 f2 f3
          obtain ⟨f1, f2, f3⟩ := HC.out _ HB3.out
          by_cases hl0 : l = 0
          · have HLT : Hid (Lit D W C z i) := HLI.out.2 (.inl hl0)
            obtain ⟨wY, hwY⟩ : ∃ wY, wY = w3 := ⟨_, rfl⟩
            rw [← hwY] at b3 HB3 f1 f2 f3 ⊢
            have bY := b3
            have HBY := hide HB3.out
            have HT : Hid (tok D W C z i = (0, 0, zz)) := (HLD.out HLT.out).1
            have HSY : Hid (says (tok D W C z i) = 1) := (HLD.out HLT.out).2
            have cz := HCZ.out _ HBY.out
            have g0 : ((l : Int) == 0) = true := by simp; omega
            have g1' : ¬ (0 : Int) < (l : Int) := by omega
            clear hwY HLI HLD HCD HB2I hl0
            have HALC : Hid (OK wY wb.heap.size (.slice a7 R.length c7) R) := HO.out.below bY (Nat.le_refl _)
            have hBw := HBY.out.size
            go_wp2_with (at_builtin; refine wpTok rfl _ _ rfl wb.heap.size (.slice a7 R.length c7) R 0 0 zz rfl HALC.out _ rfl (by omega) hBw ?_)
            intro v9 w9 ho9 hg9
            have HN : Hid (OK w9 wb.heap.size v9 (R ++ [tok D W C z i]) ∧ Below wb.heap.size wb w9) := ⟨by rw [HT.out]; exact ho9, grow_tok HBY.out (Nat.le_refl _) HALC.out hg9⟩
            clear ho9 hg9
            obtain ⟨a9, c9, hv9, _⟩ := HN.out.1.shape
            have HRL : Hid ((R ++ [tok D W C z i]).length ≤ i + 1) := by show _ ≤ _; rw [List.length_append, List.length_singleton]; omega
            have HSP : Hid ((R ++ [tok D W C z i]) ++ tks D W C z f (i + 1) = tkl D W C z) := by show _ = _; rw [← HSQ.out, HSY.out, List.append_assoc]; rfl
            have HIE : Hid (i + 1 ≤ D.length) := by have := HEN.out; rw [HSY.out] at this; exact this
            obtain ⟨R9, HR9⟩ : ∃ R9, Hid (R9 = R ++ [tok D W C z i]) := ⟨_, hide rfl⟩
            rw [← HR9.out] at HN HRL HSP hv9
            subst hv9
            clear HSQ HEN HT
            go_wp2
            go_roundw
            case rel => exact ⟨i + 1, f, R9, HIE.out, by have := HIE.out; omega, by go_num, HRL.out, HN.out.1, HN.out.2, HSP⟩
            case measure => simp [intOf]; omega
          · have g0 : ((l : Int) == 0) = false := by simp; omega
            have g1' : (0 : Int) < (l : Int) := by omega
            by_cases hz : z = true ∧ i + 1 < D.length
            · obtain ⟨rfl, hi1⟩ := hz
              have hi1' : (i : Int) + 1 < (D.length : Int) := by omega
              have HB4 := hide (HB2I.out hi1 w3 HB3.out)
              go_wp2_with fail
              refine HB4.out.mono ?_
              rintro e w4 ⟨rfl, b4⟩
              have HBY := hide (HB3.out.trans (b4.mono HB3.out.size))
              have bY0 := b3.trans (b4.mono b3.size)
              clear f1 f2 f3
              obtain ⟨f1, f2, f3⟩ := HC.out _ HBY.out
              obtain ⟨wY, hwY⟩ : ∃ wY, wY = w4 := ⟨_, rfl⟩
              rw [← hwY] at HBY bY0 f1 f2 f3 ⊢
              have bY := bY0
              clear hwY b4 HB4
              by_cases hll : l < l2
              · have HLT : Hid (Lit D W C true i) := HLI.out.2 (.inr ⟨by simp, hi1, hll⟩)
                have HT : Hid (tok D W C true i = (0, 0, zz)) := (HLD.out HLT.out).1
                have HSY : Hid (says (tok D W C true i) = 1) := (HLD.out HLT.out).2
                have cz := HCZ.out _ HBY.out
                have gll : (l : Int) < (l2 : Int) := by omega
                clear HLI HLD HCD HB2I
                have HALC : Hid (OK wY wb.heap.size (.slice a7 R.length c7) R) := HO.out.below bY (Nat.le_refl _)
                have hBw := HBY.out.size
                go_wp2_with (at_builtin; refine wpTok rfl _ _ rfl wb.heap.size (.slice a7 R.length c7) R 0 0 zz rfl HALC.out _ rfl (by omega) hBw ?_)
                intro v9 w9 ho9 hg9
                have HN : Hid (OK w9 wb.heap.size v9 (R ++ [tok D W C true i]) ∧ Below wb.heap.size wb w9) := ⟨by rw [HT.out]; exact ho9, grow_tok HBY.out (Nat.le_refl _) HALC.out hg9⟩
                clear ho9 hg9
                obtain ⟨a9, c9, hv9, _⟩ := HN.out.1.shape
                have HRL : Hid ((R ++ [tok D W C true i]).length ≤ i + 1) := by show _ ≤ _; rw [List.length_append, List.length_singleton]; omega
                have HSP : Hid ((R ++ [tok D W C true i]) ++ tks D W C true f (i + 1) = tkl D W C true) := by show _ = _; rw [← HSQ.out, HSY.out, List.append_assoc]; rfl
                have HIE : Hid (i + 1 ≤ D.length) := by have := HEN.out; rw [HSY.out] at this; exact this
                obtain ⟨R9, HR9⟩ : ∃ R9, Hid (R9 = R ++ [tok D W C true i]) := ⟨_, hide rfl⟩
                rw [← HR9.out] at HN HRL HSP hv9
                subst hv9
                clear HSQ HEN HT
                go_wp2
                go_roundw
                case rel => exact ⟨i + 1, f, R9, HIE.out, by have := HIE.out; omega, by go_num, HRL.out, HN.out.1, HN.out.2, HSP⟩
                case measure => simp [intOf]; omega
              · have HLT : Hid (¬ Lit D W C true i) := fun q => by
                  rcases HLI.out.1 q with q | q
                  · omega
                  · omega
                obtain ⟨q1, q2, q3⟩ := HCD.out HLT.out
                have HT : Hid (tok D W C true i = ((l : Int), (d : Int), 0)) := q1
                have HSY : Hid (says (tok D W C true i) = l) := q2
                have gll : ¬ (l : Int) < (l2 : Int) := by omega
                clear HLI HLD HCD HB2I q1 q2
                have HALC : Hid (OK wY wb.heap.size (.slice a7 R.length c7) R) := HO.out.below bY (Nat.le_refl _)
                have hBw := HBY.out.size
                go_wp2_with (at_builtin; refine wpTok rfl _ _ rfl wb.heap.size (.slice a7 R.length c7) R (l : Int) (d : Int) 0 rfl HALC.out _ rfl (by omega) hBw ?_)
                intro v9 w9 ho9 hg9
                have HN : Hid (OK w9 wb.heap.size v9 (R ++ [tok D W C true i]) ∧ Below wb.heap.size wb w9) := ⟨by rw [HT.out]; exact ho9, grow_tok HBY.out (Nat.le_refl _) HALC.out hg9⟩
                clear ho9 hg9
                obtain ⟨a9, c9, hv9, _⟩ := HN.out.1.shape
                have HRL : Hid ((R ++ [tok D W C true i]).length ≤ i + l) := by show _ ≤ _; rw [List.length_append, List.length_singleton]; omega
                have HSP : Hid ((R ++ [tok D W C true i]) ++ tks D W C true f (i + l) = tkl D W C true) := by show _ = _; rw [← HSQ.out, HSY.out, List.append_assoc]; rfl
                have HIE : Hid (i + l ≤ D.length) := by have := HEN.out; rw [HSY.out] at this; exact this
                obtain ⟨R9, HR9⟩ : ∃ R9, Hid (R9 = R ++ [tok D W C true i]) := ⟨_, hide rfl⟩
                rw [← HR9.out] at HN HRL HSP hv9
                subst hv9
                clear HSQ HEN HT
                go_wp2
                go_roundw
                case rel => exact ⟨i + l, f, R9, HIE.out, by have := HIE.out; omega, by go_num, HRL.out, HN.out.1, HN.out.2, HSP⟩
                case measure => simp [intOf]; omega
            · have HLT : Hid (¬ Lit D W C z i) := fun q => by
                rcases HLI.out.1 q with q | q
                · omega
                · exact hz ⟨q.1, q.2.1⟩
              obtain ⟨wY, hwY⟩ : ∃ wY, wY = w3 := ⟨_, rfl⟩
              rw [← hwY] at b3 HB3 f1 f2 f3 ⊢
              have bY := b3
              have HBY := hide HB3.out
              obtain ⟨q1, q2, q3⟩ := HCD.out HLT.out
              have HT : Hid (tok D W C z i = ((l : Int), (d : Int), 0)) := q1
              have HSY : Hid (says (tok D W C z i) = l) := q2
              clear hwY HLI HLD HCD HB2I q1 q2
              cases z with
              | false =>
                have HALC : Hid (OK wY wb.heap.size (.slice a7 R.length c7) R) := HO.out.below bY (Nat.le_refl _)
                have hBw := HBY.out.size
                go_wp2_with (at_builtin; refine wpTok rfl _ _ rfl wb.heap.size (.slice a7 R.length c7) R (l : Int) (d : Int) 0 rfl HALC.out _ rfl (by omega) hBw ?_)
                intro v9 w9 ho9 hg9
                have HN : Hid (OK w9 wb.heap.size v9 (R ++ [tok D W C false i]) ∧ Below wb.heap.size wb w9) := ⟨by rw [HT.out]; exact ho9, grow_tok HBY.out (Nat.le_refl _) HALC.out hg9⟩
                clear ho9 hg9
                obtain ⟨a9, c9, hv9, _⟩ := HN.out.1.shape
                have HRL : Hid ((R ++ [tok D W C false i]).length ≤ i + l) := by show _ ≤ _; rw [List.length_append, List.length_singleton]; omega
                have HSP : Hid ((R ++ [tok D W C false i]) ++ tks D W C false f (i + l) = tkl D W C false) := by show _ = _; rw [← HSQ.out, HSY.out, List.append_assoc]; rfl
                have HIE : Hid (i + l ≤ D.length) := by have := HEN.out; rw [HSY.out] at this; exact this
                obtain ⟨R9, HR9⟩ : ∃ R9, Hid (R9 = R ++ [tok D W C false i]) := ⟨_, hide rfl⟩
                rw [← HR9.out] at HN HRL HSP hv9
                subst hv9
                clear HSQ HEN HT
                go_wp2
                go_roundw
                case rel => exact ⟨i + l, f, R9, HIE.out, by have := HIE.out; omega, by go_num, HRL.out, HN.out.1, HN.out.2, HSP⟩
                case measure => simp [intOf]; omega
              | true =>
                have hi1' : ¬ (i : Int) + 1 < (D.length : Int) := fun q => hz ⟨rfl, by omega⟩
                have HALC : Hid (OK wY wb.heap.size (.slice a7 R.length c7) R) := HO.out.below bY (Nat.le_refl _)
                have hBw := HBY.out.size
                go_wp2_with (at_builtin; refine wpTok rfl _ _ rfl wb.heap.size (.slice a7 R.length c7) R (l : Int) (d : Int) 0 rfl HALC.out _ rfl (by omega) hBw ?_)
                intro v9 w9 ho9 hg9
                have HN : Hid (OK w9 wb.heap.size v9 (R ++ [tok D W C true i]) ∧ Below wb.heap.size wb w9) := ⟨by rw [HT.out]; exact ho9, grow_tok HBY.out (Nat.le_refl _) HALC.out hg9⟩
                clear ho9 hg9
                obtain ⟨a9, c9, hv9, _⟩ := HN.out.1.shape
                have HRL : Hid ((R ++ [tok D W C true i]).length ≤ i + l) := by show _ ≤ _; rw [List.length_append, List.length_singleton]; omega
                have HSP : Hid ((R ++ [tok D W C true i]) ++ tks D W C true f (i + l) = tkl D W C true) := by show _ = _; rw [← HSQ.out, HSY.out, List.append_assoc]; rfl
                have HIE : Hid (i + l ≤ D.length) := by have := HEN.out; rw [HSY.out] at this; exact this
                obtain ⟨R9, HR9⟩ : ∃ R9, Hid (R9 = R ++ [tok D W C true i]) := ⟨_, hide rfl⟩
                rw [← HR9.out] at HN HRL HSP hv9
                subst hv9
                clear HSQ HEN HT
                go_wp2
                go_roundw
                case rel => exact ⟨i + l, f, R9, HIE.out, by have := HIE.out; omega, by go_num, HRL.out, HN.out.1, HN.out.2, HSP⟩
                case measure => simp [intOf]; omega
        · obtain rfl : i = D.length := by omega
          have hlt' : ¬ (D.length : Int) < (D.length : Int) := by omega
          have HF : Hid (OK wr w.heap.size (.slice a7 R.length c7) (tL D (W : Int) (C : Int) z)) := by
            have := HQ.out
            have e0 : tks D W C z f D.length = [] := by cases f with
              | zero => rfl
              | succ f => simp [tks]
            rw [e0, List.append_nil] at this
            show OK _ _ _ _
            rw [HR.out.2, ← this]
            exact HO.out.base hbs
          go_wp2
          go_ret2
          rw [HR.out.1]
          exact ⟨_, rfl, HF.out, HFI.out _ HBR.out⟩
    · have HDD : Hid (dmn x y = false) := decide_eq_false h2
      rw [HDD.out]
      have HR := hide (tE_bad (D := D) (z := z) (fun q => h2 q.2))
      clear h2
      go_wp2
      go_ret2
      rw [HR.out.1, HR.out.2]
      exact ⟨_, rfl, OK.nil _ _, HFI.out _ HB2.out⟩
  · have g1 : (16777216 : Int) < (D.length : Int) := by omega
    have HR := hide (tE_bad (D := D) (x := x) (y := y) (z := z) (fun q => h1 q.1))
    go_wp2
    go_ret2
    rw [HR.out.1, HR.out.2]
    exact ⟨_, rfl, OK.nil _ _, HFI.out _ HB2.out⟩
end Go.Proofs.Ytecimcpaoobknab

