import Derived.Test.YtiabhmdefaabgabDoorGRx
import Derived.Laws.StructEq
import Derived.Test.YtiabhmdefaabgabDoorGMx3
namespace Go.Proofs.YtiabhmdefaabgabDoor
open Go.RowKit Go.Maps
set_option maxRecDepth 20000
set_option linter.unusedVariables false

theorem list2 {α : Type} {l : List α} (h : l.length = 2) : ∃ a b, l = [a, b] := by
  match l, h with
  | [a, b], _ => exact ⟨a, b, rfl⟩

set_option linter.unusedSimpArgs false
theorem run_st : Tryd.prog.underlying 87 = some (.struct (Tryd.prog.fieldsOf 87)) := by kernel_rfl
theorem run_held : Tryd.prog.stoodInHeld 87 = false := by kernel_rfl
theorem run_guard : Tryd.prog.eqGuardType Tryd.prog.depth 87 = false := by kernel_rfl
theorem run_fields : (Tryd.prog.fieldsOf 87).toList.map (fun f => (decide (f.name ≠ "_"), f.type, f.offset)) = [(true, 3, 0), (true, 3, 1)] := by kernel_rfl

theorem rn_eq (w : World) (a b c d : Int) : (Op.equalIn 10000 87 (.agg #[.int .i64 a, .int .i64 b]) (.agg #[.int .i64 c, .int .i64 d])).run Tryd.prog w = .ok (a == c && b == d) w := by
  rw [run_equalIn_struct w 9999 87 _ _ run_st run_held]
  have hf := run_fields
  obtain ⟨f, g, hfg⟩ := list2 (l := (Tryd.prog.fieldsOf 87).toList) (by have := congrArg List.length hf; simpa using this)
  rw [hfg] at hf ⊢
  · simp only [List.map_cons, List.map_nil, List.cons.injEq, Prod.mk.injEq, decide_eq_true_eq, and_true] at hf
    obtain ⟨⟨n1, t1, o1⟩, n2, t2, o2⟩ := hf
    simp only [Op.eqFields, if_pos n1, if_pos n2, t1, t2, o1, o2]
    have p1 : ∀ x y : Int, (part 3 #[.int .i64 x, .int .i64 y] 0).run Tryd.prog w = .ok (.int .i64 x) w := fun x y => by kernel_rfl
    have p2 : ∀ x y : Int, (part 3 #[.int .i64 x, .int .i64 y] 1).run Tryd.prog w = .ok (.int .i64 y) w := fun x y => by kernel_rfl
    have q : ∀ x y : Int, (Op.equalIn 9999 3 (.int .i64 x) (.int .i64 y)).run Tryd.prog w = .ok (x == y) w := fun x y => run_equalIn_int w 9998 3 .i64 .i64 x y Tryd.underlying3
    simp only [Sem.run_bind, p1, p2, q, Result.andThen_ok]
    by_cases e1 : a = c
    · subst e1
      by_cases e2 : b = d
      · subst e2; simp [p1, p2, q]
      · simp [p1, p2, q, e2]
    · simp [e1]

theorem rn_neq (w : World) (a b c d : Int) : (binOp .neq 87 (.agg #[.int .i64 a, .int .i64 b]) (.agg #[.int .i64 c, .int .i64 d])).run Tryd.prog w = .ok (.bool (!(a == c && b == d))) w := by
  rw [run_neq_struct, rn_eq]; rfl
theorem rn_eql (w : World) (a b c d : Int) : (binOp .eql 87 (.agg #[.int .i64 a, .int .i64 b]) (.agg #[.int .i64 c, .int .i64 d])).run Tryd.prog w = .ok (.bool (a == c && b == d)) w := by
  rw [run_eql_struct, rn_eq]; rfl

def eqR (l1 l2 : List Rn) : Bool := decide (l1 = l2)

theorem rtake_step {l1 l2 : List Rn} {k : Nat} (h1 : k < l1.length) (hl : l1.length = l2.length) (ht : l1.take k = l2.take k) :
    (l1.getD k rn0 = l2.getD k rn0 → l1.take (k + 1) = l2.take (k + 1)) ∧ (l1.getD k rn0 ≠ l2.getD k rn0 → l1 ≠ l2) := by
  refine ⟨fun h => ?_, fun h e => h (by rw [e])⟩
  rw [rn_snoc h1, rn_snoc (by omega), ht, h]

theorem alike_any (v1 v2 : Value) (l1 l2 : List Rn) (w : World) (h1 : SR w v1 l1) (h2 : SR w v2 l2) :
    Calls Tryd.prog 20 #[v1, v2] w fun e w' => e = .returned (.bool (eqR l1 l2)) ∧ ∃ n, w' = w.drewN n := by
  have H1 := hide h1
  have H2 := hide h2
  obtain ⟨ao1, cap1, rfl, hlc1, hcm1⟩ := h1.open
  obtain ⟨ao2, cap2, rfl, hlc2, hcm2⟩ := h2.open
  clear h1 h2
  by_cases hne : l1.length = l2.length
  case neg =>
    have hd : ((l1.length : Int) == l2.length) = false := by simp; omega
    have hd' : ((l1.length : Int) != l2.length) = true := by simp; omega
    have HE : Hid (eqR l1 l2 = false) := by show _ = _; simp [eqR]; intro h; exact hne (by rw [h])
    clear hne
    go_enter Tryd.func20, Tryd.ntmps20
    go_wp2
    go_ret
    rw [HE.out]
    exact ⟨rfl, 0, rfl⟩
  case pos =>
    have hd' : ((l1.length : Int) != l2.length) = false := by simp; omega
    have HNE : Hid (l1.length = l2.length) := hne
    clear hne
    go_enter Tryd.func20, Tryd.ntmps20
    go_wp2
    go_loopw [5] (fun i wr => ∃ k n : Nat, k ≤ l1.length ∧ i = .int .i64 k ∧ wr = w.drewN n ∧ Hid (l1.take k = l2.take k)) (fun i _ => l1.length - (intOf i).toNat)
    case atStart => exact ⟨0, 0, Nat.zero_le _, rfl, rfl, rfl⟩
    case round =>
      obtain ⟨k, n, hk, rfl, hw, HT⟩ := hrel
      subst hw
      by_cases hlt : k < l1.length
      · have hlt' : (k : Int) < (l1.length : Int) := by omega
        have hlt2 : (k : Int) < (l2.length : Int) := by have := HNE.out; omega
        obtain ⟨b1, o1, rfl, c1, c2⟩ := H1.out.get (w := w.drewN n) (below_drewN (Below.refl _ _) n) hlt
        obtain ⟨b2, o2, rfl, d1, d2⟩ := H2.out.get (w := w.drewN n) (below_drewN (Below.refl _ _) n) (k := k) (by have := HNE.out; omega)
        have HK := hide (rtake_step (k := k) hlt HNE.out HT.out)
        obtain ⟨x, hx⟩ : ∃ x, x = l1.getD k rn0 := ⟨_, rfl⟩
        obtain ⟨y, hy⟩ : ∃ y, y = l2.getD k rn0 := ⟨_, rfl⟩
        rw [← hx] at c1 c2 HK
        rw [← hy] at d1 d2 HK
        clear hx hy
        obtain ⟨xa, xb⟩ := x
        obtain ⟨ya, yb⟩ := y
        simp only at c1 c2 d1 d2
        have c1w : w.cell? ⟨b1, o1 + k * 2, none⟩ = some (.int .i64 xa) := c1
        have c2w : w.cell? ⟨b1, o1 + k * 2 + 1, none⟩ = some (.int .i64 xb) := c2
        have d1w : w.cell? ⟨b2, o2 + k * 2, none⟩ = some (.int .i64 ya) := d1
        have d2w : w.cell? ⟨b2, o2 + k * 2 + 1, none⟩ = some (.int .i64 yb) := d2
        have hnq := fun W => rn_neq W xa xb ya yb
        have hgd := run_guard
        by_cases hcc : xa = ya ∧ xb = yb
        · have hb : (!(xa == ya && xb == yb)) = false := by simp [hcc.1, hcc.2]
          have HK2 := hide (HK.out.1 (by rw [hcc.1, hcc.2]))
          rw [hb] at hnq
          clear hcc HK
          go_wp2
          go_quiet (fail)
          go_wp2
          go_roundw
          case rel => exact ⟨k + 1, _, by omega, by go_num, by (try simp only [World.drewN_drewN]); rfl, HK2⟩
          case measure => simp [intOf]; omega
        · have hb : (!(xa == ya && xb == yb)) = true := by
            simp only [Bool.not_eq_true', Bool.and_eq_false_iff, beq_eq_false_iff_ne]
            by_cases q : xa = ya
            · exact .inr (fun e => hcc ⟨q, e⟩)
            · exact .inl q
          have HX : Hid (eqR l1 l2 = false) := by show _ = _; simp only [eqR, decide_eq_false_iff_not]; exact HK.out.2 (fun e => hcc (by simpa using e))
          rw [hb] at hnq
          clear hcc HK
          go_wp2
          go_quiet (fail)
          go_wp2
          go_ret
          rw [HX.out]
          exact ⟨rfl, _, by (try simp only [World.drewN_drewN]); rfl⟩
      · obtain rfl : k = l1.length := by omega
        have hlt' : ¬ (l1.length : Int) < (l1.length : Int) := by omega
        have HX : Hid (eqR l1 l2 = true) := by
          show _ = _
          have := HT.out
          rw [List.take_of_length_le (Nat.le_refl _), List.take_of_length_le (by rw [← HNE.out]; exact Nat.le_refl _)] at this
          simp [eqR, this]
        go_wp2
        go_ret
        rw [HX.out]
        exact ⟨rfl, n, rfl⟩

theorem lnum_any (w : World) (x : Int) : Calls Tryd.prog 14 #[.int .i64 x] w fun e w' => e = .returned (.int .i64 x) ∧ w' = w := by
  go_enter Tryd.func14, Tryd.ntmps14
  go_wp2
  go_ret
  exact ⟨rfl, rfl⟩
end Go.Proofs.YtiabhmdefaabgabDoor

namespace Go.Proofs.YtiabhmdefaabgabDoor
open Go.RowKit Go.Maps
set_option maxRecDepth 20000
set_option linter.unusedVariables false

theorem eqR_self (l : List Rn) : eqR l l = true := by simp [eqR]
theorem eqI_self (l : List Int) : eqI l l = true := by simp [eqI]

theorem Spare.below {w w' : World} {v : Value} {n : Nat} (h : Spare w v n) (hb : Below w.heap.size w w') : Spare w' v n := by
  obtain ⟨g, rfl, h⟩ := h
  exact ⟨g, rfl, fun j hj => (hb.cell (World.block_lt_of_cell? w _ (h j hj))).trans (h j hj)⟩

end Go.Proofs.YtiabhmdefaabgabDoor

namespace Go.Proofs.YtiabhmdefaabgabDoor
open Go.RowKit Go.Maps
set_option maxRecDepth 20000
set_option linter.unusedVariables false

/-- What Make answers, in either case. -/
def Mrel (l d L D C : List Int) (R : List Rn) (Z : Int) : Prop := (mkE l d = 0 ∧ L = mkL l ∧ D = mkD d ∧ C = mkC l d ∧ R = mkR l d ∧ Z = mkZ l d) ∨ (mkE l d ≠ 0 ∧ L = [] ∧ D = [] ∧ C = [] ∧ R = [] ∧ Z = 0)

theorem mrel_one {l d L D C L' D' C' : List Int} {R R' : List Rn} {Z Z' : Int} (h : Mrel l d L D C R Z) (h' : Mrel l d L' D' C' R' Z') : L' = L ∧ D' = D ∧ C' = C ∧ R' = R ∧ Z' = Z := by
  rcases h with ⟨e, rfl, rfl, rfl, rfl, rfl⟩ | ⟨e, rfl, rfl, rfl, rfl, rfl⟩ <;> rcases h' with ⟨e', rfl, rfl, rfl, rfl, rfl⟩ | ⟨e', rfl, rfl, rfl, rfl, rfl⟩
  · exact ⟨rfl, rfl, rfl, rfl, rfl⟩
  · exact absurd e e'
  · exact absurd e' e
  · exact ⟨rfl, rfl, rfl, rfl, rfl⟩

def Mres (w w' : World) (l d : List Int) (e : Ending) : Prop := ∃ aL cL aD cD aC cC aR cR L D C R Z, Mrel l d L D C R Z ∧ e = .returned (.tuple #[.agg #[.slice aL L.length cL, .slice aD D.length cD, .slice aC C.length cC, .slice aR R.length cR, .int .i64 Z], .int .i64 (mkE l d)]) ∧ Mkd w' w.heap.size (.slice aL L.length cL) (.slice aD D.length cD) (.slice aC C.length cC) (.slice aR R.length cR) L D C R

theorem mres_of {w w' : World} {l d : List Int} {e : Ending} (h : (mkE l d ≠ 0 ∧ MkNo (mkE l d) e) ∨ (mkE l d = 0 ∧ MkYes w w' l d e)) : Mres w w' l d e := by
  rcases h with ⟨h, hn⟩ | ⟨h, vL, vD, vC, vR, he, hm⟩
  · exact ⟨none, 0, none, 0, none, 0, none, 0, [], [], [], [], 0, .inr ⟨h, rfl, rfl, rfl, rfl, rfl⟩, hn, World.ownsRow_nil _ _ _ _, World.ownsRow_nil _ _ _ _, World.ownsRow_nil _ _ _ _, OR.nil _ _⟩
  · obtain ⟨aL, cL, rfl⟩ := hm.l.shape
    obtain ⟨aD, cD, rfl⟩ := hm.d.shape
    obtain ⟨aC, cC, rfl⟩ := hm.c.shape
    obtain ⟨aR, cR, rfl, _⟩ := hm.r.shape
    exact ⟨aL, cL, aD, cD, aC, cC, aR, cR, _, _, _, _, _, .inl ⟨h, rfl, rfl, rfl, rfl, rfl⟩, by rw [he, h], hm⟩

set_option maxHeartbeats 4000000 in
theorem headerMakes_walk (v1 v2 : Value) (l d : List Int) (w : World) (s1 : SI w v1 l) (s2 : SI w v2 d) (T : Tab w) (O : Odr w) (X : Xodr w) (n1 : l.length ≤ 17592186044416) (n2 : d.length ≤ 17592186044416) :
    Calls Tryd.prog 5 #[v1, v2] w fun e w' => e = .returned (.bool true) ∧ Below w.heap.size w w' := by
  have H1 := hide s1
  have H2 := hide s2
  have HT := hide T
  have HO := hide O
  have HX := hide X
  obtain ⟨a1, c1, rfl, hc1, hd1⟩ := s1.open
  obtain ⟨a2, c2, rfl, hc2, hd2⟩ := s2.open
  clear s1 s2 T O X
  go_enter Tryd.func5, Tryd.ntmps5
  go_wp2_with fail
  refine (ints_any _ l w H1.out n1).mono ?_
  rintro e w2 ⟨v4, rfl, hv4, o4, b4⟩
  subst hv4
  have HB4 := hide b4
  have HO4 := hide o4
  clear o4 b4
  go_wp2_with fail
  refine (ints_any _ d w2 (H2.out.below HB4.out) n2).mono ?_
  rintro e w3 ⟨v5, rfl, hv5, o5, b5⟩
  subst hv5
  have HB5 := hide (HB4.out.trans (b5.mono HB4.out.size))
  have HI1 := hide (HO4.out.below b5 (Nat.le_refl _)).sb
  have HI2 := hide o5.sb
  have HMK := hide (make_any _ _ l d w3 HI1.out HI2.out (HT.out.mono HB5.out) (HO.out.mono HB5.out))
  clear o5 b5
  go_wp2_with fail
  refine HMK.out.mono ?_
  rintro e w4 ⟨hyn, b6⟩
  obtain ⟨aL, cL, aD, cD, aC, cC, aR, cR, L, D, C, R, Z, hrl, rfl, hmk⟩ := mres_of hyn
  have HRL := hide hrl
  have HB6 := hide (HB5.out.trans (b6.mono HB5.out.size))
  have HMD := hide hmk
  have HJ1 := hide (HI1.out.below b6)
  have HJ2 := hide (HI2.out.below b6)
  obtain ⟨E, HE⟩ : ∃ E, Hid (E = mkE l d) := ⟨_, rfl⟩
  rw [← HE.out]
  clear hyn hrl b6 hmk
  obtain ⟨wb, hwb⟩ : ∃ wb, w4.alloc (.cells #[.slice aL L.length cL, .slice aD D.length cD, .slice aC C.length cC, .slice aR R.length cR, .int .i64 Z] 26) = wb := ⟨_, rfl⟩
  have bb : Below w4.heap.size w4 wb := by rw [← hwb]; exact (Below.refl _ _).alloc (Nat.le_refl _) _
  have hbx : Hbox wb w4.heap.size (.slice aL L.length cL) (.slice aD D.length cD) (.slice aC C.length cC) (.slice aR R.length cR) (.int .i64 Z) := by rw [← hwb]; exact heap_alloc_new w4 _
  have HBX := hide hbx
  have HB7 := hide (HB6.out.trans (bb.mono HB6.out.size))
  have HM7 := hide (HMD.out.below bb)
  have HK1 := hide (HJ1.out.below bb)
  have HK2 := hide (HJ2.out.below bb)
  have HXM := hide (xmake_any _ _ l d wb (H1.out.below HB7.out) (H2.out.below HB7.out) (HX.out.mono HB7.out))
  have HWB := hide hwb
  clear hwb bb hbx
  go_wp2_with fail
  rw [HWB.out]
  refine HXM.out.mono ?_
  rintro e w5 ⟨hyn, b6⟩
  obtain ⟨bL, dL, bD, dD, bC, dC, bR, dR, L', D', C', R', Z', hrl, rfl, hmk⟩ := mres_of hyn
  obtain ⟨rfl, rfl, rfl, rfl, rfl⟩ := mrel_one HRL.out hrl
  rw [← HE.out]
  have HB8 := hide (HB7.out.trans (b6.mono HB7.out.size))
  have HN8 := hide hmk
  have HM8 := hide (HM7.out.below b6)
  have HBX8 := hide (HBX.out.below b6)
  have HL1 := hide (HK1.out.below b6)
  have HL2 := hide (HK2.out.below b6)
  clear hyn hrl b6 hmk
  obtain ⟨wc, hwc⟩ : ∃ wc, w5.alloc (.cells #[.slice bL L'.length dL, .slice bD D'.length dD, .slice bC C'.length dC, .slice bR R'.length dR, .int .i64 Z'] 26) = wc := ⟨_, rfl⟩
  have bb : Below w5.heap.size w5 wc := by rw [← hwc]; exact (Below.refl _ _).alloc (Nat.le_refl _) _
  have hbx : Hbox wc w5.heap.size (.slice bL L'.length dL) (.slice bD D'.length dD) (.slice bC C'.length dC) (.slice bR R'.length dR) (.int .i64 Z') := by rw [← hwc]; exact heap_alloc_new w5 _
  have HB9 := hide (HB8.out.trans (bb.mono HB8.out.size))
  have HBX9 := hide (HBX8.out.below bb)
  have HBY9 := hide hbx
  have HM9 := hide (HM8.out.below bb)
  have HN9 := hide (HN8.out.below bb)
  have HQ1 := hide (isame_any _ _ l l wc (HL1.out.below bb) (H1.out.below HB9.out))
  have HQ2 := hide (HL2.out.below bb)
  have HWC := hide hwc
  rw [eqI_self] at HQ1
  clear hwc bb hbx
  go_wp2_with fail
  rw [HWC.out]
  refine (lnum_any wc E).mono ?_
  rintro e w6 ⟨rfl, hw6⟩
  rw [hw6]
  clear hw6
  go_wp2_with fail
  refine HQ1.out.mono ?_
  rintro e w7 ⟨rfl, n7, hw7⟩
  have b7 : Below wc.heap.size wc w7 := by rw [hw7]; exact below_drewN (Below.refl _ _) n7
  have HBA := hide (HB9.out.trans (b7.mono HB9.out.size))
  have HR2 := hide (isame_any _ _ d d w7 (HQ2.out.below b7) (H2.out.below HBA.out))
  rw [eqI_self] at HR2
  have HC7 := hide b7
  clear hw7 b7
  go_wp2_with fail
  refine HR2.out.mono ?_
  rintro e w8 ⟨rfl, n8, hw8⟩
  have b8 : Below w7.heap.size w7 w8 := by rw [hw8]; exact below_drewN (Below.refl _ _) n8
  have HC8 := hide (HC7.out.trans (b8.mono HC7.out.size))
  have HQL := hide (isame_any _ _ L' L' w8 (HM9.out.l.sb.below HC8.out) (HN9.out.l.sb.below HC8.out))
  rw [eqI_self] at HQL
  obtain ⟨x0, x1, x2, x3, x4⟩ := (HBX9.out.below HC8.out).cells
  obtain ⟨y0, y1, y2, y3, y4⟩ := (HBY9.out.below HC8.out).cells
  clear hw8 b8
  go_wp2_with fail
  refine HQL.out.mono ?_
  rintro e w9 ⟨rfl, n9, hw9⟩
  have b9 : Below w8.heap.size w8 w9 := by rw [hw9]; exact below_drewN (Below.refl _ _) n9
  have HC9 := hide (HC8.out.trans (b9.mono HC8.out.size))
  have HQD := hide (isame_any _ _ D' D' w9 (HM9.out.d.sb.below HC9.out) (HN9.out.d.sb.below HC9.out))
  rw [eqI_self] at HQD
  clear hw9 b9 x0 x1 x2 x3 x4 y0 y1 y2 y3 y4
  obtain ⟨x0, x1, x2, x3, x4⟩ := (HBX9.out.below HC9.out).cells
  obtain ⟨y0, y1, y2, y3, y4⟩ := (HBY9.out.below HC9.out).cells
  go_wp2_with fail
  refine HQD.out.mono ?_
  rintro e w10 ⟨rfl, n10, hw10⟩
  have b10 : Below w9.heap.size w9 w10 := by rw [hw10]; exact below_drewN (Below.refl _ _) n10
  have HC10 := hide (HC9.out.trans (b10.mono HC9.out.size))
  have HQC := hide (isame_any _ _ C' C' w10 (HM9.out.c.sb.below HC10.out) (HN9.out.c.sb.below HC10.out))
  rw [eqI_self] at HQC
  clear hw10 b10 x0 x1 x2 x3 x4 y0 y1 y2 y3 y4
  obtain ⟨x0, x1, x2, x3, x4⟩ := (HBX9.out.below HC10.out).cells
  obtain ⟨y0, y1, y2, y3, y4⟩ := (HBY9.out.below HC10.out).cells
  go_wp2_with fail
  refine HQC.out.mono ?_
  rintro e w11 ⟨rfl, n11, hw11⟩
  have b11 : Below w10.heap.size w10 w11 := by rw [hw11]; exact below_drewN (Below.refl _ _) n11
  have HC11 := hide (HC10.out.trans (b11.mono HC10.out.size))
  have HQR := hide (alike_any _ _ R' R' w11 (HM9.out.r.sr.below HC11.out) (HN9.out.r.sr.below HC11.out))
  rw [eqR_self] at HQR
  clear hw11 b11 x0 x1 x2 x3 x4 y0 y1 y2 y3 y4
  obtain ⟨x0, x1, x2, x3, x4⟩ := (HBX9.out.below HC11.out).cells
  obtain ⟨y0, y1, y2, y3, y4⟩ := (HBY9.out.below HC11.out).cells
  go_wp2_with fail
  refine HQR.out.mono ?_
  rintro e w12 ⟨rfl, n12, hw12⟩
  have b12 : Below w11.heap.size w11 w12 := by rw [hw12]; exact below_drewN (Below.refl _ _) n12
  have HC12 := hide (HC11.out.trans (b12.mono HC11.out.size))
  have HBF := hide (HB9.out.trans (HC12.out.mono HB9.out.size))
  clear hw12 b12 x0 x1 x2 x3 x4 y0 y1 y2 y3 y4
  obtain ⟨x0, x1, x2, x3, x4⟩ := (HBX9.out.below HC12.out).cells
  obtain ⟨y0, y1, y2, y3, y4⟩ := (HBY9.out.below HC12.out).cells
  go_wp2
  go_ret
  exact ⟨rfl, HBF.out⟩
end Go.Proofs.YtiabhmdefaabgabDoor

