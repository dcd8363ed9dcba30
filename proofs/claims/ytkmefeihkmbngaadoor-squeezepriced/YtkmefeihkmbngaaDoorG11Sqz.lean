import Derived.Test.YtkmefeihkmbngaaDoorG10Sqy
import Derived.Test.YtkmefeihkmbngaaDoorG05OpenI
import Derived.Laws.CopyOwn
namespace Go.Proofs.YtkmefeihkmbngaaDoor
open Go.RowKit Go.Maps
set_option maxRecDepth 20000
set_option linter.unusedVariables false

theorem run_copy_g21 {P : Program} (w : World) (dT sT ty elem : TypeId) (hu : P.underlying dT = some (.slice elem)) (hsz : (P.info? elem).map (·.size) = some 1) (dp sp : Option Addr) (dLen dCap sLen sCap : Nat)
    (g off : Nat) (cur : List Value) (t : TypeId) (hg : w.heap[g]? = some (.cells cur.toArray t (0, 0))) (cs : List Value) (hn : cs.length = Nat.min sLen dLen)
    (hpos : 0 < cs.length → dp = some ⟨g, off, none⟩ ∧ ∃ ad, sp = some ad ∧ ∀ j v, cs[j]? = some v → w.cell? (ad.add j) = some v) (hfit : off + cs.length ≤ cur.length) (h1 : ∀ v ∈ cs, v.oneCell' = true) :
    ∃ w', (Builtin.copy_ #[dT, sT] ty #[.slice dp dLen dCap, .slice sp sLen sCap]).run P w = .ok (goInt cs.length) w' ∧ w'.heap[g]? = some (.cells (splice cur off cs).toArray t (0, 0)) ∧ w.grownBy w' (some g) := by
  by_cases h0 : cs.length = 0
  · obtain rfl : cs = [] := List.eq_nil_of_length_eq_zero h0
    exact ⟨w, run_copy_none (P := P) w dT sT ty elem dp sp dLen dCap sLen sCap hu hsz (by simpa using hn.symm), by rw [hg]; simp [splice], ⟨rfl, rfl, rfl, Nat.le_refl _, fun _ _ _ => rfl⟩⟩
  · obtain ⟨rfl, ad, rfl, hsrc⟩ := hpos (by omega)
    exact ⟨_, run_copy_row (P := P) w dT sT ty elem g off dLen dCap ad sLen sCap cur.toArray t cs hu hsz hg hn hsrc (by simpa using hfit) h1, by simpa [splice] using setRow_heap w g _ _ t _ hg, ⟨rfl, rfl, rfl, by simp, fun k _ hk => setRow_other w g k _ (fun e => hk (by rw [e]))⟩⟩

theorem wpList_copyI {w : World} {ops : Array Oper} {rest : List Oper} {o : Oper} {a : Act} {Q : Exit → Act → World → Prop} (hgd : o.guard = none) (d s : Operand)
    (ho : o.op = .call { callee := .builtin .copy, args := #[d, s], argTypes := #[23, 23] }) (g : Nat) (v : Value) (l : List Int) (hd : a.eval d = .slice (some ⟨g, 0, none⟩) l.length l.length) (hs : a.eval s = v) (hsp : SI w v l)
    (hg : w.heap[g]? = some (.cells (List.replicate l.length (Value.int .i64 0)).toArray 3 (0, 0)))
    (h : ∀ w', w'.heap[g]? = some (.cells (l.map (Value.int .i64)).toArray 3 (0, 0)) → w.grownBy w' (some g) → wpList Tryd.prog ops Q rest (a.put o.dst (goInt l.length)) w') :
    wpList Tryd.prog ops Q (o :: rest) a w := by
  obtain ⟨ao, cap, rfl, h1, h2, h3, h4⟩ := hsp
  obtain ⟨w', hrun, h5, h6⟩ := run_copy_g21 (P := Tryd.prog) w 23 23 o.type 3 Tryd.underlying23 sizeInt (some ⟨g, 0, none⟩) ao l.length l.length l.length cap g 0 _ 3 hg (l.map (Value.int .i64)) (by simp)
    (fun hp => ⟨rfl, by
      cases ao with
      | none => have := h3 rfl; simp at hp; omega
      | some x =>
        refine ⟨x, rfl, fun j u hj => ?_⟩
        have hl : j < l.length := by have := (List.getElem?_eq_some_iff.1 hj).1; simpa using this
        have := h4 x rfl j hl
        rw [this]
        rw [List.getElem?_map, List.getElem?_eq_getElem hl] at hj
        rw [List.getD_eq_getElem?_getD, List.getElem?_eq_getElem hl]
        simpa using hj⟩) (by simp) (by simp [Value.oneCell'])
  refine wpList_plain hgd fun K hK => ?_
  unfold Oper.wp
  simp [execOp, ho, resolve, invoke, builtin, hd, hs, hrun, Result.andThen]
  refine hK _ _ (h w' ?_ h6)
  rw [h5]
  simp [splice]

theorem ints_any (v : Value) (l : List Int) (w : World) (h : SI w v l) (hn : l.length ≤ 17592186044416) :
    Calls Tryd.prog 6 #[v] w fun e w' => ∃ u, e = .returned u ∧ OI w' w.heap.size u l ∧ Below w.heap.size w w' := by
  have HV := hide h
  obtain ⟨a2, c2, rfl, _, _⟩ := h.open
  clear h
  go_enter Tryd.func6, Tryd.ntmps6
  go_wp2_with (at_make; refine wpList_mkI rfl _ _ rfl _ _ _ _ l.length l.length rfl rfl rfl rfl (Nat.le_refl _) (by omega) ?_)
  intro w1 hg1 hb1
  have hV1 := HV.out.below hb1
  go_wp2_with (refine wpList_copyI rfl _ _ rfl w.heap.size (.slice a2 l.length c2) l rfl rfl hV1 hg1 ?_)
  intro w2 hg2 hgr
  have HB2 : Hid (Below w.heap.size w w2) := hb1.grown hgr hb1.size (fun j hj => by cases hj; exact Nat.le_refl _)
  have HGV : Hid (OI w2 w.heap.size (.slice (some ⟨w.heap.size, 0, none⟩) l.length l.length) l) := OI.of_full hg2 (Nat.le_refl _) (by unfold maxLen; omega)
  clear hg1 hb1 hV1 hg2 hgr
  go_wp2
  go_ret
  exact ⟨_, rfl, HGV.out, HB2.out⟩

theorem priced_walk (v vl vd : Value) (R : List Tk) (L D : List Int) (w : World) (h : SK w v R) (hb : ∀ t ∈ R, Bt t) (hn : R.length ≤ 5864062014800) (h1 : SI w vl L) (h2 : SI w vd D) (n1 : L.length ≤ 17592186044416) (n2 : D.length ≤ 17592186044416) (T : Ltab w ∧ Dtab w) :
    Calls Tryd.prog 3 #[v, vl, vd] w fun e w' => e = .returned (.bool true) ∧ Below w.heap.size w w' := by
  have HS := hide h
  have HS1 := hide h1
  have HS2 := hide h2
  have HT := hide T
  have HBT := hide hb
  obtain ⟨ao, cap, rfl, hlc, hcm⟩ := h.open
  obtain ⟨a1, c1, rfl, _, _⟩ := h1.open
  obtain ⟨a2, c2, rfl, _, _⟩ := h2.open
  have HL := hide (list_any _ R w h (by omega))
  have HNM := hide (fun x w0 => num_any x w0)
  clear h hb T h1 h2
  go_enter Tryd.func3, Tryd.ntmps3
  go_wp2_with fail
  refine HL.out.mono ?_
  rintro e w1 ⟨u, rfl, o1, b1⟩
  have hsk := o1.sk
  obtain ⟨ac, cc, rfl, _, _⟩ := hsk.open
  have HO1 := hide hsk
  have HB1 := hide b1
  have HI1 := hide (ints_any _ L w1 (HS1.out.below b1) n1)
  clear o1 b1 hsk HL
  go_wp2_with fail
  refine HI1.out.mono ?_
  rintro e w2 ⟨u, rfl, o2, b2⟩
  have hs2 := o2.sb
  obtain ⟨ad, cd, rfl, _, _⟩ := hs2.open
  have HO2 := hide (HO1.out.below b2)
  have HP2 := hide hs2
  have HB2 := hide (HB1.out.trans (b2.mono HB1.out.size))
  have HI2 := hide (ints_any _ D w2 (HS2.out.below HB2.out) n2)
  clear o2 b2 hs2 HI1 HO1 HB1
  go_wp2_with fail
  refine HI2.out.mono ?_
  rintro e w3 ⟨u, rfl, o3, b3⟩
  have hs3 := o3.sb
  obtain ⟨ae, ce, rfl, _, _⟩ := hs3.open
  have HO3 := hide (HO2.out.below b3)
  have HP3 := hide (HP2.out.below b3)
  have HQ3 := hide hs3
  have HB3 := hide (HB2.out.trans (b3.mono HB2.out.size))
  have HC := hide (qPrice_any _ _ _ R L D w3 HO3.out HBT.out HP3.out HQ3.out ⟨HT.out.1.low HB3.out, HT.out.2.low HB3.out⟩)
  clear o3 b3 hs3 HI2 HO2 HP2 HB2
  go_wp2_with fail
  refine HC.out.mono ?_
  rintro e w4 ⟨he, b4⟩
  unfold Prq at he
  subst he
  have HB4 := hide (HB3.out.trans (b4.mono HB3.out.size))
  have HO4 := hide (HO3.out.below b4)
  have HP4 := hide (HP3.out.below b4)
  have HQ4 := hide (HQ3.out.below b4)
  have HX := hide (vPrice_any _ _ _ R L D w4 (HS.out.below HB4.out) HBT.out (HS1.out.below HB4.out) (HS2.out.below HB4.out))
  clear b4 HC HO3 HP3 HQ3 HB3
  go_wp2_with fail
  refine HX.out.mono ?_
  rintro e w5 ⟨he, b5⟩
  unfold Prq at he
  subst he
  have HB5 := hide (HB4.out.trans (b5.mono HB4.out.size))
  have HO5 := hide (HO4.out.below b5)
  have HP5 := hide (HP4.out.below b5)
  have HQ5 := hide (HQ4.out.below b5)
  have HS5 := hide (HS.out.below HB5.out)
  have HU5 := hide (HS1.out.below HB5.out)
  have HV5 := hide (HS2.out.below HB5.out)
  obtain ⟨E, hE⟩ : ∃ E, prE R L D = E := ⟨_, rfl⟩
  obtain ⟨V, hV⟩ : ∃ E, prV R L D = E := ⟨_, rfl⟩
  rw [hE, hV]
  clear b5 HX HO4 HP4 HQ4 HB4 hE hV HS HS1 HS2
  go_wp2_with fail
  refine (HNM.out _ _).mono ?_
  rintro e w6 ⟨rfl, hw6⟩
  subst hw6
  have HQA := hide (alike_any _ _ _ _ _ HO5.out HS5.out)
  rw [show eqK R R = true by simp [eqK]] at HQA
  go_wp2_with fail
  refine HQA.out.mono ?_
  rintro e w7 ⟨rfl, n7, hw7⟩
  subst hw7
  have HQB := hide (isame_any _ _ _ _ _ (HP5.out.below (below_drewN (Below.refl _ _) n7)) (HU5.out.below (below_drewN (Below.refl _ _) n7)))
  rw [eqI_self] at HQB
  go_wp2_with fail
  refine HQB.out.mono ?_
  rintro e w8 ⟨rfl, n8, hw8⟩
  subst hw8
  have HQC := hide (isame_any _ _ _ _ _ (HQ5.out.below (below_drewN (Below.refl _ _) (n7 + n8))) (HV5.out.below (below_drewN (Below.refl _ _) (n7 + n8))))
  rw [eqI_self] at HQC
  go_wp2_with fail
  refine HQC.out.mono ?_
  rintro e w9 ⟨rfl, n9, hw9⟩
  subst hw9
  have HB7 := hide (fun m => below_drewN HB5.out m)
  clear HQA HQB HQC
  go_wp2
  go_ret
  exact ⟨rfl, HB7.out _⟩
end Go.Proofs.YtkmefeihkmbngaaDoor

