import Derived.Test.YtpmgnpfpnkmmbaaGreatDoorG44Wka
namespace Go.Proofs.YtpmgnpfpnkmmbaaGreatDoor
open Go.RowKit Go.Maps
set_option maxRecDepth 20000
set_option linter.unusedVariables false
set_option linter.unusedSimpArgs false

/-- The first k blocks of a row are marks. -/
def Mkd8 (w : World) (B : Nat) (v : Value) (n k : Nat) (m : Int) : Prop := ∃ R : List (Array Value), ORp 54 6 w B v R ∧ R.length = n ∧ ∀ i, i < k → R.getD i #[] = mkp m

theorem Mkd8.move {w w' : World} {B : Nat} {v : Value} {n k : Nat} {m : Int} (h : Mkd8 w B v n k m) (hb : ∀ j, v.ownBlock = some j → w'.heap[j]? = w.heap[j]?) : Mkd8 w' B v n k m := by
  obtain ⟨R, h1, h2⟩ := h
  exact ⟨R, h1.move hb, h2⟩

theorem Mkd8.put {w : World} {B g c n k : Nat} {m : Int} (h : Mkd8 w B (.slice (some ⟨g, 0, none⟩) n c) n k m) (hk : k < n) : Mkd8 (w.setCells g (k * 6) (mkp m).toList) B (.slice (some ⟨g, 0, none⟩) n c) n (k + 1) m ∧ Bx g w (w.setCells g (k * 6) (mkp m).toList) := by
  obtain ⟨R, h1, h2, h3⟩ := h
  have := h1.put6 (k := k) (by omega) m
  refine ⟨⟨R.set k (mkp m), this.1, by rw [List.length_set]; exact h2, fun i hi => ?_⟩, this.2⟩
  by_cases e : i = k
  · subst e; rw [List.getD_eq_getElem?_getD, List.getElem?_set_self (by omega)]; rfl
  · rw [List.getD_eq_getElem?_getD, List.getElem?_set_ne (fun q => e q.symm), ← List.getD_eq_getElem?_getD]; exact h3 i (by omega)

theorem Mkd8.shape {w : World} {B : Nat} {v : Value} {n k : Nat} {m : Int} (h : Mkd8 w B v n k m) : ∃ a c, v = .slice a n c ∧ n ≤ c ∧ c ≤ 9223372036854775807 ∧ (0 < n → ∃ g, a = some ⟨g, 0, none⟩) := by
  obtain ⟨R, h1, h2, h3⟩ := h
  obtain ⟨a, c, e1, e2, e3⟩ := h1.shape
  rw [h2] at e1 e2
  refine ⟨a, c, e1, e2, e3, fun h0 => ?_⟩
  obtain ⟨g, c', e4, -⟩ := h1.at6 (k := 0) (by omega)
  rw [e1] at e4
  simp only [Value.slice.injEq] at e4
  exact ⟨g, e4.1⟩

theorem Bx.belowB {B g : Nat} {w0 w w' : World} (h : Bx g w w') (hb : Below B w0 w) (hlo : B ≤ g) (hB : B ≤ w.heap.size) : Below B w0 w' :=
  ⟨h.os.trans hb.os, h.tape.trans hb.tape, h.output.trans hb.output, Nat.le_trans hb.size h.size, fun k hk => (h.block k (by omega) (by omega)).trans (hb.block k hk)⟩

theorem pcs8 : (Tryz.prog.info? 54).map (·.size) = some 6 := by kernel_rfl

theorem mkp_one (m : Int) : (mkp m).all (·.oneCell') = true := by simp [Value.oneCell']

theorem wpList_storePc {ops : Array Oper} {rest : List Oper} {op : Oper} {a : Act} {w : World} {Q : Exit → Act → World → Prop} (hgd : op.guard = none) (x y : Operand) (ho : op.op = .store 54 x y) (g c n k B : Nat) (m : Int) (hx : a.eval x = .pointer (some ⟨g, k * 6, none⟩)) (hy : a.eval y = .agg (mkp m))
    (h : Mkd8 w B (.slice (some ⟨g, 0, none⟩) n c) n k m) (hk : k < n) (hK : ∀ w', Hid (Mkd8 w' B (.slice (some ⟨g, 0, none⟩) n c) n (k + 1) m) → Hid (Bx g w w') → wpList Tryz.prog ops Q rest (a.put op.dst undef) w') : wpList Tryz.prog ops Q (op :: rest) a w := by
  have hp := h.put hk
  refine wpList_store_mid hgd 54 x y ho g (k * 6) (mkp m) hx hy ?_ pcs8 (mkp_one m) (hK _ hp.1 hp.2)
  obtain ⟨R, hR, hl, -⟩ := h
  obtain ⟨g', c', e, -, -, -, ht⟩ := hR.at6 (k := k) (by omega)
  simp only [Value.slice.injEq, Option.some.injEq, Addr.mk.injEq] at e
  rw [e.1.1]; exact ht

set_option maxHeartbeats 8000000 in
theorem apartPieces_any (v1 v2 : Value) (n1 n2 : Nat) (w : World) (B : Nat) (h1 : Mkd8 w B v1 n1 0 9) (h2 : Mkd8 w B v2 n2 0 8) (hap : ∀ k, v1.ownBlock = some k → v2.ownBlock ≠ some k) (hB : B ≤ w.heap.size) (hl1 : n1 ≤ 268435456) (hl2 : n2 ≤ 268435456) :
    Calls Tryz.prog 13 #[v1, v2] w fun e w' => e = .returned (.bool true) ∧ Below B w w' := by
  obtain ⟨a1, c1, e1, s1, s2, s3⟩ := h1.shape
  obtain ⟨a2, c2, e2, u1, u2, u3⟩ := h2.shape
  subst e1 e2
  have H1 := hide h1
  have H2 := hide h2
  have HAP := hide hap
  have HB := hide hB
  have HS3 := hide s3
  have HU3 := hide u3
  clear h1 h2 hap s3 u3 hB
  go_enter Tryz.func13, Tryz.ntmps13
  go_wp2
  go_loopw [5] (fun i wr => ∃ k : Nat, i = .int .i64 k ∧ k ≤ n1 ∧ Hid (Mkd8 wr B (.slice a1 n1 c1) n1 k 9) ∧ Hid (Mkd8 wr B (.slice a2 n2 c2) n2 0 8) ∧ Hid (Below B w wr)) (fun i _ => n1 - (intOf i).toNat)
  case atStart => exact ⟨0, rfl, Nat.zero_le _, H1, H2, Below.refl _ _⟩
  case round =>
    obtain ⟨k, rfl, hk, HA, HC, HW⟩ := hrel
    by_cases hlt : k < n1
    · have hlt' : (k : Int) < (n1 : Int) := by omega
      obtain ⟨g, rfl⟩ := HS3.out (by omega)
      go_wp2_with (refine wpList_storePc rfl _ _ rfl g c1 n1 k B 9 rfl rfl HA.out hlt ?_; intro wn HP1 HP2)
      have HNX : Hid (Mkd8 wn B (.slice a2 n2 c2) n2 0 8 ∧ Below B w wn) := by
        have hg : B ≤ g ∧ g < wr.heap.size := by obtain ⟨R, hR, -⟩ := HA.out; exact hR.lt g rfl
        have hbs : B ≤ wr.heap.size := by omega
        refine ⟨HC.out.move fun j hj => HP2.out.block j ?_ (fun e => ?_), HP2.out.belowB HW.out hg.1 hbs⟩
        · obtain ⟨R, hR, -⟩ := HC.out; exact (hR.lt j hj).2
        · subst e; exact HAP.out j rfl hj
      go_roundw
      case rel => exact ⟨k + 1, by go_num, by omega, HP1, HNX.out.1, HNX.out.2⟩
      case measure => simp [intOf]; omega
    · have hlt' : ¬ (k : Int) < (n1 : Int) := by omega
      obtain rfl : k = n1 := by omega
      clear H1 H2
      obtain ⟨wa, hwa⟩ : ∃ wa, wa = wr := ⟨_, rfl⟩
      subst hwa
      go_wp2
      go_loopw [6] (fun i wr => ∃ q : Nat, i = .int .i64 q ∧ q ≤ n2 ∧ Hid (Mkd8 wr B (.slice a1 k c1) k k 9) ∧ Hid (Mkd8 wr B (.slice a2 n2 c2) n2 q 8) ∧ Hid (Below B w wr)) (fun i _ => n2 - (intOf i).toNat)
      case atStart => exact ⟨0, rfl, Nat.zero_le _, HA, HC, HW⟩
      case round =>
        obtain ⟨q, rfl, hq, HA2, HC2, HW2⟩ := hrel
        clear HA HC HW
        by_cases hlt2 : q < n2
        · have hlt2' : (q : Int) < (n2 : Int) := by omega
          obtain ⟨g, rfl⟩ := HU3.out (by omega)
          go_wp2_with (refine wpList_storePc rfl _ _ rfl g c2 n2 q B 8 rfl rfl HC2.out hlt2 ?_; intro wn HP1 HP2)
          have HNX : Hid (Mkd8 wn B (.slice a1 k c1) k k 9 ∧ Below B w wn) := by
            have hg : B ≤ g ∧ g < wr.heap.size := by obtain ⟨R, hR, -⟩ := HC2.out; exact hR.lt g rfl
            have hbs : B ≤ wr.heap.size := by omega
            refine ⟨HA2.out.move fun j hj => HP2.out.block j ?_ (fun e => ?_), HP2.out.belowB HW2.out hg.1 hbs⟩
            · obtain ⟨R, hR, -⟩ := HA2.out; exact (hR.lt j hj).2
            · subst e; exact HAP.out j hj rfl
          go_roundw
          case rel => exact ⟨q + 1, by go_num, by omega, HNX.out.1, HP1, HNX.out.2⟩
          case measure => simp [intOf]; omega
        · have hlt2' : ¬ (q : Int) < (n2 : Int) := by omega
          obtain rfl : q = n2 := by omega
          obtain ⟨R1, hR1, hn1, hm1⟩ := HA2.out
          obtain ⟨R2, hR2, hn2, hm2⟩ := HC2.out
          have HR1 := hide hR1
          have HR2 := hide hR2
          have HN1 := hide hn1
          have HN2 := hide hn2
          have HM1 := hide hm1
          have HM2 := hide hm2
          have HBr : Hid (B ≤ wr.heap.size) := by show _ ≤ _; exact Nat.le_trans HB.out (HW2.out.size)
          have HL1 : Hid (R1.length ≤ 268435456) := by show _ ≤ _; rw [hn1]; omega
          have HL2 : Hid (R2.length ≤ 268435456) := by show _ ≤ _; rw [hn2]; omega
          clear hR1 hR2 hn1 hn2 hm1 hm2 HA2 HC2
          obtain ⟨wb, hwb⟩ : ∃ wb, wb = wr := ⟨_, rfl⟩
          subst hwb
          go_wp2_with (at_builtin; refine wpList_appP rfl _ _ rfl B _ _ R1 (mkp 5) rfl rfl (HR1.out.alloc _) rfl (built_srcP wb 5) HL1.out (by rw [size_alloc']; have := HBr.out; omega) ?_)
          intro v3 w3 ho3 hg3
          have HW3 : Hid (Below B w w3) := (HW2.out.alloc HBr.out _).grown hg3.by (by rw [size_alloc']; have := HBr.out; omega) (fun j hj => (HR1.out.lt j hj).1)
          have HR2n : Hid (ORp 54 6 w3 B (.slice a2 q c2) R2) := (HR2.out.alloc _).move fun j hj => hg3.by.block j ((HR2.out.alloc _).lt j hj).2 (fun e => HAP.out j e.symm hj)
          have HB3 : Hid (B ≤ w3.heap.size) := by show _ ≤ _; have := hg3.by.size; rw [size_alloc'] at this; have := HBr.out; omega
          have HOL : Hid (∀ i, i < k → ∃ g, a1 = some ⟨g, 0, none⟩ ∧ w3.cell? ⟨g, i * 6, none⟩ = some (.int .i64 9)) := fun i hi => by
            obtain ⟨g, c, e, -, -, hc⟩ := (HR1.out.alloc _).old ho3 hg3 (k := i) (by rw [HN1.out]; exact hi)
            simp only [Value.slice.injEq] at e
            refine ⟨g, e.1, ?_⟩
            rw [hc, HM1.out i hi]; rfl
          obtain ⟨a3, c3, e3, s31, s32⟩ := ho3.shape
          have el3 : (R1 ++ [mkp 5]).length = k + 1 := by rw [List.length_append, HN1.out]; rfl
          rw [el3] at e3 s31
          subst e3
          have HO3 := hide ho3
          have HLO : Hid (∀ j, (Value.slice a3 (k + 1) c3).ownBlock = some j → (Value.slice a2 q c2).ownBlock ≠ some j) := fun j hj hj2 => by
            rcases hg3.at with e | e
            · rw [hj] at e; simp only [Option.some.injEq] at e; have := (HR2.out.lt j hj2).2; rw [size_alloc'] at e; omega
            · rw [hj] at e; exact HAP.out j e.symm hj2
          have HL5 : Hid (∃ g, a3 = some ⟨g, 0, none⟩ ∧ w3.cell? ⟨g, k * 6, none⟩ = some (.int .i64 5)) := by
            obtain ⟨g, c, e, -, -, hc, -⟩ := ho3.at6 (k := k) (by rw [el3]; omega)
            simp only [Value.slice.injEq] at e
            refine ⟨g, e.1, ?_⟩
            have := hc 0 (by omega)
            rw [Nat.add_zero] at this
            rw [this]
            have eg : (R1 ++ [mkp 5]).getD k #[] = mkp 5 := by rw [List.getD_eq_getElem?_getD, List.getElem?_append_right (by rw [HN1.out]; exact Nat.le_refl _), HN1.out, Nat.sub_self]; rfl
            rw [eg]; rfl
          have HGL : Hid (∀ (g i : Nat) (u : Value) (ww : World), w3.cell? ⟨g, i, none⟩ = some u → (Value.slice a2 q c2).ownBlock ≠ some g → (w3.alloc (.cells #[.int .i64 6, .bool false, .int .i64 0, .int .i64 0, .int .i64 0, .int .i64 0] 54)).grownBy ww (Value.slice a2 q c2).ownBlock → ww.cell? ⟨g, i, none⟩ = some u) := fun g i u ww hu hne hgr => by
            have hlt := World.block_lt_of_cell? _ _ hu
            have e1 : ww.heap[g]? = w3.heap[g]? := (hgr.block g (by rw [size_alloc']; exact Nat.lt_succ_of_lt hlt) (fun e => hne e.symm)).trans (Below.heap_alloc w3 _ g hlt)
            exact (World.cell?_of_block e1).trans hu
          clear ho3 hg3 el3 HW2 HR2 HR1 HBr
          go_wp2_with (at_builtin; refine wpList_appP rfl _ _ rfl B _ _ R2 (mkp 6) rfl rfl (HR2n.out.alloc _) rfl (built_srcP w3 6) HL2.out (by rw [size_alloc']; have := HB3.out; omega) ?_)
          intro v4 w4 ho4 hg4
          have HW4 : Hid (Below B w w4) := (HW3.out.alloc HB3.out _).grown hg4.by (by rw [size_alloc']; have := HB3.out; omega) (fun j hj => (HR2n.out.lt j hj).1)
          have HOL4 : Hid (∀ i, i < k → ∃ g, a1 = some ⟨g, 0, none⟩ ∧ w4.cell? ⟨g, i * 6, none⟩ = some (.int .i64 9)) := fun i hi => by
            obtain ⟨g, rfl, hc⟩ := HOL.out i hi
            exact ⟨g, rfl, HGL.out g _ _ w4 hc (HAP.out g rfl) hg4.by⟩
          have HOM4 : Hid (∀ i, i < q → ∃ g, a2 = some ⟨g, 0, none⟩ ∧ w4.cell? ⟨g, i * 6, none⟩ = some (.int .i64 8)) := fun i hi => by
            obtain ⟨g, c, e, -, -, hc⟩ := (HR2n.out.alloc _).old ho4 hg4 (k := i) (by rw [HN2.out]; exact hi)
            simp only [Value.slice.injEq] at e
            refine ⟨g, e.1, ?_⟩
            rw [hc, HM2.out i hi]; rfl
          obtain ⟨a4, c4, e4, s41, s42⟩ := ho4.shape
          have el4 : (R2 ++ [mkp 6]).length = q + 1 := by rw [List.length_append, HN2.out]; rfl
          rw [el4] at e4 s41
          subst e4
          have HL6 : Hid (∃ g, a4 = some ⟨g, 0, none⟩ ∧ w4.cell? ⟨g, q * 6, none⟩ = some (.int .i64 6)) := by
            obtain ⟨g, c, e, -, -, hc, -⟩ := ho4.at6 (k := q) (by rw [el4]; omega)
            simp only [Value.slice.injEq] at e
            refine ⟨g, e.1, ?_⟩
            have := hc 0 (by omega)
            rw [Nat.add_zero] at this
            rw [this]
            have eg : (R2 ++ [mkp 6]).getD q #[] = mkp 6 := by rw [List.getD_eq_getElem?_getD, List.getElem?_append_right (by rw [HN2.out]; exact Nat.le_refl _), HN2.out, Nat.sub_self]; rfl
            rw [eg]; rfl
          have HL54 : Hid (∃ g, a3 = some ⟨g, 0, none⟩ ∧ w4.cell? ⟨g, k * 6, none⟩ = some (.int .i64 5)) := by
            obtain ⟨g, rfl, hc⟩ := HL5.out
            exact ⟨g, rfl, HGL.out g _ _ w4 hc (HLO.out g rfl) hg4.by⟩
          clear ho4 hg4 el4 HGL HOL HL5 HR2n HW3
          obtain ⟨g3, rfl, k5⟩ := HL54.out
          obtain ⟨g4, rfl, k6⟩ := HL6.out
          clear HL54 HL6
          go_wp2
          go_loopw [9] (fun i wr => ∃ j : Nat, i = .int .i64 j ∧ j ≤ k ∧ wr = w4) (fun i _ => k - (intOf i).toNat)
          case atStart => exact ⟨0, rfl, Nat.zero_le _, rfl⟩
          case round =>
            obtain ⟨j, rfl, hj, hwr⟩ := hrel
            subst hwr
            by_cases hltj : j < k
            · have hltj' : (j : Int) < (k : Int) := by omega
              obtain ⟨g, rfl, hc⟩ := HOL4.out j hltj
              go_wp2
              go_roundw
              case rel => exact ⟨j + 1, by go_num, by omega, trivial⟩
              case measure => simp [intOf]; omega
            · have hltj' : ¬ (j : Int) < (k : Int) := by omega
              go_wp2
              go_loopw [10] (fun i wq => ∃ j : Nat, i = .int .i64 j ∧ j ≤ q ∧ wq = wr) (fun i _ => q - (intOf i).toNat)
              case atStart => exact ⟨0, rfl, Nat.zero_le _, rfl⟩
              case round =>
                obtain ⟨i, rfl, hi, hwr⟩ := hrel
                subst hwr
                by_cases hlti : i < q
                · have hlti' : (i : Int) < (q : Int) := by omega
                  obtain ⟨g, rfl, hc⟩ := HOM4.out i hlti
                  go_wp2
                  go_roundw
                  case rel => exact ⟨i + 1, by go_num, by omega, trivial⟩
                  case measure => simp [intOf]; omega
                · have hlti' : ¬ (i : Int) < (q : Int) := by omega
                  go_wp2
                  go_ret
                  exact ⟨rfl, HW4.out⟩
end Go.Proofs.YtpmgnpfpnkmmbaaGreatDoor

