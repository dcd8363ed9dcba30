import Derived.Test.YtjdgeonlbjokaaaGMog
import Derived.Test.YtjdgeonlbjokaaaGMok
namespace Go.Proofs.Ytjdgeonlbjokaaa
open Go.RowKit Go.Maps
set_option maxRecDepth 20000
set_option linter.unusedVariables false

theorem SK.at9 {w : World} {a : Option Addr} {c n : Nat} {l : List Tk} (h : SK w (.slice a n c) l) (hl : n = l.length) {k : Nat} (hk : k < l.length) : ∃ b o, a = some ⟨b, o, none⟩ ∧ w.cell? ⟨b, o + k * 3, none⟩ = some (.int .i64 (l.getD k tk0).1) ∧ w.cell? ⟨b, o + k * 3 + 1, none⟩ = some (.int .i64 (l.getD k tk0).2.1) ∧ w.cell? ⟨b, o + k * 3 + 2, none⟩ = some (.int .u8 (l.getD k tk0).2.2) := by
  subst hl
  exact h.get (Below.refl _ _) hk

theorem SB.at9 {w : World} {a : Option Addr} {c n : Nat} {l : List Int} (h : SB w (.slice a n c) l) (hl : n = l.length) {k : Nat} (hk : k < l.length) : ∃ b o, a = some ⟨b, o, none⟩ ∧ w.cell? ⟨b, o + k, none⟩ = some (.int .u8 (l.getD k 0)) := by
  subst hl
  exact h.byte (Below.refl _ _) hk

def t9 : Tk := (9, 9, 9)
def t8 : Tk := (8, 0, 0)

/-- What stands of the first lists: l, what was appended to it, the copy. -/
structure Rst (wb : World) (vl vm vw vb : Value) (NA L : List Tk) (w : World) : Prop where
  l : SK w vl NA
  m : SK w vm (NA ++ [t8])
  u : OK w wb.heap.size vw L
  low : Below wb.heap.size wb w
  kl : ∀ j, vl.ownBlock = some j → j < w.heap.size ∧ vb.ownBlock ≠ some j
  km : ∀ j, vm.ownBlock = some j → j < w.heap.size ∧ vb.ownBlock ≠ some j
  ku : ∀ j, vw.ownBlock = some j → vb.ownBlock ≠ some j

theorem Rst.mv {wb w w' : World} {vl vm vw vb : Value} {NA L : List Tk} (h : Rst wb vl vm vw vb NA L w) (hg : w.grownBy w' vb.ownBlock) (hb : ∀ j, vb.ownBlock = some j → wb.heap.size ≤ j) : Rst wb vl vm vw vb NA L w' := by
  have hs := hg.size
  refine ⟨h.l.same fun k hk => hg.block k (h.kl k hk).1 (fun e => (h.kl k hk).2 e.symm), h.m.same fun k hk => hg.block k (h.km k hk).1 (fun e => (h.km k hk).2 e.symm), h.u.move fun k hk => hg.block k (h.u.lt k hk).2 (fun e => h.ku k hk e.symm), h.low.grown hg h.low.size hb, fun j hj => ⟨by have := (h.kl j hj).1; omega, (h.kl j hj).2⟩, fun j hj => ⟨by have := (h.km j hj).1; omega, (h.km j hj).2⟩, h.ku⟩

set_option maxHeartbeats 8000000 in
theorem matchOwn_walk (v : Value) (D : List Int) (x y : Int) (z : Bool) (w : World) (h : SB w v D) (hB : Byt D) (hr : D.length ≤ 140737488351232) :
    Calls Try.prog 3 #[v, .agg #[.int .i64 x, .int .i64 y, .bool z]] w fun e w' => e = .returned (.bool true) ∧ Below w.heap.size w w' := by
  have HB : Hid (Below w.heap.size w (w.alloc (.cells #[.int .i64 x, .int .i64 y, .bool z] 24))) := (Below.refl _ _).alloc (Nat.le_refl _) _
  have HS := hide (h.below ((Below.refl _ _).alloc (Nat.le_refl _) (.cells #[.int .i64 x, .int .i64 y, .bool z] 24)))
  obtain ⟨wb, hwb⟩ : ∃ wb, w.alloc (.cells #[.int .i64 x, .int .i64 y, .bool z] 24) = wb := ⟨_, rfl⟩
  have hbl : w.heap.size < wb.heap.size := by rw [← hwb]; simp
  have d1 : wb.cell? ⟨w.heap.size, 0, none⟩ = some (.int .i64 x) := by rw [← hwb]; unfold World.cell?; simp only [heap_alloc_new]; rfl
  have d2 : wb.cell? ⟨w.heap.size, 1, none⟩ = some (.int .i64 y) := by rw [← hwb]; unfold World.cell?; simp only [heap_alloc_new]; rfl
  have d3 : wb.cell? ⟨w.heap.size, 2, none⟩ = some (.bool z) := by rw [← hwb]; unfold World.cell?; simp only [heap_alloc_new]; rfl
  rw [hwb] at HB HS
  have HBT := hide hB
  have HC : Hid (∀ wx, Below wb.heap.size wb wx → wx.cell? ⟨w.heap.size, 0, none⟩ = some (.int .i64 x) ∧ wx.cell? ⟨w.heap.size, 1, none⟩ = some (.int .i64 y) ∧ wx.cell? ⟨w.heap.size, 2, none⟩ = some (.bool z)) := fun wx q => ⟨(q.cell hbl).trans d1, (q.cell hbl).trans d2, (q.cell hbl).trans d3⟩
  have HFI : Hid (∀ wx, Below wb.heap.size wb wx → Below w.heap.size w wx) := fun wx q => HB.out.trans (q.mono HB.out.size)
  have HSB : Hid (∀ wx, Below wb.heap.size wb wx → SB wx v D) := fun wx q => HS.out.below q
  obtain ⟨ao, cap, rfl, hlc, hcm⟩ := h.open
  clear h hB
  go_enter Try.func3, Try.ntmps3
  by_cases h1 : (D.length : Int) ≤ 16777216
  case neg =>
    have g1 : (16777216 : Int) < (D.length : Int) := by omega
    go_wp2
    go_ret
    exact ⟨rfl, HFI.out _ (Below.refl _ _)⟩
  have g1 : ¬ (16777216 : Int) < (D.length : Int) := by omega
  have HLD := hide (ldom_any x y z wb)
  go_wp2_with fail
  refine HLD.out.mono ?_
  rintro e w1 ⟨rfl, b1⟩
  have HB1 := hide b1
  clear b1 HLD
  by_cases h2 : Dmn x y
  case neg =>
    have HDD : Hid (dmn x y = false) := decide_eq_false h2
    rw [HDD.out]
    go_wp2
    go_ret
    exact ⟨rfl, HFI.out _ HB1.out⟩
  have HDD : Hid (dmn x y = true) := decide_eq_true h2
  rw [HDD.out]
  have HDM := hide h2
  obtain ⟨L, HL⟩ : ∃ L, Hid (L = tL D x y z) := ⟨_, rfl⟩
  obtain ⟨r1, r2⟩ := tE_ok (D := D) (z := z) ⟨h1, h2⟩
  have HTO : Hid (∀ wx u, SB wx u D → Calls Try.prog 5 #[u, .agg #[.int .i64 x, .int .i64 y, .bool z]] wx fun e w' => ∃ u, e = .returned (.tuple #[u, .int .i64 0]) ∧ OK w' wx.heap.size u L ∧ Below wx.heap.size wx w') := fun wx u q => by
    have := tokens_any u D x y z wx q HBT.out
    rw [← HL.out, r1] at this
    exact this
  have hLD : L = tkl D x.toNat y.toNat z := HL.out.trans r2
  unfold Dmn at h2
  obtain ⟨q1, q2⟩ := tkl_all (D := D) (W := x.toNat) (C := y.toNat) (z := z) (by omega)
  rw [← hLD] at q1 q2
  have hLl : L.length ≤ D.length := by
    rw [hLD]
    have := tks_len (D := D) (W := x.toNat) (C := y.toNat) (z := z) D.length 0 (Nat.zero_le _)
    show (tks D x.toNat y.toNat z D.length 0).length ≤ _
    omega
  have hLn : L.length ≤ 16777216 := by omega
  have hDn : D.length ≤ 16777216 := by omega
  have HQ1 := hide q1
  have HQ2 := hide q2
  have HEX : Hid (∀ wx u, SK wx u L → Calls Try.prog 9 #[u, .int .i64 (D.length : Int)] wx fun e w' => ∃ u, e = .returned (.tuple #[u, .int .i64 0]) ∧ OB w' wx.heap.size u D ∧ Below wx.heap.size wx w') := fun wx u q => by
    have hE : xE (D.length : Int) L = 0 := by rw [xE_in (by omega) (by omega)]; exact HQ1.out
    have hX : xL (D.length : Int) L = D := by unfold xL; rw [if_pos hE]; exact HQ2.out
    have := expand_any u L (D.length : Int) wx q
    rw [hE, hX] at this
    exact this
  have HCA : Hid (∀ wx, Below wb.heap.size wb wx → Calls Try.prog 6 #[.slice ao D.length cap] wx.drew fun e w' => ∃ a c, e = .returned (.slice a D.length c) ∧ SB w' (.slice a D.length c) D ∧ Below wx.heap.size wx w') := fun wx q => (copied_any _ D wx.drew ((HSB.out wx q).below (Below.refl _ _).drew) (by omega)).mono fun e w' ⟨a, c, h1, h2, h3⟩ => ⟨a, c, h1, h2.sb, (Below.refl _ _).drew.trans h3⟩
  clear r1 r2 hLD h2 q1 q2 HL hLl HDD d1 d2 d3 hwb
  obtain ⟨f1, f2, f3⟩ := HC.out _ HB1.out
  have e1 : w1.drew.cell? ⟨w.heap.size, 0, none⟩ = some (.int .i64 x) := f1
  have e2 : w1.drew.cell? ⟨w.heap.size, 1, none⟩ = some (.int .i64 y) := f2
  have e3 : w1.drew.cell? ⟨w.heap.size, 2, none⟩ = some (.bool z) := f3
  have HWC : Hid (∀ wx, Below w1.heap.size w1 wx → wx.cell? ⟨w.heap.size, 0, none⟩ = some (.int .i64 x) ∧ wx.cell? ⟨w.heap.size, 1, none⟩ = some (.int .i64 y) ∧ wx.cell? ⟨w.heap.size, 2, none⟩ = some (.bool z)) := fun wx q => HC.out wx (HB1.out.trans (q.mono HB1.out.size))
  have HCP := hide (HCA.out w1 HB1.out)
  go_wp2
  go_cut [5, 6] (fun s5 s6 wx => ∃ ta tc, s5 = .slice ta L.length tc ∧ s6 = .int .i64 0 ∧ tc ≤ 9223372036854775807 ∧ L.length ≤ tc ∧ Hid (OK wx w1.heap.size (.slice ta L.length tc) L) ∧ Hid (Below w1.heap.size w1 wx))
  case first =>
    go_region_with (first
      | (go_at_call 6; refine HCP.out.mono ?_; rintro e w4 ⟨a4, c4, rfl, o4, b4⟩; have HO4 := hide o4; have HB4 := hide b4; obtain ⟨k1, k2, k3⟩ := HWC.out _ b4; clear o4 b4)
      | (go_at_call 5; refine (HTO.out _ _ HO4.out).mono ?_; rintro e w5 ⟨u5, rfl, o5, b5⟩; have HB5 := hide (HB4.out.trans (b5.mono HB4.out.size)); have HO5 : Hid (OK w5 w1.heap.size u5 L) := o5.base HB4.out.size; obtain ⟨a5, c5, hu5, hl5, hm5⟩ := o5.shape; subst hu5; clear o5 b5))
    all_goals
      go_wp2_with fail
      go_meet
      exact ⟨_, _, rfl, rfl, hm5, hl5, HO5, HB5⟩
  case rest =>
  obtain ⟨ta, tc, rfl, rfl, htm, htl, HO5, HB5⟩ := hcut
  have HB5' := hide (HB1.out.trans (HB5.out.mono HB1.out.size))
  have HQ5 : Hid (Sq wb wc [(.slice ta L.length tc, L)] []) := ((Sq.nil wb).go HB1.out).addT HB5.out HO5.out
  clear e1 e2 e3 f1 f2 f3 HO5 HB5 HWC HCP HB1 HB5'
  have HM1 := hide (means_any _ _ L D (D.length : Int) wc (HQ5.out.ot 0 _ rfl).sk (HSB.out _ HQ5.out.low) HQ1.out HQ2.out.symm (by omega))
  go_wp2_with fail
  refine HM1.out.mono ?_
  rintro e w6 ⟨rfl, b6⟩
  have HQ6 := hide (HQ5.out.go b6)
  clear b6 HM1 HQ5
  have HW1 := hide (twin_any _ L w6 (HQ6.out.ot 0 _ rfl).sk (by omega))
  go_wp2_with fail
  refine HW1.out.mono ?_
  rintro e w7 ⟨u7, rfl, o7, b7⟩
  obtain ⟨sa, sc, hu7, hsl, hsm⟩ := o7.shape
  subst hu7
  have HQ7 := hide (HQ6.out.addT b7 o7)
  clear b7 o7 HW1 HQ6
  have HX1 := hide (HEX.out w7 _ (HQ7.out.ot 0 _ rfl).sk)
  go_wp2_with fail
  refine HX1.out.mono ?_
  rintro e w8 ⟨u8, rfl, o8, b8⟩
  obtain ⟨ba, bc, hu8, hbl8, hbm8⟩ := o8.top
  subst hu8
  have HQ8 := hide (HQ7.out.addB b8 o8)
  clear b8 o8 HX1 HQ7
  have HS1 := hide (same_any _ _ D D w8 (HQ8.out.ob 0 _ rfl).sb (HSB.out _ HQ8.out.low))
  rw [show eqB D D = true from decide_eq_true rfl] at HS1
  go_wp2_with fail
  refine HS1.out.mono ?_
  rintro e w9 ⟨rfl, n9, hw9⟩
  have HQ9 := hide (HQ8.out.go (w' := w9) (by rw [hw9]; exact below_drewN (Below.refl _ _) _))
  have HM2 := hide (alike_any _ _ L L w9 (HQ9.out.ot 0 _ rfl).sk (HQ9.out.ot 1 _ rfl).sk)
  rw [show eqK L L = true from decide_eq_true rfl] at HM2
  clear hw9 HQ8 HS1
  go_wp2_with fail
  refine HM2.out.mono ?_
  rintro e w10 ⟨rfl, n10, hw10⟩
  have HQ10 := hide (HQ9.out.go (w' := w10) (by rw [hw10]; exact below_drewN (Below.refl _ _) _))
  clear hw10 HQ9 HM2
  have HOL := hide (HQ10.out.ot 0 _ rfl)
  have HOW := hide (HQ10.out.ot 1 _ rfl)
  have HOB := hide (HQ10.out.ob 0 _ rfl)
  have HLW := hide (HQ10.out.st 0 1 _ _ rfl rfl (by decide))
  have HLB := hide (HQ10.out.tb 0 0 _ _ rfl rfl)
  have HWB := hide (HQ10.out.tb 1 0 _ _ rfl rfl)
  have HLo := hide HQ10.out.low
  simp only [] at HOL HOW HOB HLW HLB HWB
  clear HQ10
  go_wp2
  go_loopw [10] (fun i wr => ∃ k : Nat, i = .int .i64 (k : Int) ∧ k ≤ L.length ∧ Hid (OK wr wb.heap.size (.slice ta L.length tc) (List.replicate k t9 ++ L.drop k)) ∧ Hid (w10.grownBy wr (Value.slice ta L.length tc).ownBlock)) (fun i _ => L.length - (intOf i).toNat)
  case atStart => exact ⟨0, rfl, Nat.zero_le _, by show OK _ _ _ _; simpa using HOL.out, World.grownBy.refl _ _⟩
  case round =>
    obtain ⟨k, rfl, hk, HQ, HG⟩ := hrel
    by_cases hl2 : k < L.length
    · have hl2' : (k : Int) < (L.length : Int) := by omega
      have hlen : (List.replicate k t9 ++ L.drop k).length = L.length := by simp; omega
      have HQ' : Hid (OK wr wb.heap.size (.slice ta (List.replicate k t9 ++ L.drop k).length tc) (List.replicate k t9 ++ L.drop k)) := by rw [hlen]; exact HQ.out
      obtain ⟨b, c', hv', hc1, hc2⟩ := HQ'.out.some (by rw [hlen]; omega)
      simp only [Value.slice.injEq] at hv'
      obtain ⟨rfl, -, rfl⟩ := hv'
      obtain ⟨d0, d1, d2, df⟩ := HQ'.out.cellAt3 (j := k) (by rw [hlen]; omega)
      have df0 := df (k * 3)
      have df1 := df (k * 3 + 1)
      have df2 := df (k * 3 + 2)
      have hs := HQ'.out.setAt3 t9 (j := k) (by rw [hlen]; omega)
      rw [set_mid t9 L k hl2, hlen] at hs
      have HS9 : Hid (OK (((wr.setCell ⟨b, k * 3, none⟩ (.int .i64 9)).setCell ⟨b, k * 3 + 1, none⟩ (.int .i64 9)).setCell ⟨b, k * 3 + 2, none⟩ (.int .u8 9)) wb.heap.size (.slice (some ⟨b, 0, none⟩) L.length tc) (List.replicate (k + 1) t9 ++ L.drop (k + 1))) := hs
      have HGN : Hid (w10.grownBy (((wr.setCell ⟨b, k * 3, none⟩ (.int .i64 9)).setCell ⟨b, k * 3 + 1, none⟩ (.int .i64 9)).setCell ⟨b, k * 3 + 2, none⟩ (.int .u8 9)) (Value.slice (some ⟨b, 0, none⟩) L.length tc).ownBlock) := ((HG.out.trans (grownBy_set rfl)).trans (grownBy_set rfl)).trans (grownBy_set rfl)
      clear hs hlen HQ HG HQ' df
      go_wp2
      go_roundw
      case rel => exact ⟨k + 1, by go_num, by omega, HS9.out, HGN.out⟩
      case measure => simp [intOf]; omega
    · have hl2' : ¬ (k : Int) < (L.length : Int) := by omega
      obtain ⟨NA, HNA⟩ : ∃ N, Hid (N = List.replicate L.length t9) := ⟨_, rfl⟩
      have HNl : Hid (NA.length = L.length) := by show _ = _; rw [HNA.out]; simp
      have HA2 : Hid (OK wr wb.heap.size (.slice ta L.length tc) NA) := by
        have h := HQ.out
        rw [List.drop_eq_nil_of_le (by omega), List.append_nil, show k = L.length by omega, ← HNA.out] at h
        exact h
      have HN9 : Hid (∀ i, i < L.length → NA.getD i tk0 = t9) := fun i hi => by rw [HNA.out]; simp [List.getD, hi]
      have HOW2 : Hid (OK wr wb.heap.size (.slice sa L.length sc) L) := HOW.out.move fun j hj => HG.out.block j (HOW.out.lt j hj).2 (fun e => HLW.out j e.symm hj)
      have HOB2 : Hid (OB wr wb.heap.size (.slice ba D.length bc) D) := HOB.out.move fun j hj => HG.out.block j (HOB.out.lt j hj).2 (fun e => HLB.out j e.symm hj)
      have HLo2 : Hid (Below wb.heap.size wb wr) := HLo.out.grown HG.out HLo.out.size (fun j hj => (HOL.out.lt j hj).1)
      clear HOL HOW HOB HLo HQ HG hl2 hk
      have HA2' : Hid (OK wr wb.heap.size (.slice ta NA.length tc) NA) := by show OK _ _ _ _; rw [HNl.out]; exact HA2.out
      have HLNN : Hid (NA.length ≤ 5864062014800) := by show _ ≤ _; rw [HNl.out]; omega
      go_wp2_with (at_builtin; refine wpList_appT rfl _ _ rfl wb.heap.size _ _ NA t8 rfl (HA2.out.alloc _) rfl (built_srcM wr 8) HLNN.out (by rw [size_alloc']; have := HLo2.out.size; omega) ?_)
      intro vm w11 ho11 hg11
      obtain ⟨sA, lA, gA⟩ := own_stepT (r := [t8]) (vm := .slice ta L.length tc) HA2'.out HA2'.out.sk (.inl (by rw [HNl.out])) (World.grownBy.refl _ _) ho11 hg11
      rw [HNl.out] at sA lA gA
      have HR11 : Hid (Rst wb (.slice ta L.length tc) vm (.slice sa L.length sc) (.slice ba D.length bc) NA L w11) := by
        have hz := gA.size
        have hlow : Below wb.heap.size wb w11 := HLo2.out.grown gA HLo2.out.size (fun j hj => (HA2.out.lt j hj).1)
        refine ⟨sA, ho11.sk, HOW2.out.move fun j hj => gA.block j (HOW2.out.lt j hj).2 (fun e => ?_), hlow, fun j hj => ⟨Nat.lt_of_lt_of_le (HA2.out.lt j hj).2 hz, HLB.out j hj⟩, fun j hj => ⟨(ho11.lt j hj).2, fun e => ?_⟩, HWB.out⟩
        · exact HLW.out j e.symm hj
        · rcases lA with e1 | e1
          · exact HLB.out j (e1.symm.trans hj) e
          · have := e1 j hj
            have := (HOB2.out.lt j e).2
            omega
      have HO11 : Hid (OB w11 wb.heap.size (.slice ba D.length bc) D) := HOB2.out.move fun j hj => gA.block j (HOB2.out.lt j hj).2 (fun e => HLB.out j e.symm hj)
      obtain ⟨ma, mc, hvm, hml, hmm⟩ := ho11.shape
      rw [show (NA ++ [t8]).length = L.length + 1 by simp [HNl.out]] at hvm hml
      subst hvm
      clear ho11 hg11 sA lA gA HA2 HA2' HOW2 HOB2 HLo2 HLB HWB HLW HLNN
      have HBw : Hid (∀ j, (Value.slice ba D.length bc).ownBlock = some j → wb.heap.size ≤ j) := fun j hj => (HO11.out.lt j hj).1
      go_wp2
      clear hl2'
      go_loopw [12] (fun i wr => ∃ k : Nat, i = .int .i64 (k : Int) ∧ k ≤ D.length ∧ Hid (OB wr wb.heap.size (.slice ba D.length bc) (List.replicate k 7 ++ D.drop k)) ∧ Hid (Rst wb (.slice ta L.length tc) (.slice ma (L.length + 1) mc) (.slice sa L.length sc) (.slice ba D.length bc) NA L wr)) (fun i _ => D.length - (intOf i).toNat)
      case atStart => exact ⟨0, rfl, Nat.zero_le _, by show OB _ _ _ _; simpa using HO11.out, HR11⟩
      case round =>
        clear HO11 HR11
        obtain ⟨k, rfl, hk, HQ, HG⟩ := hrel
        by_cases hl2 : k < D.length
        · have hl2' : (k : Int) < (D.length : Int) := by omega
          have hlen : (List.replicate k (7 : Int) ++ D.drop k).length = D.length := by simp; omega
          have HQ' : Hid (OB wr wb.heap.size (.slice ba (List.replicate k (7 : Int) ++ D.drop k).length bc) (List.replicate k (7 : Int) ++ D.drop k)) := by rw [hlen]; exact HQ.out
          obtain ⟨b, c', hv', hc1, hc2⟩ := HQ'.out.some (by rw [hlen]; omega)
          simp only [Value.slice.injEq] at hv'
          obtain ⟨rfl, -, rfl⟩ := hv'
          obtain ⟨d0, df⟩ := HQ'.out.cellAt (j := k) (by rw [hlen]; omega)
          have hs := HQ'.out.setAt (j := k) 7
          rw [set_midB 7 D k hl2, hlen] at hs
          have HS9 := hide hs
          have HGN := hide (HG.out.mv (w' := wr.setCell ⟨b, k, none⟩ (.int .u8 7)) (grownBy_set rfl) HBw.out)
          clear hs hlen HQ HG HQ'
          go_wp2
          go_roundw
          case rel => exact ⟨k + 1, by go_num, by omega, HS9.out, HGN.out⟩
          case measure => simp [intOf]; omega
        · have hl2' : ¬ (k : Int) < (D.length : Int) := by omega
          obtain ⟨NB, HNB⟩ : ∃ N, Hid (N = List.replicate D.length (7 : Int)) := ⟨_, rfl⟩
          have HNbl : Hid (NB.length = D.length) := by show _ = _; rw [HNB.out]; simp
          have HB2 : Hid (OB wr wb.heap.size (.slice ba D.length bc) NB) := by
            have h := HQ.out
            rw [List.drop_eq_nil_of_le (by omega), List.append_nil, show k = D.length by omega, ← HNB.out] at h
            exact h
          have HN7 : Hid (∀ i, i < D.length → NB.getD i 0 = 7) := fun i hi => by rw [HNB.out]; simp [List.getD, hi]
          have HB2' : Hid (OB wr wb.heap.size (.slice ba NB.length bc) NB) := by show OB _ _ _ _; rw [HNbl.out]; exact HB2.out
          have HLNN : Hid (NB.length + [(8 : Int)].length ≤ 140737488355328) := by show _ ≤ _; rw [HNbl.out]; simp; omega
          clear HQ hl2 hk
          go_wp2_with (at_builtin; refine wpList_app rfl _ _ 22 rfl wb.heap.size _ _ NB [8] rfl (HB2.out.alloc _) rfl (built_src wr [8]) HLNN.out (by rw [size_alloc']; have := HG.out.low.size; omega) ?_)
          intro vn w12 ho12 hg12
          obtain ⟨sB, lB, gB⟩ := own_stepB (r := [8]) (vm := .slice ba D.length bc) HB2'.out HB2'.out.sb (.inl (by rw [HNbl.out])) (World.grownBy.refl _ _) ho12 hg12
          rw [HNbl.out] at sB lB gB
          have HR12 := hide (HG.out.mv gB HBw.out)
          have HSB12 := hide sB
          have HSN12 := hide ho12.sb
          obtain ⟨na, nc, hvn⟩ := ho12.shape
          rw [show (NB ++ [(8 : Int)]).length = D.length + 1 by simp [HNbl.out]] at hvn
          subst hvn
          clear ho12 hg12 sB lB gB HB2 HB2' HG HBw HLNN
          obtain ⟨f1, f2, f3⟩ := HC.out _ HR12.out.low
          have e1 : w12.drew.cell? ⟨w.heap.size, 0, none⟩ = some (.int .i64 x) := f1
          have e2 : w12.drew.cell? ⟨w.heap.size, 1, none⟩ = some (.int .i64 y) := f2
          have e3 : w12.drew.cell? ⟨w.heap.size, 2, none⟩ = some (.bool z) := f3
          have HWC : Hid (∀ wx, Below w12.heap.size w12 wx → wx.cell? ⟨w.heap.size, 0, none⟩ = some (.int .i64 x) ∧ wx.cell? ⟨w.heap.size, 1, none⟩ = some (.int .i64 y) ∧ wx.cell? ⟨w.heap.size, 2, none⟩ = some (.bool z)) := fun wx q => HC.out wx (HR12.out.low.trans (q.mono HR12.out.low.size))
          have HCP := hide (HCA.out w12 HR12.out.low)
          go_wp2
          clear hl2'
          go_cut [14, 15] (fun s5 s6 wx => ∃ ta tc, s5 = .slice ta L.length tc ∧ s6 = .int .i64 0 ∧ tc ≤ 9223372036854775807 ∧ L.length ≤ tc ∧ Hid (OK wx w12.heap.size (.slice ta L.length tc) L) ∧ Hid (Below w12.heap.size w12 wx))
          case first =>
            go_region_with (first
              | (go_at_call 6; refine HCP.out.mono ?_; rintro e w4 ⟨a4, c4, rfl, o4, b4⟩; have HO4 := hide o4; have HB4 := hide b4; obtain ⟨k1, k2, k3⟩ := HWC.out _ b4; clear o4 b4)
              | (go_at_call 5; refine (HTO.out _ _ HO4.out).mono ?_; rintro e w5 ⟨u5, rfl, o5, b5⟩; have HB5 := hide (HB4.out.trans (b5.mono HB4.out.size)); have HO5 : Hid (OK w5 w12.heap.size u5 L) := o5.base HB4.out.size; obtain ⟨a5, c5, hu5, hl5, hm5⟩ := o5.shape; subst hu5; clear o5 b5))
            all_goals
              go_wp2_with fail
              go_meet
              exact ⟨_, _, rfl, rfl, hm5, hl5, HO5, HB5⟩
          case rest =>
          obtain ⟨pa, pc, rfl, rfl, hpm, hpl, HO5, HB5⟩ := hcut
          have HK13 : Hid (∀ wx, Below w12.heap.size w12 wx → SK wx (.slice ta L.length tc) NA ∧ SK wx (.slice ma (L.length + 1) mc) (NA ++ [t8]) ∧ SK wx (.slice sa L.length sc) L ∧ SB wx (.slice ba D.length bc) NB ∧ SB wx (.slice na (D.length + 1) nc) (NB ++ [8]) ∧ Below wb.heap.size wb wx) := fun wx q => ⟨HR12.out.l.below q, HR12.out.m.below q, HR12.out.u.sk.below q, HSB12.out.below q, HSN12.out.below q, HR12.out.low.trans (q.mono HR12.out.low.size)⟩
          clear e1 e2 e3 f1 f2 f3 HWC HCP HR12 HSB12 HSN12
          have HX1 := hide (HEX.out wc _ (HK13.out _ HB5.out).2.2.1)
          go_wp2_with fail
          refine HX1.out.mono ?_
          rintro e w14 ⟨u14, rfl, o14, b14⟩
          obtain ⟨ca, cc, hu14, _, _⟩ := o14.top
          subst hu14
          have HB14 := hide (HB5.out.trans (b14.mono HB5.out.size))
          have HP14 := hide (HO5.out.below b14 (Nat.le_refl _))
          have HC14 := hide o14
          clear b14 o14 HX1 HO5 HB5
          have HM2 := hide (alike_any _ _ L L w14 HP14.out.sk (HK13.out _ HB14.out).2.2.1)
          rw [show eqK L L = true from decide_eq_true rfl] at HM2
          go_wp2_with fail
          refine HM2.out.mono ?_
          rintro e w15 ⟨rfl, n15, hw15⟩
          have HB15' : Hid (Below w14.heap.size w14 w15) := by show Below _ _ _; rw [hw15]; exact below_drewN (Below.refl _ _) _
          have HB15 := hide (HB14.out.trans (HB15'.out.mono HB14.out.size))
          have HS1 := hide (same_any _ _ D D w15 (HC14.out.sb.below HB15'.out) (HSB.out _ (HK13.out _ HB15.out).2.2.2.2.2))
          rw [show eqB D D = true from decide_eq_true rfl] at HS1
          clear hw15 HM2 HP14 HC14 HB14
          go_wp2_with fail
          refine HS1.out.mono ?_
          rintro e w16 ⟨rfl, n16, hw16⟩
          have HB16 : Hid (Below w12.heap.size w12 w16) := by show Below _ _ _; rw [hw16]; exact below_drewN HB15.out _
          have HK16 := hide (HK13.out _ HB16.out)
          clear hw16 HS1 HB15 HB15' HB16 HK13
          have hmcb : L.length + 1 ≤ mc ∧ mc ≤ 9223372036854775807 := by
            obtain ⟨a9, c9, h9, h8, h7, _⟩ := HK16.out.2.1
            simp only [Value.slice.injEq] at h9
            obtain ⟨-, -, rfl⟩ := h9
            rw [show (NA ++ [t8]).length = L.length + 1 by simp [HNl.out]] at h8
            unfold maxLen at h7
            exact ⟨h8, h7⟩
          have hncb : D.length + 1 ≤ nc ∧ nc ≤ 9223372036854775807 := by
            obtain ⟨a9, c9, h9, h8, h7, _⟩ := HK16.out.2.2.2.2.1
            simp only [Value.slice.injEq] at h9
            obtain ⟨-, -, rfl⟩ := h9
            rw [show (NB ++ [(8 : Int)]).length = D.length + 1 by simp [HNbl.out]] at h8
            unfold maxLen at h7
            exact ⟨h8, h7⟩
          obtain ⟨hmcl, hmcm⟩ := hmcb
          obtain ⟨hncl, hncm⟩ := hncb
          have hmn : (NA ++ [t8]).length = L.length + 1 := by simp [HNl.out]
          have hnn : (NB ++ [(8 : Int)]).length = D.length + 1 := by simp [HNbl.out]
          have HMN := hide hmn
          have HNN := hide hnn
          clear hmn hnn
          go_wp2
          go_loopw [18] (fun i wq => ∃ k : Nat, i = .int .i64 (k : Int) ∧ k ≤ L.length ∧ wq = w16) (fun i _ => L.length - (intOf i).toNat)
          case atStart => exact ⟨0, rfl, Nat.zero_le _, by trivial⟩
          case round =>
            obtain ⟨k, rfl, hk, rfl⟩ := hrel
            by_cases hl3 : k < L.length
            · have hl3' : (k : Int) < (L.length : Int) := by omega
              have hl4' : (k : Int) < ((L.length + 1 : Nat) : Int) := by omega
              obtain ⟨b1, o1, rfl, x0, x1, x2⟩ := SK.at9 (k := k) HK16.out.1 HNl.out.symm (by rw [HNl.out]; exact hl3)
              obtain ⟨b2, o2, rfl, y0, y1, y2⟩ := SK.at9 (k := k) HK16.out.2.1 HMN.out.symm (by rw [HMN.out]; omega)
              have hA9 : NA.getD k tk0 = t9 := HN9.out k hl3
              have hM9 : (NA ++ [t8]).getD k tk0 = t9 := by
                rw [← hA9, List.getD_eq_getElem?_getD, List.getElem?_append_left (by rw [HNl.out]; exact hl3), ← List.getD_eq_getElem?_getD]
              rw [hA9] at x0 x1 x2
              rw [hM9] at y0 y1 y2
              have x0' : wr.cell? ⟨b1, o1 + k * 3, none⟩ = some (.int .i64 9) := x0
              have y1' : wr.cell? ⟨b2, o2 + k * 3 + 1, none⟩ = some (.int .i64 9) := y1
              clear x0 x1 x2 y0 y1 y2 hA9 hM9
              go_wp2
              go_roundw
              case rel => exact ⟨k + 1, by go_num, by omega, by trivial⟩
              case measure => simp [intOf]; omega
            · have hl3' : ¬ (k : Int) < (L.length : Int) := by omega
              clear hl3 hk
              go_wp2
              go_loopw [19] (fun i wq => ∃ k : Nat, i = .int .i64 (k : Int) ∧ k ≤ D.length ∧ wq = wr) (fun i _ => D.length - (intOf i).toNat)
              case atStart => exact ⟨0, rfl, Nat.zero_le _, by trivial⟩
              case round =>
                obtain ⟨k, rfl, hk, rfl⟩ := hrel
                by_cases hl3 : k < D.length
                · have hl4 : (k : Int) < (D.length : Int) := by omega
                  have hl4' : (k : Int) < ((D.length + 1 : Nat) : Int) := by omega
                  obtain ⟨b1, o1, rfl, x0⟩ := SB.at9 (k := k) HK16.out.2.2.2.1 HNbl.out.symm (by rw [HNbl.out]; exact hl3)
                  obtain ⟨b2, o2, rfl, y0⟩ := SB.at9 (k := k) HK16.out.2.2.2.2.1 HNN.out.symm (by rw [HNN.out]; omega)
                  have hA9 : NB.getD k 0 = 7 := HN7.out k hl3
                  have hM9 : (NB ++ [(8 : Int)]).getD k 0 = 7 := by
                    rw [← hA9, List.getD_eq_getElem?_getD, List.getElem?_append_left (by rw [HNbl.out]; exact hl3), ← List.getD_eq_getElem?_getD]
                  rw [hA9] at x0
                  rw [hM9] at y0
                  clear hA9 hM9
                  go_wp2
                  go_roundw
                  case rel => exact ⟨k + 1, by go_num, by omega, by trivial⟩
                  case measure => simp [intOf]; omega
                · have hl4 : ¬ (k : Int) < (D.length : Int) := by omega
                  obtain ⟨b2, o2, rfl, y0, _, _⟩ := SK.at9 (k := L.length) HK16.out.2.1 HMN.out.symm (by rw [HMN.out]; omega)
                  obtain ⟨b3, o3, rfl, z0⟩ := SB.at9 (k := D.length) HK16.out.2.2.2.2.1 HNN.out.symm (by rw [HNN.out]; omega)
                  have hM8 : (NA ++ [t8]).getD L.length tk0 = t8 := by
                    rw [List.getD_eq_getElem?_getD, List.getElem?_append_right (by rw [HNl.out]; exact Nat.le_refl _), HNl.out, Nat.sub_self]; rfl
                  have hN8 : (NB ++ [(8 : Int)]).getD D.length 0 = 8 := by
                    rw [List.getD_eq_getElem?_getD, List.getElem?_append_right (by rw [HNbl.out]; exact Nat.le_refl _), HNbl.out, Nat.sub_self]; rfl
                  rw [hM8] at y0
                  rw [hN8] at z0
                  have y0' : wr.cell? ⟨b2, o2 + L.length * 3, none⟩ = some (.int .i64 8) := y0
                  have hi1 : (L.length : Int) < ((L.length + 1 : Nat) : Int) := by omega
                  have hi2 : (D.length : Int) < ((D.length + 1 : Nat) : Int) := by omega
                  obtain ⟨f1, f2, f3⟩ := HC.out _ HK16.out.2.2.2.2.2
                  have HAS := hide (asked9_walk _ D x y z wr (HSB.out _ HK16.out.2.2.2.2.2) HBT.out h1 HDM.out)
                  clear y0 hM8 hN8 hl3 hk
                  go_wp2_with fail
                  refine HAS.out.mono ?_
                  rintro e w20 ⟨rfl, b20⟩
                  have HB20 := hide (HK16.out.2.2.2.2.2.trans (b20.mono HK16.out.2.2.2.2.2.size))
                  obtain ⟨f4, f5, f6⟩ := HC.out _ HB20.out
                  have HAG := hide (again9_walk _ D x y z w20 (HSB.out _ HB20.out) HBT.out h1 HDM.out)
                  clear b20 HAS f1 f2 f3
                  go_wp2_with fail
                  refine HAG.out.mono ?_
                  rintro e w21 ⟨rfl, b21⟩
                  have HB21 := hide (HB20.out.trans (b21.mono HB20.out.size))
                  clear b21 HAG f4 f5 f6
                  go_wp2
                  go_ret
                  exact ⟨rfl, HFI.out _ HB21.out⟩
end Go.Proofs.Ytjdgeonlbjokaaa

