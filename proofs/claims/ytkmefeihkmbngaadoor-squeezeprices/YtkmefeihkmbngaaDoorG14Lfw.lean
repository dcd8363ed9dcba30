import Derived.Test.YtkmefeihkmbngaaDoorG10Sm1
import Derived.Test.YtkmefeihkmbngaaDoorG12Sm4
import Derived.Test.YtkmefeihkmbngaaDoorG13Sm5
import Derived.Test.YtkmefeihkmbngaaDoorG07QHops
namespace Go.Proofs.YtkmefeihkmbngaaDoor
open Go.RowKit Go.Maps
set_option maxRecDepth 20000
set_option linter.unusedVariables false

theorem ins_step (A Y1 Y2 Z : List Int) (x y : Int) (i : Nat) (hi : i = A.length + Y1.length + 1) : swp (A ++ ((Y1 ++ [y]) ++ x :: (Y2 ++ Z))) i (i - 1) = A ++ (Y1 ++ x :: ((y :: Y2) ++ Z)) := by
  rw [swp_comm _ _ _ (by omega)]
  have e := swp_two (A ++ Y1) [] (Y2 ++ Z) y x (i - 1) i (by simp; omega) (by simp; omega)
  simp only [List.append_assoc, List.cons_append, List.nil_append] at e ⊢
  exact e

structure Insr (f : Int → Int) (A Z Y : List Int) (x : Int) (j : Nat) (X : List Int) : Prop where
  ex : ∃ Y1 Y2, Y = Y1 ++ Y2 ∧ X = A ++ (Y1 ++ x :: (Y2 ++ Z)) ∧ j = A.length + Y1.length ∧ ∀ y ∈ Y2, f x < f y

theorem insr_get {f : Int → Int} {A Z Y X : List Int} {x : Int} {j : Nat} (h : Insr f A Z Y x (j + 1) X) (hj : A.length ≤ j) : X.getD (j + 1) 0 = x ∧ X.getD j 0 ∈ Y ∧ (f x < f (X.getD j 0) → Insr f A Z Y x j (swp X (j + 1) j)) := by
  obtain ⟨Y1, Y2, e1, e2, e3, e4⟩ := h.ex
  have hne : Y1 ≠ [] := fun e => by rw [e] at e3; simp at e3; omega
  obtain ⟨Y0, y, rfl⟩ : ∃ Y0 y, Y1 = Y0 ++ [y] := ⟨Y1.dropLast, Y1.getLast hne, (List.dropLast_concat_getLast hne).symm⟩
  have hjl : j = A.length + Y0.length := by simp at e3; omega
  have g1 : X.getD (j + 1) 0 = x := by
    rw [e2]
    have := getD_app (A ++ (Y0 ++ [y])) x (Y2 ++ Z) 0
    have e5 : A ++ (Y0 ++ [y] ++ x :: (Y2 ++ Z)) = A ++ (Y0 ++ [y]) ++ x :: (Y2 ++ Z) := by simp
    rw [e5, show j + 1 = (A ++ (Y0 ++ [y])).length by simp; omega]
    exact this
  have g2 : X.getD j 0 = y := by
    rw [e2]
    have := getD_app (A ++ Y0) y (x :: (Y2 ++ Z)) 0
    have e5 : A ++ (Y0 ++ [y] ++ x :: (Y2 ++ Z)) = A ++ Y0 ++ y :: (x :: (Y2 ++ Z)) := by simp
    rw [e5, show j = (A ++ Y0).length by simp; omega]
    exact this
  refine ⟨g1, by rw [g2, e1]; simp, fun hlt => ?_⟩
  rw [g2] at hlt
  refine ⟨Y0, y :: Y2, by rw [e1]; simp, ?_, hjl, fun z hz => ?_⟩
  · rw [e2]
    have := ins_step A Y0 Y2 Z x y (j + 1) (by omega)
    simpa using this
  · rcases List.mem_cons.1 hz with rfl | hz
    · exact hlt
    · exact e4 z hz

theorem insr_done {f : Int → Int} {A Z Y X : List Int} {x : Int} {j : Nat} (h : Insr f A Z Y x j X) (hs : Y.Pairwise (Lx f)) (hx : ∀ y ∈ Y, y < x) (hend : j = A.length ∨ ∃ k, j = k + 1 ∧ A.length ≤ k ∧ ¬ f x < f (X.getD k 0)) :
    ∃ Y', X = A ++ (Y' ++ Z) ∧ Y'.Perm (Y ++ [x]) ∧ Y'.Pairwise (Lx f) := by
  obtain ⟨Y1, Y2, e1, e2, e3, e4⟩ := h.ex
  refine ⟨Y1 ++ x :: Y2, by rw [e2]; simp, ?_, ?_⟩
  · rw [e1]
    exact List.perm_middle.trans ((List.perm_append_comm (l₁ := [x]) (l₂ := Y1 ++ Y2)))
  · refine ins_sorted (by rw [← e1]; exact hs) (fun y hy => ?_) fun y hy => .inl (e4 y hy)
    rcases hend with e | ⟨k, e, hk, hn⟩
    · exfalso
      have : Y1.length = 0 := by omega
      rw [List.eq_nil_of_length_eq_zero this] at hy
      simp at hy
    · have hne : Y1 ≠ [] := fun e' => by rw [e'] at hy; simp at hy
      obtain ⟨Y0, z, rfl⟩ : ∃ Y0 y, Y1 = Y0 ++ [y] := ⟨Y1.dropLast, Y1.getLast hne, (List.dropLast_concat_getLast hne).symm⟩
      have g2 : X.getD k 0 = z := by
        rw [e2]
        have := getD_app (A ++ Y0) z (x :: (Y2 ++ Z)) 0
        have hk0 : k = A.length + Y0.length := by simp at e3; omega
        have e5 : A ++ (Y0 ++ [z] ++ x :: (Y2 ++ Z)) = A ++ Y0 ++ z :: (x :: (Y2 ++ Z)) := by simp
        rw [e5, show k = (A ++ Y0).length by simp; omega]
        exact this
      rw [g2] at hn
      have hyz : f y ≤ f z := by
        rcases List.mem_append.1 hy with q | q
        · have hs' := hs
          rw [e1, List.append_assoc, List.pairwise_append] at hs'
          have := hs'.2.2 y q z (by simp)
          unfold Lx at this
          omega
        · simp at q; rw [q]; exact Int.le_refl _
      exact lx_of (by omega) fun _ => hx y (by rw [e1]; exact List.mem_append_left _ hy)
end Go.Proofs.YtkmefeihkmbngaaDoor

namespace Go.Proofs.YtkmefeihkmbngaaDoor
open Go.RowKit Go.Maps
set_option maxRecDepth 20000
set_option linter.unusedVariables false

def Inso (f : Int → Int) (A U Z : List Int) (k : Nat) (X : List Int) : Prop := ∃ Y, X = A ++ (Y ++ (U.drop k ++ Z)) ∧ Y.Perm (U.take k) ∧ Y.Pairwise (Lx f)

theorem inso_start {f : Int → Int} {A U Z : List Int} {k : Nat} {X : List Int} (h : Inso f A U Z k X) (hk : k < U.length) : ∃ Y, Y.Perm (U.take k) ∧ Y.Pairwise (Lx f) ∧ Insr f A (U.drop (k + 1) ++ Z) Y (U.getD k 0) (A.length + k) X := by
  obtain ⟨Y, e, p, s⟩ := h
  refine ⟨Y, p, s, Y, [], by simp, ?_, ?_, fun y hy => by simp at hy⟩
  · rw [e, List.drop_eq_getElem_cons hk, show U.getD k 0 = U[k] by simp [hk]]
    simp only [List.nil_append, List.cons_append]
  · have := p.length_eq
    rw [List.length_take] at this
    omega

theorem inso_next {f : Int → Int} {A U Z Y Y' : List Int} {k : Nat} {X : List Int} (hk : k < U.length) (hp : Y.Perm (U.take k)) (e : X = A ++ (Y' ++ (U.drop (k + 1) ++ Z))) (p : Y'.Perm (Y ++ [U.getD k 0])) (s : Y'.Pairwise (Lx f)) : Inso f A U Z (k + 1) X := by
  refine ⟨Y', e, p.trans ?_, s⟩
  rw [List.take_succ_eq_append_getElem hk]
  rw [show U.getD k 0 = U[k] by simp [hk]]
  exact List.Perm.append_right _ hp

set_option maxHeartbeats 4000000 in
theorem ins_any {w0 w : World} {B c : Nat} {p : Value} {f : Int → Int} {D : Int → Prop} (A U Z X : List Int) (hX : X = A ++ (U ++ Z)) (h : Srow w0 w B c X) (hc : Cmp w0 B p f D) (hD : ∀ y ∈ X, D y) (hL : X.length ≤ 288)
    (a b : Nat) (ha : a = A.length) (hb : b = A.length + U.length) (hU : U.Pairwise (· < ·)) :
    Calls Tryd.prog 74 #[.slice (some ⟨B, 0, none⟩) X.length c, .int .i64 a, .int .i64 b, .func (.func 65) #[] #[p]] w fun e w' => e = .returned (.tuple #[]) ∧ Mrg w0 w' B c A U Z f := by
  have HS := hide h
  have hlen : A.length + U.length + Z.length = X.length := by rw [hX]; simp; omega
  have HX := hide hX
  obtain ⟨L, HLL⟩ : ∃ L, Hid (L = X.length) := ⟨_, rfl⟩
  rw [← HLL.out] at hlen hL ⊢
  have hcap := h.cap
  rw [← HLL.out] at hcap
  have hbL : b ≤ L := by omega
  have HA := hide ha
  have HUL : Hid (U.length = b - a) := by show _ = _; omega
  have hab : a ≤ b := by omega
  have HCM := hide hc
  have HDA : Hid ((∀ y ∈ U, D y)) := fun y hy => hD y (by rw [hX]; exact List.mem_append_right _ (List.mem_append_left _ hy))
  have HRI : Hid (∀ k, k < U.length → ∀ y ∈ U.take k, y < U.getD k 0) := fun k hk y hy => by
    obtain ⟨i, hi, rfl⟩ := List.getElem_of_mem hy
    rw [List.length_take] at hi
    rw [List.getElem_take, show U.getD k 0 = U[k] by simp [hk]]
    exact List.pairwise_iff_getElem.1 hU i k (by omega) hk (by omega)
  have HXL : Hid (A.length + U.length + Z.length = L) := hlen
  have H1 : Hid (U.length = 0 → Mrg w0 w B c A U Z f) := fun hz => by
    have hz' : U = [] := List.eq_nil_of_length_eq_zero hz
    subst hz'
    exact ⟨[], X, by rw [hX], List.Perm.refl _, List.Pairwise.nil, h⟩
  have H2 : Hid (1 ≤ U.length → Inso f A U Z 1 X) := fun h1 => by
    refine ⟨U.take 1, ?_, List.Perm.refl _, ?_⟩
    · rw [hX, ← List.append_assoc (U.take 1), List.take_append_drop]
    · cases U with
      | nil => simp
      | cons x r => simp
  clear h hX hc hD ha hb hU hlen
  go_enter Tryd.func74, Tryd.ntmps74
  go_wp2
  by_cases hab2 : a < b
  case neg =>
    have hz : U.length = 0 := by rw [HUL.out]; omega
    have HF := hide (H1.out hz)
    have hn : ¬ (a : Int) + 1 < (b : Int) := by omega
    clear hz
    refine wp_loop_rounds 1 ?_
    rw [rounds_succ]
    go_wp2
    (try simp only [Exit.inBlock, Exit.then])
    refine bodyPost_end (results_none rfl _ _ _) rfl ?_
    exact ⟨rfl, HF.out⟩
  have HI0 := hide (H2.out (by rw [HUL.out]; omega))
  go_loopw [8] (fun vi wr => ∃ k : Nat, 1 ≤ k ∧ a + k ≤ b ∧ vi = .int .i64 ((a : Int) + k) ∧ Hid (∃ X1, Inso f A U Z k X1 ∧ Srow w0 wr B c X1 ∧ X1.length = L)) (fun vi _ => b - (intOf vi).toNat)
  case atStart => exact ⟨1, Nat.le_refl _, by omega, by go_num, X, HI0.out, HS.out, HLL.out.symm⟩
  case round =>
    obtain ⟨k, hk1, hkb, rfl, HK⟩ := hrel
    obtain ⟨X1, hi1, hs1, hl1⟩ := HK.out
    by_cases hlt : a + k < b
    · have hkU : k < U.length := by rw [HUL.out]; omega
      obtain ⟨Y, hYp, hYs, hIr⟩ := inso_start hi1 hkU
      have hYl : Y.length = k := by rw [hYp.length_eq, List.length_take]; omega
      have HYP := hide hYp
      have HYS := hide hYs
      have HYD : Hid (∀ y ∈ Y, D y ∧ y < U.getD k 0) := fun y hy => ⟨HDA.out y (List.mem_of_mem_take (hYp.subset hy)), HRI.out k hkU y (hYp.subset hy)⟩
      have HDX := hide (HDA.out (U.getD k 0) (by rw [show U.getD k 0 = U[k] by simp [hkU]]; exact List.getElem_mem hkU))
      rw [← HA.out] at hIr
      obtain ⟨x, HXX⟩ : ∃ x, Hid (x = U.getD k 0) := ⟨_, rfl⟩
      rw [← HXX.out] at hIr HYD HDX
      have HIR := hide hIr
      have HS1 := hide hs1
      have HL1 := hide hl1
      have HYL := hide hYl
      have HKU := hide hkU
      obtain ⟨u, hu⟩ : ∃ u, u = a + k := ⟨_, rfl⟩
      have hau : (a : Int) + (k : Int) = (u : Int) := by omega
      have hub : (u : Int) < (b : Int) := by omega
      rw [← hu] at HIR
      have hu1 : a + k ≤ u ∧ u ≤ a + k := by omega
      rw [hau]
      clear hi1 hs1 hl1 hYp hYs hIr hYl HK hu hau hkU
      go_wp2
      go_loopw [9] (fun vj wr => ∃ j : Nat, a ≤ j ∧ j ≤ u ∧ vj = .int .i64 j ∧ Hid (∃ X2, Insr f A (U.drop (k + 1) ++ Z) Y x j X2 ∧ Srow w0 wr B c X2 ∧ X2.length = L)) (fun vj _ => (intOf vj).toNat)
      case atStart => exact ⟨u, by omega, Nat.le_refl _, rfl, X1, HIR.out, HS1.out, HL1.out⟩
      case round =>
        obtain ⟨j, haj, hju, rfl, HJ⟩ := hrel
        obtain ⟨X2, hr2, hs2, hl2⟩ := HJ.out
        have HR2 := hide hr2
        have HS2 := hide hs2
        have HL2 := hide hl2
        clear hr2 hs2 hl2 HJ
        by_cases hj0 : a < j
        · obtain ⟨t, rfl⟩ : ∃ t, j = t + 1 := ⟨j - 1, by omega⟩
          obtain ⟨g1, g2, g3⟩ := insr_get HR2.out (by rw [← HA.out]; omega)
          have c1 := HS2.out.get (i := t + 1) (by rw [HL2.out]; omega)
          have c2 := HS2.out.get (i := t) (by rw [HL2.out]; omega)
          have f1 := HS2.out.fz (i := t + 1) (by rw [HL2.out]; omega)
          have f2 := HS2.out.fz (i := t) (by rw [HL2.out]; omega)
          have hsw := HS2.out.swap (i := t + 1) (j := t) (by rw [HL2.out]; omega) (by rw [HL2.out]; omega)
          have dy := (HYD.out _ g2).1
          have HST : Hid (¬ f x < f (X2.getD t 0) → ∃ Y', X2 = A ++ (Y' ++ (U.drop (k + 1) ++ Z)) ∧ Y'.Perm (Y ++ [x]) ∧ Y'.Pairwise (Lx f)) := fun hn => insr_done HR2.out HYS.out (fun y hy => (HYD.out y hy).2) (.inr ⟨t, rfl, by rw [← HA.out]; omega, hn⟩)
          rw [g1] at c1 hsw
          obtain ⟨y, hy⟩ : ∃ y, X2.getD t 0 = y := ⟨_, rfl⟩
          rw [hy] at c2 hsw g3 dy HST
          have HSW := hide hsw.drew
          have HG3 : Hid (f x < f y → Insr f A (U.drop (k + 1) ++ Z) Y x t (swp X2 (t + 1) t)) := g3
          have HC : Hid (∀ n, Calls Tryd.prog 65 #[.int .i64 x, .int .i64 y, p] (wr.drewN n) fun e W' => e = .returned (.int .i64 (cmpv (f x) (f y))) ∧ ∃ k, W' = wr.drewN k) := fun n =>
            (HCM.out _ ((HS2.out.drewN n).only) x y HDX.out dy).mono fun e W' ⟨he, k, hk⟩ => ⟨he, n + k, by rw [hk, World.drewN_drewN]⟩
          have hcv := cmpv_lt (f x) (f y)
          obtain ⟨cv, HCV⟩ : ∃ cv, Hid (cv = cmpv (f x) (f y)) := ⟨_, rfl⟩
          rw [← HCV.out] at hcv HC
          obtain ⟨z, hz⟩ : ∃ z, t + 1 = z := ⟨_, rfl⟩
          rw [hz] at c1 f1 HSW
          have hzt : (z : Int) - 1 = (t : Int) := by omega
          have n1 : ¬ t = z := by omega
          have n2 : ¬ z = t := by omega
          have hzL : (z : Int) < (L : Int) := by omega
          have htL : (t : Int) < (L : Int) := by omega
          have haz : (a : Int) < (z : Int) := by omega
          have hzc : ((t + 1 : Nat) : Int) = (z : Int) := by omega
          rw [hzc]
          have HZ := hide hz
          clear g1 g2 g3 hy hsw hzc hz
          by_cases hlt2 : cv < 0
          · have hnd : decide (cv < 0) = true := decide_eq_true hlt2
            have HNX := hide (HG3.out (hcv.1 hlt2))
            have hXl : (swp X2 (t + 1) t).length = L := by rw [swp_len]; exact HL2.out
            have HXl := hide hXl
            clear hcv hXl
            have c1d : ∀ n, (wr.drewN n).cell? ⟨B, z, none⟩ = some (.int .i64 x) := fun _ => c1
            go_wp2
            go_quiet (first | (go_at_call 65; exact HC.out _))
            have f1d : (wr.drewN nq).frozen? ⟨B, z, none⟩ = false := f1
            have f2d : (wr.drewN nq).frozen? ⟨B, t, none⟩ = false := f2
            have c1e : (wr.drewN nq).cell? ⟨B, z, none⟩ = some (.int .i64 x) := c1
            have c2e : (wr.drewN nq).cell? ⟨B, t, none⟩ = some (.int .i64 y) := c2
            have HSW2 : Hid (Srow w0 (((wr.drewN nq).setCell ⟨B, z, none⟩ (.int .i64 y)).setCell ⟨B, t, none⟩ (.int .i64 x)).drew B c (swp X2 (t + 1) t)) := by
              have q := (HS2.out.drewN nq).swap (i := t + 1) (j := t) (by rw [HL2.out]; omega) (by rw [HL2.out]; omega)
              have e1 : X2.getD t 0 = y := by
                have := (HS2.out.get (i := t) (by rw [HL2.out]; omega)).symm.trans c2
                simpa using this
              have e2 : X2.getD (t + 1) 0 = x := by
                have := HS2.out.get (i := t + 1) (by rw [HL2.out]; omega)
                rw [HZ.out] at this
                have := this.symm.trans c1
                rw [HZ.out]
                simpa using this
              rw [e1, e2, HZ.out] at q
              rw [HZ.out]
              exact q.drew
            obtain ⟨wq, HWQ⟩ : ∃ wq, Hid (wq = wr.drewN nq) := ⟨_, rfl⟩
            rw [← HWQ.out] at f1d f2d c1e c2e HSW2 ⊢
            clear c1 c2 f1 f2 c1d
            go_wp2
            go_region
            go_wp2
            go_roundw
            case rel => exact ⟨t, by omega, by omega, by go_num, _, HNX.out, HSW2.out, HXl.out⟩
            case measure => simp [intOf]; omega
          · have hnd : decide (cv < 0) = false := decide_eq_false hlt2
            obtain ⟨Y', hY1, hY2, hY3⟩ := HST.out (fun q => hlt2 (hcv.2 q))
            have HNX : Hid (Inso f A U Z (k + 1) X2) := inso_next HKU.out HYP.out hY1 (by rw [← HXX.out]; exact hY2) hY3
            clear hcv hY1 hY2 hY3
            go_wp2
            go_quiet (first | (go_at_call 65; exact HC.out _))
            go_wp2
            go_roundw
            case rel => exact ⟨k + 1, by omega, by omega, by go_num, X2, HNX.out, HS2.out.drewN _, HL2.out⟩
            case measure => simp [intOf]; omega
        · obtain rfl : j = a := by omega
          have hja : ¬ (j : Int) < (j : Int) := by omega
          obtain ⟨Y', hY1, hY2, hY3⟩ := insr_done HR2.out HYS.out (fun y hy => (HYD.out y hy).2) (.inl HA.out)
          have HNX : Hid (Inso f A U Z (k + 1) X2) := inso_next HKU.out HYP.out hY1 (by rw [← HXX.out]; exact hY2) hY3
          have hd0 : decide ((j : Int) < (j : Int)) = false := decide_eq_false hja
          clear hY1 hY2 hY3
          go_wp2
          go_quiet (fail)
          go_wp2
          go_roundw
          case rel => exact ⟨k + 1, by omega, by omega, by go_num, X2, HNX.out, HS2.out.drewN _, HL2.out⟩
          case measure => simp [intOf]; omega
    · have hlt' : ¬ (a : Int) + k < (b : Int) := by omega
      have HF : Hid (Mrg w0 wr B c A U Z f) := by
        obtain ⟨Y, e, p1, s1⟩ := hi1
        have hkU : U.length = k := by rw [HUL.out]; omega
        rw [List.drop_of_length_le (by omega), List.nil_append] at e
        rw [List.take_of_length_le (by omega)] at p1
        exact ⟨Y, X1, e, p1, s1, hs1⟩
      clear hi1 hs1 hl1 HK
      go_wp2
      (try simp only [Exit.inBlock, Exit.then])
      refine bodyPost_end (results_none rfl _ _ _) rfl ?_
      exact ⟨rfl, HF.out⟩
end Go.Proofs.YtkmefeihkmbngaaDoor

namespace Go.Proofs.YtkmefeihkmbngaaDoor
open Go.RowKit Go.Maps
set_option maxRecDepth 20000
set_option linter.unusedVariables false

theorem sym_all {w0 : World} {B c : Nat} {p : Value} {f : Int → Int} {D : Int → Prop} (hc : Cmp w0 B p f D) (N : Nat) : SymOk6 w0 B c p f D N := by
  induction N with
  | zero => intro w A U V Z X a m b hN _ _ _ _ _ _ _ h1; omega
  | succ N ih =>
    intro w A U V Z X a m b hN hX h hD hL ha hm hb h1 h2 hU hV hx
    by_cases c1 : U.length = 1
    · obtain ⟨x, rfl⟩ := List.length_eq_one_iff.1 c1
      have := sym1_any A V Z X x (by rw [hX]; simp [lft]) h hc hD hL a m b ha (by simp at hm; omega) (by simp at hm; omega) hV (fun v hv => hx x (by simp) v hv)
      simpa using this
    · by_cases c2 : V.length = 1
      · obtain ⟨y, rfl⟩ := List.length_eq_one_iff.1 c2
        exact sym2_any A U Z X y (by rw [hX]; simp [lft]) h hc hD hL a m b ha hm (by simp at hb; omega) (by omega) hU (fun u hu => hx u hu y (by simp))
      · by_cases c3 : (a + b) / 2 < m
        · exact sym_step1 hc N ih w A U V Z X a m b hN hX h hD hL ha hm hb (by omega) (by omega) hU hV hx c3
        · exact sym_step2 hc N ih w A U V Z X a m b hN hX h hD hL ha hm hb (by omega) (by omega) hU hV hx c3

def sg (X : List Int) (c d : Nat) : List Int := (X.drop c).take d

theorem sg_len (X : List Int) (c d : Nat) : (sg X c d).length = min d (X.length - c) := by simp [sg]

theorem sg_cut (X : List Int) (a d : Nat) : X = X.take a ++ (sg X a d ++ X.drop (a + d)) := by
  unfold sg
  rw [← List.drop_drop, List.take_append_drop, List.take_append_drop]

theorem sg_add (X : List Int) (a d e : Nat) : sg X a (d + e) = sg X a d ++ sg X (a + d) e := by
  unfold sg
  rw [← List.drop_drop, List.take_add]

theorem sg_left {X A Y Z : List Int} {c d : Nat} (h : c + d ≤ A.length) : sg (A ++ (Y ++ Z)) c d = sg A c d := by
  unfold sg
  rw [List.drop_append_of_le_length (by omega), List.take_append_of_le_length (by rw [List.length_drop]; omega)]

theorem sg_mid {A Y Z : List Int} : sg (A ++ (Y ++ Z)) A.length Y.length = Y := by
  unfold sg
  rw [List.drop_left, List.take_left]

theorem sg_right {A Y Z : List Int} {c d : Nat} (h : A.length + Y.length ≤ c) : sg (A ++ (Y ++ Z)) c d = sg Z (c - (A.length + Y.length)) d := by
  unfold sg
  have e : A ++ (Y ++ Z) = (A ++ Y) ++ Z := by simp
  rw [e, List.drop_append, List.drop_of_length_le (by simp; omega), List.nil_append, List.length_append]

structure Sok (f : Int → Int) (S X : List Int) (c d : Nat) : Prop where
  perm : (sg X c d).Perm (sg S c d)
  rise : (sg X c d).Pairwise (Lx f)

theorem sg_cross {S : List Int} (h : S.Pairwise (· < ·)) {a d e : Nat} {x y : Int} (hx : x ∈ sg S a d) (hy : y ∈ sg S (a + d) e) : x < y := by
  have h1 : (sg S a (d + e)).Pairwise (· < ·) := (h.sublist (List.drop_sublist _ _)).sublist (List.take_sublist _ _)
  rw [sg_add, List.pairwise_append] at h1
  exact h1.2.2 x hx y hy

theorem sg_rise {S : List Int} (h : S.Pairwise (· < ·)) (a d : Nat) : (sg S a d).Pairwise (· < ·) := (h.sublist (List.drop_sublist _ _)).sublist (List.take_sublist _ _)
end Go.Proofs.YtkmefeihkmbngaaDoor

namespace Go.Proofs.YtkmefeihkmbngaaDoor
open Go.RowKit Go.Maps
set_option maxRecDepth 20000
set_option linter.unusedVariables false

theorem dvd_step {d a c : Nat} (hd : 0 < d) (ha : d ∣ a) (hc : d ∣ c) (h : c < a + d) : c < a ∨ c = a := by
  obtain ⟨k, rfl⟩ := ha
  obtain ⟨l, rfl⟩ := hc
  have h1 : d * l < d * (k + 1) := by rw [Nat.mul_add, Nat.mul_one]; exact h
  have h2 : l < k + 1 := Nat.lt_of_mul_lt_mul_left h1
  by_cases e : l = k
  · exact .inr (by rw [e])
  · exact .inl (Nat.mul_lt_mul_of_pos_left (by omega) hd)

theorem dvd_gap {d a c : Nat} (hd : 0 < d) (ha : d ∣ a) (hc : d ∣ c) (h : a < c) : a + d ≤ c := by
  obtain ⟨k, rfl⟩ := ha
  obtain ⟨l, rfl⟩ := hc
  have h2 : k < l := Nat.lt_of_mul_lt_mul_left h
  have : d * (k + 1) ≤ d * l := Nat.mul_le_mul_left _ h2
  rw [Nat.mul_add, Nat.mul_one] at this
  exact this

theorem sg_end {X : List Int} {c d : Nat} (h : X.length ≤ c) : sg X c d = [] := by
  unfold sg
  rw [List.drop_of_length_le h]
  simp

theorem sok_end {f : Int → Int} {S X : List Int} {c d : Nat} (hl : X.length = S.length) (h : X.length ≤ c) : Sok f S X c d := ⟨by rw [sg_end h, sg_end (by omega)], by rw [sg_end h]; exact List.Pairwise.nil⟩

structure Pce (X T Y : List Int) (a d : Nat) : Prop where
  eq : T = X.take a ++ (Y ++ X.drop (a + d))
  len : Y.length = (sg X a d).length
  al : a ≤ X.length

theorem Pce.tl {X T Y : List Int} {a d : Nat} (h : Pce X T Y a d) : T.length = X.length := by
  rw [h.eq]
  have e := congrArg List.length (sg_cut X a d)
  simp only [List.length_append] at e ⊢
  rw [h.len]
  omega

theorem Pce.self {X T Y : List Int} {a d : Nat} (h : Pce X T Y a d) : sg T a d = Y := by
  have ha : (X.take a).length = a := by rw [List.length_take]; have := h.al; omega
  by_cases c : a + d ≤ X.length
  · have hl : Y.length = d := by rw [h.len, sg_len]; omega
    rw [h.eq]
    have := sg_mid (A := X.take a) (Y := Y) (Z := X.drop (a + d))
    rwa [ha, hl] at this
  · rw [h.eq, List.drop_of_length_le (by omega), List.append_nil]
    have hl : Y.length ≤ d := by rw [h.len, sg_len]; omega
    unfold sg
    conv => lhs; arg 2; arg 1; rw [← ha]
    rw [List.drop_left, List.take_of_length_le hl]

theorem Pce.far {X T Y : List Int} {a d c e : Nat} (h : Pce X T Y a d) (hf : c + e ≤ a ∨ a + d ≤ c) : sg T c e = sg X c e := by
  have ha : (X.take a).length = a := by rw [List.length_take]; have := h.al; omega
  have hX := sg_cut X a d
  rcases hf with q | q
  · rw [h.eq]
    conv => rhs; rw [hX]
    rw [sg_left (X := X) (by omega), sg_left (X := X) (by omega)]
  · rw [h.eq]
    conv => rhs; rw [hX]
    by_cases z : X.length ≤ c
    · rw [sg_end (by rw [← h.eq, h.tl]; exact z), sg_end (by rw [← hX]; exact z)]
    · have hl : Y.length = d := by rw [h.len, sg_len]; omega
      have hl2 : (sg X a d).length = d := by rw [sg_len]; omega
      rw [sg_right (by omega), sg_right (by omega), hl, hl2]

theorem Pce.sok {f : Int → Int} {S X T Y : List Int} {a d c e : Nat} (h : Pce X T Y a d) (hs : Sok f S X c e) (hf : c + e ≤ a ∨ a + d ≤ c) : Sok f S T c e := ⟨by rw [h.far hf]; exact hs.perm, by rw [h.far hf]; exact hs.rise⟩

structure Bst (f : Int → Int) (S X : List Int) (bs a : Nat) : Prop where
  len : X.length = S.length
  dv : 2 * bs ∣ a
  low : ∀ c, c < a → 2 * bs ∣ c → Sok f S X c (2 * bs)
  high : ∀ c, a ≤ c → bs ∣ c → Sok f S X c bs

theorem bs_dvd {bs a : Nat} (h : 2 * bs ∣ a) : bs ∣ a := Nat.dvd_trans (Nat.dvd_mul_left bs 2) h

theorem bst_in {f : Int → Int} {S X : List Int} {bs a : Nat} (hS : S.Pairwise (· < ·)) (h : Bst f S X bs a) : (sg X a bs).Pairwise (Lx f) ∧ (sg X (a + bs) bs).Pairwise (Lx f) ∧ ∀ u ∈ sg X a bs, ∀ v ∈ sg X (a + bs) bs, f u = f v → u < v := by
  have h1 := h.high a (Nat.le_refl _) (bs_dvd h.dv)
  have h2 := h.high (a + bs) (by omega) ((Nat.dvd_add_iff_left (Nat.dvd_refl bs)).1 (bs_dvd h.dv))
  exact ⟨h1.rise, h2.rise, fun u hu v hv _ => sg_cross hS (h1.perm.subset hu) (h2.perm.subset hv)⟩

theorem bst_next {f : Int → Int} {S X T Y : List Int} {bs a : Nat} (hbs : 0 < bs) (h : Bst f S X bs a) (hp : Pce X T Y a (2 * bs)) (hy : Y.Perm (sg X a bs ++ sg X (a + bs) bs)) (hs : Y.Pairwise (Lx f)) : Bst f S T bs (a + 2 * bs) := by
  have h1 := h.high a (Nat.le_refl _) (bs_dvd h.dv)
  have h2 := h.high (a + bs) (by omega) ((Nat.dvd_add_iff_left (Nat.dvd_refl bs)).1 (bs_dvd h.dv))
  refine ⟨by rw [hp.tl]; exact h.len, (Nat.dvd_add_iff_left (Nat.dvd_refl _)).1 h.dv, fun c hc hd => ?_, fun c hc hd => hp.sok (h.high c (by omega) hd) (.inr hc)⟩
  rcases dvd_step (by omega) h.dv hd hc with q | q
  · exact hp.sok (h.low c q hd) (.inl (dvd_gap (by omega) hd h.dv q))
  · subst q
    refine ⟨?_, by rw [hp.self]; exact hs⟩
    rw [hp.self, show 2 * bs = bs + bs by omega, sg_add]
    exact hy.trans (h1.perm.append h2.perm)

theorem bst_skip {f : Int → Int} {S X : List Int} {bs a : Nat} (hbs : 0 < bs) (h : Bst f S X bs a) (hn : X.length ≤ a + bs) : Bst f S X bs (a + 2 * bs) := by
  have h1 := h.high a (Nat.le_refl _) (bs_dvd h.dv)
  refine ⟨h.len, (Nat.dvd_add_iff_left (Nat.dvd_refl _)).1 h.dv, fun c hc hd => ?_, fun c hc hd => h.high c (by omega) hd⟩
  rcases dvd_step (by omega) h.dv hd hc with q | q
  · exact h.low c q hd
  · subst q
    have e1 : sg X c (2 * bs) = sg X c bs := by rw [show 2 * bs = bs + bs by omega, sg_add, sg_end hn, List.append_nil]
    have e2 : sg S c (2 * bs) = sg S c bs := by rw [show 2 * bs = bs + bs by omega, sg_add, sg_end (X := S) (c := c + bs) (by rw [← h.len]; exact hn), List.append_nil]
    exact ⟨by rw [e1, e2]; exact h1.perm, by rw [e1]; exact h1.rise⟩

theorem bst_end {f : Int → Int} {S X : List Int} {bs a : Nat} (h : Bst f S X bs a) (hn : X.length ≤ a) : Bst f S X (2 * bs) 0 := by
  refine ⟨h.len, Nat.dvd_zero _, fun c hc => by omega, fun c _ hd => ?_⟩
  by_cases q : c < a
  · exact h.low c q hd
  · exact sok_end h.len (by omega)

theorem bst_done {f : Int → Int} {S X : List Int} {bs : Nat} (h : Bst f S X bs 0) (hn : X.length ≤ bs) : X.Perm S ∧ X.Pairwise (Lx f) := by
  have h1 := h.high 0 (Nat.le_refl _) (Nat.dvd_zero _)
  have e : ∀ l : List Int, l.length ≤ bs → sg l 0 bs = l := fun l hl => by unfold sg; rw [List.drop_zero, List.take_of_length_le hl]
  have p := h1.perm
  have r := h1.rise
  rw [e X hn, e S (by rw [← h.len]; exact hn)] at p
  rw [e X hn] at r
  exact ⟨p, r⟩

structure Bk1 (f : Int → Int) (S X : List Int) (a : Nat) : Prop where
  len : X.length = S.length
  dv : 20 ∣ a
  low : ∀ c, c < a → 20 ∣ c → Sok f S X c 20
  high : X.drop a = S.drop a

theorem bk1_next {f : Int → Int} {S X T Y : List Int} {a : Nat} (h : Bk1 f S X a) (hp : Pce X T Y a 20) (hy : Y.Perm (sg X a 20)) (hs : Y.Pairwise (Lx f)) : Bk1 f S T (a + 20) := by
  have e : sg X a 20 = sg S a 20 := by unfold sg; rw [h.high]
  refine ⟨by rw [hp.tl]; exact h.len, (Nat.dvd_add_iff_left (Nat.dvd_refl _)).1 h.dv, fun c hc hd => ?_, ?_⟩
  · rcases dvd_step (by omega) h.dv hd hc with q | q
    · exact hp.sok (h.low c q hd) (.inl (dvd_gap (by omega) hd h.dv q))
    · subst q
      exact ⟨by rw [hp.self, ← e]; exact hy, by rw [hp.self]; exact hs⟩
  · have hx : X.drop (a + 20) = S.drop (a + 20) := by rw [← List.drop_drop, ← List.drop_drop, h.high]
    rw [← hx, hp.eq]
    have ha : (X.take a).length = a := by rw [List.length_take]; have := hp.al; omega
    by_cases z : a + 20 ≤ X.length
    · have hl : Y.length = 20 := by rw [hp.len, sg_len]; omega
      have e2 : X.take a ++ (Y ++ X.drop (a + 20)) = (X.take a ++ Y) ++ X.drop (a + 20) := by simp
      rw [e2]
      have e3 : a + 20 = (X.take a ++ Y).length := by rw [List.length_append, ha, hl]
      conv => lhs; arg 1; rw [e3]
      exact List.drop_left
    · have hz : X.drop (a + 20) = [] := List.drop_of_length_le (by omega)
      rw [hz, List.append_nil, List.drop_of_length_le]
      have := hp.tl
      rw [hp.eq, hz, List.append_nil] at this
      omega

theorem bk1_end {f : Int → Int} {S X : List Int} {a : Nat} (h : Bk1 f S X a) (hn : X.length ≤ a) : Bst f S X 20 0 := by
  refine ⟨h.len, Nat.dvd_zero _, fun c hc => by omega, fun c _ hd => ?_⟩
  by_cases q : c < a
  · exact h.low c q hd
  · exact sok_end h.len (by omega)

theorem mrg_pce {w0 w : World} {B c : Nat} {f : Int → Int} {X C Z : List Int} {a d : Nat} (h : Mrg w0 w B c (X.take a) C Z f) (hZ : Z = X.drop (a + d)) (hC : C.length = (sg X a d).length) (hal : a ≤ X.length) : ∃ Y T, Pce X T Y a d ∧ Y.Perm C ∧ Y.Pairwise (Lx f) ∧ Srow w0 w B c T := by
  obtain ⟨Y, T, e, p, s, r⟩ := h
  exact ⟨Y, T, ⟨by rw [e, hZ], by rw [p.length_eq, hC], hal⟩, p, s, r⟩
end Go.Proofs.YtkmefeihkmbngaaDoor

namespace Go.Proofs.YtkmefeihkmbngaaDoor
open Go.RowKit Go.Maps
set_option maxRecDepth 20000
set_option linter.unusedVariables false

def Std (w0 w' : World) (B c : Nat) (S : List Int) (f : Int → Int) : Prop := ∃ X, X.Perm S ∧ X.Pairwise (Lx f) ∧ Srow w0 w' B c X

structure Row1 (w0 w : World) (B c : Nat) (D : Int → Prop) (L : Nat) (X : List Int) : Prop where
  row : Srow w0 w B c X
  dom : ∀ y ∈ X, D y
  len : X.length = L

theorem Row1.next {w0 w w' : World} {B c L : Nat} {D : Int → Prop} {X T Y C : List Int} {a d : Nat} (h : Row1 w0 w B c D L X) (hp : Pce X T Y a d) (hy : Y.Perm C) (hC : ∀ y ∈ C, y ∈ X) (hr : Srow w0 w' B c T) : Row1 w0 w' B c D L T := by
  refine ⟨hr, fun y hm => ?_, hp.tl.trans h.len⟩
  rw [hp.eq] at hm
  rcases List.mem_append.1 hm with q | q
  · exact h.dom y (List.mem_of_mem_take q)
  · rcases List.mem_append.1 q with q | q
    · exact h.dom y (hC y (hy.subset q))
    · exact h.dom y (List.mem_of_mem_drop q)

theorem sg_mem {X : List Int} {a d : Nat} {y : Int} (h : y ∈ sg X a d) : y ∈ X := List.mem_of_mem_drop (List.mem_of_mem_take h)

theorem blk_call {w0 w : World} {B c L : Nat} {p : Value} {f : Int → Int} {D : Int → Prop} {S X : List Int} (hS : S.Pairwise (· < ·)) (hc : Cmp w0 B p f D) (h : Row1 w0 w B c D L X) (hk : ∃ a, Bk1 f S X a ∧ True) (a b : Nat) (hb1 : Bk1 f S X a) (hL : L ≤ 288) (ha : a ≤ L) (hb : b = min (a + 20) L) :
    Calls Tryd.prog 74 #[.slice (some ⟨B, 0, none⟩) L c, .int .i64 a, .int .i64 b, .func (.func 65) #[] #[p]] w fun e w' => e = .returned (.tuple #[]) ∧ ∃ T, Row1 w0 w' B c D L T ∧ Bk1 f S T (a + 20) := by
  have hXl := h.len
  have e : sg X a 20 = sg S a 20 := by unfold sg; rw [hb1.high]
  have hla : (X.take a).length = a := by rw [List.length_take]; omega
  have := ins_any (X.take a) (sg X a 20) (X.drop (a + 20)) X (sg_cut X a 20) h.row hc h.dom (by omega) a b hla.symm (by rw [hla, sg_len]; omega) (by rw [e]; exact sg_rise hS a 20)
  rw [hXl] at this
  refine this.mono fun e w' ⟨he, hm⟩ => ⟨he, ?_⟩
  obtain ⟨Y, T, hp, hy, hs, hr⟩ := mrg_pce hm rfl rfl (by omega)
  exact ⟨T, h.next hp hy (fun y q => sg_mem q) hr, bk1_next hb1 hp hy hs⟩

theorem mrg_call {w0 w : World} {B c L : Nat} {p : Value} {f : Int → Int} {D : Int → Prop} {S X : List Int} (hS : S.Pairwise (· < ·)) (hc : Cmp w0 B p f D) (h : Row1 w0 w B c D L X) (a m b bs : Nat) (hbs : 0 < bs) (hb1 : Bst f S X bs a) (hL : L ≤ 288) (hm : m = a + bs) (hmL : m < L) (hb : b = min (a + 2 * bs) L) :
    Calls Tryd.prog 75 #[.slice (some ⟨B, 0, none⟩) L c, .int .i64 a, .int .i64 m, .int .i64 b, .func (.func 65) #[] #[p]] w fun e w' => e = .returned (.tuple #[]) ∧ ∃ T, Row1 w0 w' B c D L T ∧ Bst f S T bs (a + 2 * bs) := by
  have hXl := h.len
  obtain ⟨hU, hV, hx⟩ := bst_in hS hb1
  have hla : (X.take a).length = a := by rw [List.length_take]; omega
  have lU : (sg X a bs).length = bs := by rw [sg_len]; omega
  have lV : (sg X (a + bs) bs).length = b - m := by rw [sg_len]; omega
  have e : sg X a (2 * bs) = sg X a bs ++ sg X (a + bs) bs := by rw [show 2 * bs = bs + bs by omega, sg_add]
  have hX : X = X.take a ++ (sg X a bs ++ (sg X (a + bs) bs ++ X.drop (a + 2 * bs))) := by
    have := sg_cut X a (2 * bs)
    rw [e] at this
    simpa using this
  have := sym_all (c := c) hc (X.length) w (X.take a) (sg X a bs) (sg X (a + bs) bs) (X.drop (a + 2 * bs)) X a m b (by rw [lU, lV]; omega) hX h.row h.dom (by omega) hla.symm (by rw [hla, lU]; exact hm) (by rw [lV]; omega) (by omega) (by rw [lV]; omega) hU hV hx
  rw [hXl] at this
  refine this.mono fun e' w' ⟨he, hm'⟩ => ⟨he, ?_⟩
  obtain ⟨Y, T, hp, hy, hs, hr⟩ := mrg_pce (d := 2 * bs) hm' rfl (by rw [e]) (by omega)
  refine ⟨T, h.next hp hy (fun y q => ?_) hr, bst_next hbs hb1 hp hy hs⟩
  rcases List.mem_append.1 q with q | q
  · exact sg_mem q
  · exact sg_mem q

set_option maxHeartbeats 4000000 in
theorem stab_any {w0 w : World} {B c : Nat} {p : Value} {f : Int → Int} {D : Int → Prop} (S : List Int) (hS : S.Pairwise (· < ·)) (h : Srow w0 w B c S) (hc : Cmp w0 B p f D) (hD : ∀ y ∈ S, D y) (hL : S.length ≤ 288) :
    Calls Tryd.prog 69 #[.slice (some ⟨B, 0, none⟩) S.length c, .int .i64 S.length, .func (.func 65) #[] #[p]] w fun e w' => e = .returned (.tuple #[]) ∧ Std w0 w' B c S f := by
  obtain ⟨L, HLL⟩ : ∃ L, Hid (L = S.length) := ⟨_, rfl⟩
  have HSS := hide hS
  have HCM := hide hc
  have HK0 : Hid (∃ X, Row1 w0 w B c D L X ∧ Bk1 f S X 0) := ⟨S, ⟨h, hD, HLL.out.symm⟩, rfl, Nat.dvd_zero _, (fun c hc => by omega), rfl⟩
  rw [← HLL.out] at hL ⊢
  clear h hc hD hS
  go_enter Tryd.func69, Tryd.ntmps69
  go_wp2
  go_loopw [7, 8] (fun va vb wr => ∃ a : Nat, a ≤ L ∧ va = .int .i64 a ∧ vb = .int .i64 ((a : Int) + 20) ∧ Hid (∃ X, Row1 w0 wr B c D L X ∧ Bk1 f S X a)) (fun va _ _ => L - (intOf va).toNat)
  case atStart => exact ⟨0, Nat.zero_le _, rfl, by go_num, HK0⟩
  case round =>
    obtain ⟨a, haL, rfl, rfl, HK⟩ := hrel
    obtain ⟨X, hr, hk⟩ := HK.out
    by_cases hlt : a + 20 ≤ L
    · have hlt' : (a : Int) + 20 ≤ (L : Int) := by omega
      have HC := hide (blk_call HSS.out HCM.out hr ⟨a, hk, trivial⟩ a (a + 20) hk hL haL (by omega))
      have hcast : ((a + 20 : Nat) : Int) = (a : Int) + 20 := by omega
      rw [hcast] at HC
      clear hr hk HK hcast
      go_wp2_with fail
      refine HC.out.mono ?_
      rintro e w2 ⟨rfl, hT⟩
      have HT := hide hT
      clear hT
      have hcc : ((a : Int) + 20) + 20 = (a : Int) + 40 := by omega
      go_wp2
      go_roundw
      case rel => exact ⟨a + 20, hlt, by go_num, by go_num, HT⟩
      case measure => simp [intOf]; omega
    · have hlt' : ¬ (a : Int) + 20 ≤ (L : Int) := by omega
      have HC := hide (blk_call HSS.out HCM.out hr ⟨a, hk, trivial⟩ a L hk hL haL (by omega))
      clear hr hk HK
      go_wp2_with fail
      refine HC.out.mono ?_
      rintro e w2 ⟨rfl, hT⟩
      have HB0 : Hid (∃ X, Row1 w0 w2 B c D L X ∧ Bst f S X 20 0) := by
        obtain ⟨T, h1, h2⟩ := hT
        exact ⟨T, h1, bk1_end h2 (by rw [h1.len]; omega)⟩
      clear hT HC
      go_wp2
      go_loopw [6] (fun vb wr => ∃ bs : Nat, 20 ≤ bs ∧ bs ≤ 600 ∧ vb = .int .i64 bs ∧ Hid (∃ X, Row1 w0 wr B c D L X ∧ Bst f S X bs 0)) (fun vb _ => 1000 - (intOf vb).toNat)
      case atStart => exact ⟨20, Nat.le_refl _, by omega, rfl, HB0⟩
      case round =>
        obtain ⟨bs, hb20, hb6, rfl, HB⟩ := hrel
        by_cases hbl : bs < L
        · have hbl' : (bs : Int) < (L : Int) := by omega
          have hw2 : (2 : Int) * (bs : Int) = ((2 * bs : Nat) : Int) := by omega
          obtain ⟨d, hd⟩ : ∃ d, d = 2 * bs := ⟨_, rfl⟩
          have hd1 : (2 : Int) * (bs : Int) = (d : Int) := by omega
          have hd2 : (bs : Int) * 2 = (d : Int) := by omega
          have hd3 : 2 * bs ≤ d ∧ d ≤ 2 * bs := by omega
          have HD := hide hd
          clear hw2 hd
          go_wp2
          go_loopw [7, 8] (fun va vb wr => ∃ a : Nat, a ≤ L ∧ va = .int .i64 a ∧ vb = .int .i64 ((a : Int) + d) ∧ Hid (∃ X, Row1 w0 wr B c D L X ∧ Bst f S X bs a)) (fun va _ _ => L - (intOf va).toNat)
          case atStart => exact ⟨0, Nat.zero_le _, rfl, by go_num, HB⟩
          case round =>
            obtain ⟨a, haL2, rfl, rfl, HK⟩ := hrel
            obtain ⟨X, hr, hk⟩ := HK.out
            by_cases hle : a + d ≤ L
            · have hle' : (a : Int) + d ≤ (L : Int) := by omega
              have HC := hide (mrg_call HSS.out HCM.out hr a (a + bs) (a + d) bs (by omega) hk hL rfl (by omega) (by omega))
              rw [← HD.out] at HC
              have c1 : ((a + bs : Nat) : Int) = (a : Int) + bs := by omega
              have c2 : ((a + d : Nat) : Int) = (a : Int) + d := by omega
              rw [c1, c2] at HC
              clear hr hk HK c1 c2
              go_wp2_with fail
              refine HC.out.mono ?_
              rintro e w3 ⟨rfl, hT⟩
              have HT := hide hT
              clear hT
              go_wp2
              go_roundw
              case rel => exact ⟨a + d, hle, by go_num, by go_num, HT⟩
              case measure => simp [intOf]; omega
            · have hle' : ¬ (a : Int) + d ≤ (L : Int) := by omega
              by_cases hmm : a + bs < L
              · have hmm' : (a : Int) + bs < (L : Int) := by omega
                have HC := hide (mrg_call HSS.out HCM.out hr a (a + bs) L bs (by omega) hk hL rfl hmm (by omega))
                have c1 : ((a + bs : Nat) : Int) = (a : Int) + bs := by omega
                rw [c1] at HC
                clear hr hk HK c1
                go_wp2_with fail
                refine HC.out.mono ?_
                rintro e w3 ⟨rfl, hT⟩
                have HT : Hid (∃ X, Row1 w0 w3 B c D L X ∧ Bst f S X d 0) := by
                  obtain ⟨T, h1, h2⟩ := hT
                  rw [HD.out]
                  exact ⟨T, h1, bst_end h2 (by rw [h1.len]; omega)⟩
                clear hT
                go_wp2
                go_roundw
                case rel => exact ⟨d, by omega, by omega, by go_num, HT⟩
                case measure => simp [intOf]; omega
              · have hmm' : ¬ (a : Int) + bs < (L : Int) := by omega
                have HT : Hid (∃ X, Row1 w0 wr B c D L X ∧ Bst f S X d 0) := by
                  rw [HD.out]
                  exact ⟨X, hr, bst_end (bst_skip (by omega) hk (by rw [hr.len]; omega)) (by rw [hr.len]; omega)⟩
                clear hr hk HK
                go_wp2
                go_roundw
                case rel => exact ⟨d, by omega, by omega, by go_num, HT⟩
                case measure => simp [intOf]; omega
        · have hbl' : ¬ (bs : Int) < (L : Int) := by omega
          have HF : Hid (Std w0 wr B c S f) := by
            obtain ⟨X, h1, h2⟩ := HB.out
            obtain ⟨p1, p2⟩ := bst_done h2 (by rw [h1.len]; omega)
            exact ⟨X, p1, p2, h1.row⟩
          go_wp2
          (try simp only [Exit.inBlock, Exit.then])
          refine bodyPost_end (results_none rfl _ _ _) rfl ?_
          exact ⟨rfl, HF.out⟩
end Go.Proofs.YtkmefeihkmbngaaDoor

namespace Go.Proofs.YtkmefeihkmbngaaDoor
open Go.RowKit Go.Maps
set_option maxRecDepth 20000
set_option linter.unusedVariables false

theorem isNaN_any (w : World) (x : Int) : Calls Tryd.prog 70 #[.int .i64 x] w fun e w' => e = .returned (.bool false) ∧ w' = w := by
  have h : (x != x) = false := by simp
  go_enter Tryd.func70, Tryd.ntmps70
  go_wp2
  go_ret
  exact ⟨by simp, rfl⟩

theorem cmpI_any (w : World) (x y : Int) : Calls Tryd.prog 66 #[.int .i64 x, .int .i64 y] w fun e w' => e = .returned (.int .i64 (cmpv x y)) ∧ w' = w := by
  by_cases h1 : x < y
  · have HE : Hid (cmpv x y = -1) := if_pos h1
    rw [HE.out]
    go_enter Tryd.func66, Tryd.ntmps66
    go_wp2_with fail
    refine (isNaN_any _ x).mono ?_
    rintro e w1 ⟨rfl, rfl⟩
    go_wp2_with fail
    refine (isNaN_any _ y).mono ?_
    rintro e w2 ⟨rfl, rfl⟩
    go_wp2
    go_ret
    exact ⟨rfl, rfl⟩
  · by_cases h2 : y < x
    · have HE : Hid (cmpv x y = 1) := by show cmpv x y = 1; unfold cmpv; rw [if_neg h1, if_pos h2]
      rw [HE.out]
      go_enter Tryd.func66, Tryd.ntmps66
      go_wp2_with fail
      refine (isNaN_any _ x).mono ?_
      rintro e w1 ⟨rfl, rfl⟩
      go_wp2_with fail
      refine (isNaN_any _ y).mono ?_
      rintro e w2 ⟨rfl, rfl⟩
      go_wp2
      go_ret
      exact ⟨rfl, rfl⟩
    · have HE : Hid (cmpv x y = 0) := by show cmpv x y = 0; unfold cmpv; rw [if_neg h1, if_neg h2]
      rw [HE.out]
      go_enter Tryd.func66, Tryd.ntmps66
      go_wp2_with fail
      refine (isNaN_any _ x).mono ?_
      rintro e w1 ⟨rfl, rfl⟩
      go_wp2_with fail
      refine (isNaN_any _ y).mono ?_
      rintro e w2 ⟨rfl, rfl⟩
      go_wp2
      go_ret
      exact ⟨rfl, rfl⟩

theorem less_any (W : World) (Bs : Nat) (af : Option Addr) (cf : Nat) (l : List Int) (hb : W.cell? ⟨Bs, 0, none⟩ = some (.slice af l.length cf)) (hs : SI W (.slice af l.length cf) l) (x y : Int) (hx : 0 ≤ x ∧ x < l.length) (hy : 0 ≤ y ∧ y < l.length) :
    Calls Tryd.prog 65 #[.int .i64 x, .int .i64 y, .pointer (some ⟨Bs, 0, none⟩)] W fun e W' => e = .returned (.int .i64 (cmpv (l.getD x.toNat 0) (l.getD y.toNat 0))) ∧ ∃ q, W' = W.drewN q := by
  obtain ⟨i, rfl⟩ : ∃ i : Nat, x = i := ⟨x.toNat, by omega⟩
  obtain ⟨j, rfl⟩ : ∃ j : Nat, y = j := ⟨y.toNat, by omega⟩
  obtain ⟨b1, o1, rfl, c1⟩ := hs.get (Below.refl _ _) (k := i) (by omega)
  obtain ⟨b2, o2, he, c2⟩ := hs.get (Below.refl _ _) (k := j) (by omega)
  simp only [Option.some.injEq, Addr.mk.injEq, and_true] at he
  obtain ⟨rfl, rfl⟩ := he
  have HSI := hide hs
  obtain ⟨u, HU⟩ : ∃ u, Hid (u = l.getD i 0) := ⟨_, rfl⟩
  obtain ⟨v, HV⟩ : ∃ u, Hid (u = l.getD j 0) := ⟨_, rfl⟩
  have e1 : (i : Int).toNat = i := by omega
  have e2 : (j : Int).toNat = j := by omega
  rw [e1, e2, ← HU.out, ← HV.out]
  rw [← HU.out] at c1
  rw [← HV.out] at c2
  have HC : Hid (∀ n, Calls Tryd.prog 66 #[.int .i64 u, .int .i64 v] (W.drewN n) fun e W' => e = .returned (.int .i64 (cmpv u v)) ∧ ∃ k, W' = W.drewN k) := fun n => (cmpI_any (W.drewN n) u v).mono fun e W' ⟨he, hw⟩ => ⟨he, n, hw⟩
  obtain ⟨cv, HCV⟩ : ∃ cv, Hid (cv = cmpv u v) := ⟨_, rfl⟩
  rw [← HCV.out] at HC ⊢
  have hi : (i : Int) < (l.length : Int) := hx.2
  have hj : (j : Int) < (l.length : Int) := hy.2
  clear hs hx hy e1 e2
  go_enter Tryd.func65, Tryd.ntmps65
  go_wp2
  go_quiet (first | (go_at_call 66; exact HC.out _))
  go_wp2
  go_ret
  exact ⟨rfl, _, rfl⟩

def fo (l : List Int) (x : Int) : Int := l.getD x.toNat 0

theorem less_cmp {w : World} {B Bs : Nat} {af : Option Addr} {cf : Nat} {l : List Int} (hb : w.cell? ⟨Bs, 0, none⟩ = some (.slice af l.length cf)) (hs : SI w (.slice af l.length cf) l) (h1 : Bs ≠ B) (h2 : ∀ k, (Value.slice af l.length cf).ownBlock = some k → k ≠ B) :
    Cmp w B (.pointer (some ⟨Bs, 0, none⟩)) (fo l) (fun x => 0 ≤ x ∧ x < l.length) := fun W hW x y hx hy => by
  have hbl : ∀ k, k ≠ B → W.heap[k]? = w.heap[k]? := hW.block
  have hcell : ∀ a : Addr, a.block ≠ B → W.cell? a = w.cell? a := fun a ha => by unfold World.cell?; rw [hbl _ ha]
  refine less_any W Bs af cf l ?_ ?_ x y hx hy
  · rw [hcell _ h1]; exact hb
  · exact hs.move fun a u ha hk => by rw [hcell _ (h2 _ hk)]; exact ha

set_option maxHeartbeats 1000000 in
theorem sort_any {w0 w : World} {B c : Nat} {p : Value} {f : Int → Int} {D : Int → Prop} (S : List Int) (hS : S.Pairwise (· < ·)) (h : Srow w0 w B c S) (hc : Cmp w0 B p f D) (hD : ∀ y ∈ S, D y) (hL : S.length ≤ 288) :
    Calls Tryd.prog 64 #[.slice (some ⟨B, 0, none⟩) S.length c, .func (.func 65) #[] #[p]] w fun e w' => e = .returned (.tuple #[]) ∧ Std w0 w' B c S f := by
  have HC := hide (stab_any S hS h hc hD hL)
  clear h hc hD hS
  obtain ⟨L, HLL⟩ : ∃ L, Hid (L = S.length) := ⟨_, rfl⟩
  rw [← HLL.out] at HC ⊢
  go_enter Tryd.func64, Tryd.ntmps64
  go_wp2_with fail
  refine HC.out.mono ?_
  rintro e w1 ⟨rfl, hs⟩
  have HS := hide hs
  clear hs
  go_wp2
  (try simp only [Exit.inBlock, Exit.then])
  refine bodyPost_end (results_none rfl _ _ _) rfl ?_
  exact ⟨rfl, HS.out⟩

def Lf (l : List Int) (s t : Nat) : Prop := l.getD s 0 < l.getD t 0 ∨ l.getD s 0 = l.getD t 0 ∧ s < t

structure Srt (l : List Int) (S T : List Nat) : Prop where
  perm : T.Perm S
  rise : T.Pairwise (Lf l)

theorem srt_of {l : List Int} {S : List Nat} {X : List Int} (hp : X.Perm (ci S)) (hs : X.Pairwise (Lx (fo l))) : ∃ T, X = ci T ∧ Srt l S T := by
  refine ⟨X.map Int.toNat, ?_, ?_, ?_⟩
  · unfold ci
    rw [List.map_map]
    have : ∀ x ∈ X, ((fun s : Nat => (s : Int)) ∘ Int.toNat) x = x := fun x hx => by
      have := hp.subset hx
      simp only [ci, List.mem_map] at this
      obtain ⟨s, _, rfl⟩ := this
      simp
    rw [List.map_congr_left this]
    simp
  · have := hp.map Int.toNat
    unfold ci at this
    rw [List.map_map] at this
    have e : (Int.toNat ∘ fun s : Nat => (s : Int)) = id := by funext s; simp
    rwa [e, List.map_id] at this
  · rw [List.pairwise_map]
    refine hs.imp_of_mem fun {x y} hx hy h => ?_
    have hx' := hp.subset hx
    have hy' := hp.subset hy
    simp only [ci, List.mem_map] at hx' hy'
    obtain ⟨s, _, rfl⟩ := hx'
    obtain ⟨t, _, rfl⟩ := hy'
    unfold Lx fo at h
    unfold Lf
    simp only [Int.toNat_natCast] at h ⊢
    omega

set_option maxHeartbeats 1000000 in
theorem first_any (v : Value) (l : List Int) (S : List Nat) (w : World) (B c base : Nat) (hl : SI w v l) (ho : OI w base (.slice (some ⟨B, 0, none⟩) S.length c) (ci S)) (hne : ∀ k, v.ownBlock = some k → k < base) (hS : S.Pairwise (· < ·)) (hD : ∀ s ∈ S, s < l.length) (hL : S.length ≤ 288) :
    Calls Tryd.prog 58 #[v, .slice (some ⟨B, 0, none⟩) S.length c] w fun e w' => e = .returned (.tuple #[]) ∧ ∃ T, Srt l S T ∧ OI w' base (.slice (some ⟨B, 0, none⟩) S.length c) (ci T) ∧ Below base w w' := by
  have HL := hide hl
  obtain ⟨af, cf, rfl, hlc, hcm⟩ := hl.open
  obtain ⟨hb1, hb2⟩ := ho.lt B rfl
  obtain ⟨w1, hw1⟩ : ∃ w1, w1 = w.alloc (.cells #[.slice af l.length cf] 23) := ⟨_, rfl⟩
  have hbel : Below w.heap.size w w1 := by rw [hw1]; exact (Below.refl _ _).alloc (Nat.le_refl _) _
  have hbox : w1.cell? ⟨w.heap.size, 0, none⟩ = some (.slice af l.length cf) := by rw [hw1]; exact (H4.cellNew w _ _).1
  have hrow : Srow w1 w1 B c (ci S) := Srow.refl (by
    rw [ci_len, hw1]
    exact (ho.base (Nat.zero_le _)).alloc _)
  have hcmp := less_cmp (B := B) hbox (hl.below hbel) (by omega) (fun k hk => by have := hne k hk; omega)
  have hSi : (ci S).Pairwise (· < ·) := by
    unfold ci
    rw [List.pairwise_map]
    exact hS.imp fun h => by omega
  have HC := hide (sort_any (ci S) hSi hrow hcmp (fun y hy => by
    simp only [ci, List.mem_map] at hy
    obtain ⟨s, hs, rfl⟩ := hy
    have := hD s hs
    omega) (by rw [ci_len]; exact hL))
  have HB := hide hb1
  have hsz : w1.heap.size = w.heap.size + 1 := by rw [hw1]; simp
  rw [ci_len] at HC
  have HW := hide hw1
  have HO := hide ho
  have HBE := hide hbel
  rw [HW.out] at HC
  clear hl ho hne hS hD hrow hcmp hSi hbox hbel hw1 hb1 hsz
  go_enter Tryd.func58, Tryd.ntmps58
  go_wp2_with fail
  refine HC.out.mono ?_
  rintro e w2 ⟨rfl, hs⟩
  have HF : Hid (∃ T, Srt l S T ∧ OI w2 base (.slice (some ⟨B, 0, none⟩) S.length c) (ci T) ∧ Below base w w2) := by
    obtain ⟨X, hp, hr, hrow⟩ := hs
    obtain ⟨T, rfl, hT⟩ := srt_of hp hr
    refine ⟨T, hT, ?_, ?_⟩
    · have h1 := hrow.own
      rw [ci_len, hT.perm.length_eq] at h1
      refine ⟨h1.1, ?_⟩
      rcases h1.2 with q | ⟨g, cap, cur, he, _, r⟩
      · simp at q
      · simp only [Value.slice.injEq, Option.some.injEq, Addr.mk.injEq, and_true] at he
        exact .inr ⟨g, cap, cur, by simp only [Value.slice.injEq, Option.some.injEq, Addr.mk.injEq, and_true]; exact he, by rw [← he.1]; exact HB.out, r⟩
    · have ho := hrow.only
      have hle : base ≤ w.heap.size := by have := HB.out; omega
      refine ⟨ho.os, ho.tape, ho.output, ?_, fun k hk => ?_⟩
      · rw [ho.size]; simp
      · rw [ho.block k (by have := HB.out; omega)]
        exact Below.heap_alloc w _ k (by omega)
  clear hs
  go_wp2
  (try simp only [Exit.inBlock, Exit.then])
  refine bodyPost_end (results_none rfl _ _ _) rfl ?_
  exact ⟨rfl, HF.out⟩
end Go.Proofs.YtkmefeihkmbngaaDoor

