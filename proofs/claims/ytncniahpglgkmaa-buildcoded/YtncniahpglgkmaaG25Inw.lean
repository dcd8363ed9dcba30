import Derived.Test.YtncniahpglgkmaaG20Smp
namespace Go.Proofs.Ytncniahpglgkmaa
open Go.RowKit Go.Maps
set_option maxRecDepth 20000
set_option linter.unusedVariables false

/-- The one that goes in has passed all of Y2. -/
theorem ins_step (A Y1 Y2 Z : List Int) (x y : Int) (i : Nat) (hi : i = A.length + Y1.length + 1) : swp (A ++ ((Y1 ++ [y]) ++ x :: (Y2 ++ Z))) i (i - 1) = A ++ (Y1 ++ x :: ((y :: Y2) ++ Z)) := by
  rw [swp_comm _ _ _ (by omega)]
  have e := swp_two (A ++ Y1) [] (Y2 ++ Z) y x (i - 1) i (by simp; omega) (by simp; omega)
  simp only [List.append_assoc, List.cons_append, List.nil_append] at e ⊢
  exact e

/-- Inserting under way: Y = Y1 ++ Y2 is in order, x stands between and is ahead of all of Y2. -/
structure Insr (f : Int → Int) (A Z Y : List Int) (x : Int) (j : Nat) (X : List Int) : Prop where
  ex : ∃ Y1 Y2, Y = Y1 ++ Y2 ∧ X = A ++ (Y1 ++ x :: (Y2 ++ Z)) ∧ j = A.length + Y1.length ∧ ∀ y ∈ Y2, f x < f y

theorem insr_len {f : Int → Int} {A Z Y X : List Int} {x : Int} {j : Nat} (h : Insr f A Z Y x j X) : X.length = A.length + 1 + Y.length + Z.length ∧ A.length ≤ j ∧ j ≤ A.length + Y.length := by
  obtain ⟨Y1, Y2, e1, e2, e3, _⟩ := h.ex
  rw [e1, e2, e3]
  refine ⟨by simp; omega, by omega, by simp⟩

theorem insr_get {f : Int → Int} {A Z Y X : List Int} {x : Int} {j : Nat} (h : Insr f A Z Y x (j + 1) X) (hj : A.length ≤ j) : X.getD (j + 1) 0 = x ∧ X.getD j 0 ∈ Y ∧ (f x < f (X.getD j 0) → Insr f A Z Y x j (swp X (j + 1) j)) := by
  obtain ⟨Y1, Y2, e1, e2, e3, e4⟩ := h.ex
  have hne : Y1 ≠ [] := fun e => by rw [e] at e3; simp at e3; omega
  obtain ⟨Y0, y, rfl⟩ : ∃ Y0 y, Y1 = Y0 ++ [y] := ⟨Y1.dropLast, Y1.getLast hne, (List.dropLast_concat_getLast hne).symm⟩
  have hjl : j = A.length + Y0.length := by simp at e3; omega
  have g1 : X.getD (j + 1) 0 = x := by
    rw [e2]
    have := getD_app (A ++ (Y0 ++ [y])) x (Y2 ++ Z) 0
    have e5 : A ++ (Y0 ++ [y] ++ x :: (Y2 ++ Z)) = A ++ (Y0 ++ [y]) ++ x :: (Y2 ++ Z) := by simp
    rw [e5, show j + 1 = (A ++ (Y0 ++ [y])).length by simp; omega]
    exact this
  have g2 : X.getD j 0 = y := by
    rw [e2]
    have := getD_app (A ++ Y0) y (x :: (Y2 ++ Z)) 0
    have e5 : A ++ (Y0 ++ [y] ++ x :: (Y2 ++ Z)) = A ++ Y0 ++ y :: (x :: (Y2 ++ Z)) := by simp
    rw [e5, show j = (A ++ Y0).length by simp; omega]
    exact this
  refine ⟨g1, by rw [g2, e1]; simp, fun hlt => ?_⟩
  rw [g2] at hlt
  refine ⟨Y0, y :: Y2, by rw [e1]; simp, ?_, hjl, fun z hz => ?_⟩
  · rw [e2]
    have := ins_step A Y0 Y2 Z x y (j + 1) (by omega)
    simpa using this
  · rcases List.mem_cons.1 hz with rfl | hz
    · exact hlt
    · exact e4 z hz

theorem insr_done {f : Int → Int} {A Z Y X : List Int} {x : Int} {j : Nat} (h : Insr f A Z Y x j X) (hs : Y.Pairwise (Lx f)) (hx : ∀ y ∈ Y, y < x) (hend : j = A.length ∨ ∃ k, j = k + 1 ∧ A.length ≤ k ∧ ¬ f x < f (X.getD k 0)) :
    ∃ Y', X = A ++ (Y' ++ Z) ∧ Y'.Perm (Y ++ [x]) ∧ Y'.Pairwise (Lx f) := by
  obtain ⟨Y1, Y2, e1, e2, e3, e4⟩ := h.ex
  refine ⟨Y1 ++ x :: Y2, by rw [e2]; simp, ?_, ?_⟩
  · rw [e1]
    exact List.perm_middle.trans ((List.perm_append_comm (l₁ := [x]) (l₂ := Y1 ++ Y2)))
  · refine ins_sorted (by rw [← e1]; exact hs) (fun y hy => ?_) fun y hy => .inl (e4 y hy)
    rcases hend with e | ⟨k, e, hk, hn⟩
    · exfalso
      have : Y1.length = 0 := by omega
      rw [List.eq_nil_of_length_eq_zero this] at hy
      simp at hy
    · have hne : Y1 ≠ [] := fun e' => by rw [e'] at hy; simp at hy
      obtain ⟨Y0, z, rfl⟩ : ∃ Y0 y, Y1 = Y0 ++ [y] := ⟨Y1.dropLast, Y1.getLast hne, (List.dropLast_concat_getLast hne).symm⟩
      have g2 : X.getD k 0 = z := by
        rw [e2]
        have := getD_app (A ++ Y0) z (x :: (Y2 ++ Z)) 0
        have hk0 : k = A.length + Y0.length := by simp at e3; omega
        have e5 : A ++ (Y0 ++ [z] ++ x :: (Y2 ++ Z)) = A ++ Y0 ++ z :: (x :: (Y2 ++ Z)) := by simp
        rw [e5, show k = (A ++ Y0).length by simp; omega]
        exact this
      rw [g2] at hn
      have hyz : f y ≤ f z := by
        rcases List.mem_append.1 hy with q | q
        · have hs' := hs
          rw [e1, List.append_assoc, List.pairwise_append] at hs'
          have := hs'.2.2 y q z (by simp)
          unfold Lx at this
          omega
        · simp at q; rw [q]; exact Int.le_refl _
      exact lx_of (by omega) fun _ => hx y (by rw [e1]; exact List.mem_append_left _ hy)
end Go.Proofs.Ytncniahpglgkmaa

namespace Go.Proofs.Ytncniahpglgkmaa
open Go.RowKit Go.Maps
set_option maxRecDepth 20000
set_option linter.unusedVariables false

/-- So many of U are in order. -/
def Inso (f : Int → Int) (A U Z : List Int) (k : Nat) (X : List Int) : Prop := ∃ Y, X = A ++ (Y ++ (U.drop k ++ Z)) ∧ Y.Perm (U.take k) ∧ Y.Pairwise (Lx f)

theorem inso_start {f : Int → Int} {A U Z : List Int} {k : Nat} {X : List Int} (h : Inso f A U Z k X) (hk : k < U.length) : ∃ Y, Y.Perm (U.take k) ∧ Y.Pairwise (Lx f) ∧ Insr f A (U.drop (k + 1) ++ Z) Y (U.getD k 0) (A.length + k) X := by
  obtain ⟨Y, e, p, s⟩ := h
  refine ⟨Y, p, s, Y, [], by simp, ?_, ?_, fun y hy => by simp at hy⟩
  · rw [e, List.drop_eq_getElem_cons hk, show U.getD k 0 = U[k] by simp [hk]]
    simp only [List.nil_append, List.cons_append]
  · have := p.length_eq
    rw [List.length_take] at this
    omega

theorem inso_next {f : Int → Int} {A U Z Y Y' : List Int} {k : Nat} {X : List Int} (hk : k < U.length) (hp : Y.Perm (U.take k)) (e : X = A ++ (Y' ++ (U.drop (k + 1) ++ Z))) (p : Y'.Perm (Y ++ [U.getD k 0])) (s : Y'.Pairwise (Lx f)) : Inso f A U Z (k + 1) X := by
  refine ⟨Y', e, p.trans ?_, s⟩
  rw [List.take_succ_eq_append_getElem hk]
  rw [show U.getD k 0 = U[k] by simp [hk]]
  exact List.Perm.append_right _ hp

set_option maxHeartbeats 4000000 in
theorem ins_any {w0 w : World} {B c : Nat} {p : Value} {f : Int → Int} {D : Int → Prop} (A U Z X : List Int) (hX : X = A ++ (U ++ Z)) (h : Srow w0 w B c X) (hc : Cmp w0 B p f D) (hD : ∀ y ∈ X, D y) (hL : X.length ≤ 288)
    (a b : Nat) (ha : a = A.length) (hb : b = A.length + U.length) (hU : U.Pairwise (· < ·)) :
    Calls Try.prog 60 #[.slice (some ⟨B, 0, none⟩) X.length c, .int .i64 a, .int .i64 b, .func (.func 29) #[] #[p]] w fun e w' => e = .returned (.tuple #[]) ∧ Mrg w0 w' B c A U Z f := by
  have HS := hide h
  have hlen : A.length + U.length + Z.length = X.length := by rw [hX]; simp; omega
  have HX := hide hX
  obtain ⟨L, HLL⟩ : ∃ L, Hid (L = X.length) := ⟨_, rfl⟩
  rw [← HLL.out] at hlen hL ⊢
  have hcap := h.cap
  rw [← HLL.out] at hcap
  have hbL : b ≤ L := by omega
  have HA := hide ha
  have HUL : Hid (U.length = b - a) := by show _ = _; omega
  have hab : a ≤ b := by omega
  have HCM := hide hc
  have HDA : Hid ((∀ y ∈ U, D y)) := fun y hy => hD y (by rw [hX]; exact List.mem_append_right _ (List.mem_append_left _ hy))
  have HRI : Hid (∀ k, k < U.length → ∀ y ∈ U.take k, y < U.getD k 0) := fun k hk y hy => by
    obtain ⟨i, hi, rfl⟩ := List.getElem_of_mem hy
    rw [List.length_take] at hi
    rw [List.getElem_take, show U.getD k 0 = U[k] by simp [hk]]
    exact List.pairwise_iff_getElem.1 hU i k (by omega) hk (by omega)
  have HXL : Hid (A.length + U.length + Z.length = L) := hlen
  have H1 : Hid (U.length = 0 → Mrg w0 w B c A U Z f) := fun hz => by
    have hz' : U = [] := List.eq_nil_of_length_eq_zero hz
    subst hz'
    exact ⟨[], X, by rw [hX], List.Perm.refl _, List.Pairwise.nil, h⟩
  have H2 : Hid (1 ≤ U.length → Inso f A U Z 1 X) := fun h1 => by
    refine ⟨U.take 1, ?_, List.Perm.refl _, ?_⟩
    · rw [hX, ← List.append_assoc (U.take 1), List.take_append_drop]
    · cases U with
      | nil => simp
      | cons x r => simp
  clear h hX hc hD ha hb hU hlen
  go_enter Try.func60, Try.ntmps60
  go_wp2
  by_cases hab2 : a < b
  case neg =>
    have hz : U.length = 0 := by rw [HUL.out]; omega
    have HF := hide (H1.out hz)
    have hn : ¬ (a : Int) + 1 < (b : Int) := by omega
    clear hz
    refine wp_loop_rounds 1 ?_
    rw [rounds_succ]
    go_wp2
    (try simp only [Exit.inBlock, Exit.then])
    refine bodyPost_end (results_none rfl _ _ _) rfl ?_
    exact ⟨rfl, HF.out⟩
  have HI0 := hide (H2.out (by rw [HUL.out]; omega))
  go_loopw [8] (fun vi wr => ∃ k : Nat, 1 ≤ k ∧ a + k ≤ b ∧ vi = .int .i64 ((a : Int) + k) ∧ Hid (∃ X1, Inso f A U Z k X1 ∧ Srow w0 wr B c X1 ∧ X1.length = L)) (fun vi _ => b - (intOf vi).toNat)
  case atStart => exact ⟨1, Nat.le_refl _, by omega, by go_num, X, HI0.out, HS.out, HLL.out.symm⟩
  case round =>
    obtain ⟨k, hk1, hkb, rfl, HK⟩ := hrel
    obtain ⟨X1, hi1, hs1, hl1⟩ := HK.out
    by_cases hlt : a + k < b
    · have hkU : k < U.length := by rw [HUL.out]; omega
      obtain ⟨Y, hYp, hYs, hIr⟩ := inso_start hi1 hkU
      have hYl : Y.length = k := by rw [hYp.length_eq, List.length_take]; omega
      have HYP := hide hYp
      have HYS := hide hYs
      have HYD : Hid (∀ y ∈ Y, D y ∧ y < U.getD k 0) := fun y hy => ⟨HDA.out y (List.mem_of_mem_take (hYp.subset hy)), HRI.out k hkU y (hYp.subset hy)⟩
      have HDX := hide (HDA.out (U.getD k 0) (by rw [show U.getD k 0 = U[k] by simp [hkU]]; exact List.getElem_mem hkU))
      rw [← HA.out] at hIr
      obtain ⟨x, HXX⟩ : ∃ x, Hid (x = U.getD k 0) := ⟨_, rfl⟩
      rw [← HXX.out] at hIr HYD HDX
      have HIR := hide hIr
      have HS1 := hide hs1
      have HL1 := hide hl1
      have HYL := hide hYl
      have HKU := hide hkU
      obtain ⟨u, hu⟩ : ∃ u, u = a + k := ⟨_, rfl⟩
      have hau : (a : Int) + (k : Int) = (u : Int) := by omega
      have hub : (u : Int) < (b : Int) := by omega
      rw [← hu] at HIR
      have hu1 : a + k ≤ u ∧ u ≤ a + k := by omega
      rw [hau]
      clear hi1 hs1 hl1 hYp hYs hIr hYl HK hu hau hkU
      go_wp2
      go_loopw [9] (fun vj wr => ∃ j : Nat, a ≤ j ∧ j ≤ u ∧ vj = .int .i64 j ∧ Hid (∃ X2, Insr f A (U.drop (k + 1) ++ Z) Y x j X2 ∧ Srow w0 wr B c X2 ∧ X2.length = L)) (fun vj _ => (intOf vj).toNat)
      case atStart => exact ⟨u, by omega, Nat.le_refl _, rfl, X1, HIR.out, HS1.out, HL1.out⟩
      case round =>
        obtain ⟨j, haj, hju, rfl, HJ⟩ := hrel
        obtain ⟨X2, hr2, hs2, hl2⟩ := HJ.out
        have HR2 := hide hr2
        have HS2 := hide hs2
        have HL2 := hide hl2
        clear hr2 hs2 hl2 HJ
        by_cases hj0 : a < j
        · obtain ⟨t, rfl⟩ : ∃ t, j = t + 1 := ⟨j - 1, by omega⟩
          obtain ⟨g1, g2, g3⟩ := insr_get HR2.out (by rw [← HA.out]; omega)
          have c1 := HS2.out.get (i := t + 1) (by rw [HL2.out]; omega)
          have c2 := HS2.out.get (i := t) (by rw [HL2.out]; omega)
          have f1 := HS2.out.fz (i := t + 1) (by rw [HL2.out]; omega)
          have f2 := HS2.out.fz (i := t) (by rw [HL2.out]; omega)
          have hsw := HS2.out.swap (i := t + 1) (j := t) (by rw [HL2.out]; omega) (by rw [HL2.out]; omega)
          have dy := (HYD.out _ g2).1
          have HST : Hid (¬ f x < f (X2.getD t 0) → ∃ Y', X2 = A ++ (Y' ++ (U.drop (k + 1) ++ Z)) ∧ Y'.Perm (Y ++ [x]) ∧ Y'.Pairwise (Lx f)) := fun hn => insr_done HR2.out HYS.out (fun y hy => (HYD.out y hy).2) (.inr ⟨t, rfl, by rw [← HA.out]; omega, hn⟩)
          rw [g1] at c1 hsw
          obtain ⟨y, hy⟩ : ∃ y, X2.getD t 0 = y := ⟨_, rfl⟩
          rw [hy] at c2 hsw g3 dy HST
          have HSW := hide hsw.drew
          have HG3 : Hid (f x < f y → Insr f A (U.drop (k + 1) ++ Z) Y x t (swp X2 (t + 1) t)) := g3
          have HC : Hid (∀ n, Calls Try.prog 29 #[.int .i64 x, .int .i64 y, p] (wr.drewN n) fun e W' => e = .returned (.int .i64 (cmpv (f x) (f y))) ∧ ∃ k, W' = wr.drewN k) := fun n =>
            (HCM.out _ ((HS2.out.drewN n).only) x y HDX.out dy).mono fun e W' ⟨he, k, hk⟩ => ⟨he, n + k, by rw [hk, World.drewN_drewN]⟩
          have hcv := cmpv_lt (f x) (f y)
          obtain ⟨cv, HCV⟩ : ∃ cv, Hid (cv = cmpv (f x) (f y)) := ⟨_, rfl⟩
          rw [← HCV.out] at hcv HC
          obtain ⟨z, hz⟩ : ∃ z, t + 1 = z := ⟨_, rfl⟩
          rw [hz] at c1 f1 HSW
          have hzt : (z : Int) - 1 = (t : Int) := by omega
          have n1 : ¬ t = z := by omega
          have n2 : ¬ z = t := by omega
          have hzL : (z : Int) < (L : Int) := by omega
          have htL : (t : Int) < (L : Int) := by omega
          have haz : (a : Int) < (z : Int) := by omega
          have hzc : ((t + 1 : Nat) : Int) = (z : Int) := by omega
          rw [hzc]
          have HZ := hide hz
          clear g1 g2 g3 hy hsw hzc hz
          by_cases hlt2 : cv < 0
          · have hnd : decide (cv < 0) = true := decide_eq_true hlt2
            have HNX := hide (HG3.out (hcv.1 hlt2))
            have hXl : (swp X2 (t + 1) t).length = L := by rw [swp_len]; exact HL2.out
            have HXl := hide hXl
            clear hcv hXl
            have c1d : ∀ n, (wr.drewN n).cell? ⟨B, z, none⟩ = some (.int .i64 x) := fun _ => c1
            go_wp2
            go_quiet (first | (go_at_call 29; exact HC.out _))
            have f1d : (wr.drewN nq).frozen? ⟨B, z, none⟩ = false := f1
            have f2d : (wr.drewN nq).frozen? ⟨B, t, none⟩ = false := f2
            have c1e : (wr.drewN nq).cell? ⟨B, z, none⟩ = some (.int .i64 x) := c1
            have c2e : (wr.drewN nq).cell? ⟨B, t, none⟩ = some (.int .i64 y) := c2
            have HSW2 : Hid (Srow w0 (((wr.drewN nq).setCell ⟨B, z, none⟩ (.int .i64 y)).setCell ⟨B, t, none⟩ (.int .i64 x)).drew B c (swp X2 (t + 1) t)) := by
              have q := (HS2.out.drewN nq).swap (i := t + 1) (j := t) (by rw [HL2.out]; omega) (by rw [HL2.out]; omega)
              have e1 : X2.getD t 0 = y := by
                have := (HS2.out.get (i := t) (by rw [HL2.out]; omega)).symm.trans c2
                simpa using this
              have e2 : X2.getD (t + 1) 0 = x := by
                have := HS2.out.get (i := t + 1) (by rw [HL2.out]; omega)
                rw [HZ.out] at this
                have := this.symm.trans c1
                rw [HZ.out]
                simpa using this
              rw [e1, e2, HZ.out] at q
              rw [HZ.out]
              exact q.drew
            obtain ⟨wq, HWQ⟩ : ∃ wq, Hid (wq = wr.drewN nq) := ⟨_, rfl⟩
            rw [← HWQ.out] at f1d f2d c1e c2e HSW2 ⊢
            clear c1 c2 f1 f2 c1d
            go_wp2
            go_region
            go_wp2
            go_roundw
            case rel => exact ⟨t, by omega, by omega, by go_num, _, HNX.out, HSW2.out, HXl.out⟩
            case measure => simp [intOf]; omega
          · have hnd : decide (cv < 0) = false := decide_eq_false hlt2
            obtain ⟨Y', hY1, hY2, hY3⟩ := HST.out (fun q => hlt2 (hcv.2 q))
            have HNX : Hid (Inso f A U Z (k + 1) X2) := inso_next HKU.out HYP.out hY1 (by rw [← HXX.out]; exact hY2) hY3
            clear hcv hY1 hY2 hY3
            go_wp2
            go_quiet (first | (go_at_call 29; exact HC.out _))
            go_wp2
            go_roundw
            case rel => exact ⟨k + 1, by omega, by omega, by go_num, X2, HNX.out, HS2.out.drewN _, HL2.out⟩
            case measure => simp [intOf]; omega
        · obtain rfl : j = a := by omega
          have hja : ¬ (j : Int) < (j : Int) := by omega
          obtain ⟨Y', hY1, hY2, hY3⟩ := insr_done HR2.out HYS.out (fun y hy => (HYD.out y hy).2) (.inl HA.out)
          have HNX : Hid (Inso f A U Z (k + 1) X2) := inso_next HKU.out HYP.out hY1 (by rw [← HXX.out]; exact hY2) hY3
          have hd0 : decide ((j : Int) < (j : Int)) = false := decide_eq_false hja
          clear hY1 hY2 hY3
          go_wp2
          go_quiet (fail)
          go_wp2
          go_roundw
          case rel => exact ⟨k + 1, by omega, by omega, by go_num, X2, HNX.out, HS2.out.drewN _, HL2.out⟩
          case measure => simp [intOf]; omega
    · have hlt' : ¬ (a : Int) + k < (b : Int) := by omega
      have HF : Hid (Mrg w0 wr B c A U Z f) := by
        obtain ⟨Y, e, p1, s1⟩ := hi1
        have hkU : U.length = k := by rw [HUL.out]; omega
        rw [List.drop_of_length_le (by omega), List.nil_append] at e
        rw [List.take_of_length_le (by omega)] at p1
        exact ⟨Y, X1, e, p1, s1, hs1⟩
      clear hi1 hs1 hl1 HK
      go_wp2
      (try simp only [Exit.inBlock, Exit.then])
      refine bodyPost_end (results_none rfl _ _ _) rfl ?_
      exact ⟨rfl, HF.out⟩
end Go.Proofs.Ytncniahpglgkmaa

