import Derived.Test.YtiabhmdefaabgaaDoorGRex
import Derived.Test.YtiabhmdefaabgaaDoorGOpu
namespace Go.Proofs.YtiabhmdefaabgaaDoor
open Go.RowKit Go.Maps
set_option maxRecDepth 20000
set_option linter.unusedVariables false

theorem SR.front {w : World} {a : Option Addr} {n c : Nat} {R : List Rn} {p : Rn} (h : SR w (.slice a n c) (R ++ [p])) (hn : n = R.length + 1) : SR w (.slice a R.length c) R := by
  obtain ⟨ao, cap, he, h1, h2, h3, h4⟩ := h
  simp only [Value.slice.injEq] at he
  obtain ⟨rfl, -, rfl⟩ := he
  rw [List.length_append, List.length_singleton] at h1
  refine ⟨_, _, rfl, by omega, h2, h3, fun x hx i hi => ?_⟩
  have := h4 x hx i (by rw [List.length_append, List.length_singleton]; omega)
  have e : (R ++ [p]).getD i rn0 = R.getD i rn0 := by simp only [List.getD_eq_getElem?_getD, List.getElem?_append_left hi]
  rwa [e] at this

theorem SR.back {w : World} {a : Option Addr} {n c : Nat} {R : List Rn} {p : Rn} (h : SR w (.slice a n c) (R ++ [p])) (hn : n = R.length + 1) : ∃ b o, a = some ⟨b, o, none⟩ ∧ w.cell? ⟨b, o + R.length * 2, none⟩ = some (.int .i64 p.1) ∧ w.cell? ⟨b, o + R.length * 2 + 1, none⟩ = some (.int .i64 p.2) := by
  have h' : SR w (.slice a (R ++ [p]).length c) (R ++ [p]) := by rw [List.length_append, List.length_singleton, ← hn]; exact h
  obtain ⟨b, o, e, c1, c2⟩ := h'.get (Below.refl _ _) (k := R.length) (by simp)
  have e1 : (R ++ [p]).getD R.length rn0 = p := by simp
  rw [e1] at c1 c2
  exact ⟨b, o, e, c1, c2⟩

set_option maxHeartbeats 2000000 in
theorem headerExpands_walk (v : Value) (R : List Rn) (w : World) (h : SR w v R) (T : Tab w) (hn : R.length ≤ 1048576) :
    Calls Tryd.prog 3 #[v] w fun e w' => e = .returned (.bool true) ∧ Below w.heap.size w w' := by
  have HS := hide h
  have HT := hide T
  obtain ⟨ao, cap, rfl, hlc, hcm⟩ := h.open
  clear h T
  go_enter Tryd.func3, Tryd.ntmps3
  go_wp2_with fail
  refine (lruns_any _ R w HS.out hn).mono ?_
  rintro e w1 ⟨rfl, o1, b1⟩
  have HO1 := hide o1
  have HB1 := hide b1
  have hbw := b1.size
  clear o1 b1
  have hr8 : R.length ≤ 100000000 := by omega
  go_wp2_with (at_builtin; refine wpRun rfl _ _ rfl w.heap.size (.slice (some ⟨w.heap.size, 0, none⟩) R.length R.length) R (-77) 0 rfl HO1.out _ rfl hr8 hbw ?_)
  intro v3 w3 ho3 hg3
  have HB3 := hide (grow_run HB1.out (Nat.le_refl _) HO1.out hg3)
  obtain ⟨a3, c3, hv3, hc3, hc4⟩ := ho3.shape
  rw [List.length_append, List.length_singleton] at hv3 hc3
  subst hv3
  have HF3 := hide (ho3.sr.front rfl)
  have HK3 := hide ho3.sr
  have HT3 := hide (HT.out.mono HB3.out)
  clear ho3 hg3 HO1
  obtain ⟨b5, o5, e5, _⟩ := HK3.out.back rfl
  subst e5
  go_wp2_with fail
  refine (expand_any _ R w3 HF3.out HT3.out hn).mono ?_
  rintro e w4 ⟨u4, rfl, o4, b4⟩
  obtain ⟨a4, c4, hu4⟩ := o4.shape
  subst hu4
  have HO4 := hide o4
  have HB4 := hide (HB3.out.trans (b4.mono HB3.out.size))
  have HF4 := hide (HF3.out.below b4)
  have HK4 := hide (HK3.out.below b4)
  clear o4 b4 HF3 HK3
  go_wp2_with fail
  refine (xexpand_any _ R w4 (HS.out.below HB4.out) hn).mono ?_
  rintro e w5 ⟨u5, rfl, o5', b5'⟩
  obtain ⟨a6, c6, hu5⟩ := o5'.shape
  subst hu5
  have HB5 := hide (HB4.out.trans (b5'.mono HB4.out.size))
  have HQ := hide (isame_any _ _ _ _ w5 ((HO4.out.below b5' (Nat.le_refl _)).sb) o5'.sb)
  rw [eqI_self] at HQ
  have HF5 := hide (HF4.out.below b5')
  have HK5 := hide (HK4.out.below b5')
  clear o5' b5' HF4 HK4 HO4
  go_wp2_with fail
  refine (lnum_any w5 (xpE [] R)).mono ?_
  rintro e w6 ⟨rfl, hw6⟩
  subst hw6
  go_wp2_with fail
  refine HQ.out.mono ?_
  rintro e w7 ⟨rfl, n7, hw7⟩
  have b7 : Below w6.heap.size w6 w7 := by rw [hw7]; exact below_drewN (Below.refl _ _) n7
  have HB7 := hide (HB5.out.trans (b7.mono HB5.out.size))
  have HA7 := hide (alike_any _ _ R R w7 (HF5.out.below b7) (HS.out.below HB7.out))
  rw [eqR_self] at HA7
  have HK7 := hide (HK5.out.below b7)
  clear hw7 b7 HF5 HK5
  go_wp2_with fail
  refine HA7.out.mono ?_
  rintro e w8 ⟨rfl, n8, hw8⟩
  have b8 : Below w7.heap.size w7 w8 := by rw [hw8]; exact below_drewN (Below.refl _ _) n8
  have HB8 := hide (HB7.out.trans (b8.mono HB7.out.size))
  obtain ⟨b9, o9, e9, x1, x2⟩ := (HK7.out.below b8).back rfl
  simp only [Option.some.injEq, Addr.mk.injEq, and_true] at e9
  obtain ⟨rfl, rfl⟩ := e9
  clear hw8 b8
  have heq := fun W => rn_eql W (-77) 0 (-77) 0
  have hgd := run_guard
  have hrl : (R.length : Int) < (R.length : Int) + 1 := by omega
  simp only at x1 x2
  go_wp2
  go_ret
  exact ⟨rfl, HB8.out⟩

theorem cellsRun : Tryd.prog.cellsOf 25 = 2 := by kernel_rfl

theorem open_run {H : Type} {enc : TypeId × Value → H} {W : World} {n : Nat} {cs : List Value} {y : DataW H × List MemPlace} (h : DataW.trod enc Tryd.prog W 0 (fun _ => true) true n 25 cs = some y) :
    ∃ o : Rn, cs = [.int .i64 o.1, .int .i64 o.2] := by
  obtain ⟨xs, m, _, rfl, hl, hxl, hf⟩ := DataW.trod_struct Tryd.underlying25 h
  rw [cellsRun] at hl
  obtain ⟨c0, c1, rfl⟩ := list2 hl
  obtain ⟨y0, y1, rfl⟩ := list2 hxl
  have h0 : DataW.trod enc Tryd.prog W 0 (fun _ => true) true m 3 (([c0, c1].drop 0).take (Tryd.prog.cellsOf 3)) = some y0 := hf 0 _ rfl
  have h1 : DataW.trod enc Tryd.prog W 0 (fun _ => true) true m 3 (([c0, c1].drop 1).take (Tryd.prog.cellsOf 3)) = some y1 := hf 1 _ rfl
  rw [show Tryd.prog.cellsOf 3 = 1 by kernel_rfl] at h0 h1
  simp only [List.drop, List.take] at h0 h1
  obtain ⟨k0, e0, _, _⟩ := DataW.trod_int Tryd.underlying3 h0
  obtain ⟨k1, e1, _, _⟩ := DataW.trod_int Tryd.underlying3 h1
  simp at e0 e1
  subst e0 e1
  exact ⟨(k0, k1), rfl⟩
end Go.Proofs.YtiabhmdefaabgaaDoor

