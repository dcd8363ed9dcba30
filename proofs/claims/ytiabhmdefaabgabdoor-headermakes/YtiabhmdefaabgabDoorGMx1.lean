import Derived.Test.YtiabhmdefaabgabDoorGMk4
import Derived.Test.YtiabhmdefaabgabDoorGRx3
import Derived.Test.YtiabhmdefaabgabDoorGXck
namespace Go.Proofs.YtiabhmdefaabgabDoor
open Go.RowKit Go.Maps
set_option maxRecDepth 20000
set_option linter.unusedVariables false

def slnv : Value → Nat | .slice _ n _ => n | _ => 0

theorem OI.cut {w : World} {B g n c k : Nat} {l : List Int} (h : OI w B (.slice (some ⟨g, 0, none⟩) n c) l) (hk : k ≤ l.length) : OI w B (.slice (some ⟨g, 0, none⟩) k c) (l.take k) := by
  have hl : (l.take k).length = k := by rw [List.length_take]; omega
  rcases h.2 with ⟨hv, _⟩ | ⟨g', cap, cur, hv, h1, h2, h3, h4, h5, h6⟩
  · cases hv
  · simp only [Value.slice.injEq, Option.some.injEq, Addr.mk.injEq, and_true] at hv
    obtain ⟨rfl, rfl, rfl⟩ := hv
    refine ⟨by simp, .inr ⟨g, c, cur, by rw [hl], h1, h2, by omega, h4, h5, ?_⟩⟩
    rw [hl]
    have := congrArg (List.take (k * 1)) h6
    rw [List.take_take, show min (k * 1) (l.length * 1) = k * 1 by omega] at this
    rw [this, List.map_take, Nat.mul_one]

theorem cut_trm {l : List Int} {f : Nat} : (l ++ List.replicate (f - l.length) 0).take (tlk (l ++ List.replicate (f - l.length) 0) f (l ++ List.replicate (f - l.length) 0).length) = trm l f := by
  by_cases h : l.length ≤ f
  · have hl : (l ++ List.replicate (f - l.length) (0 : Int)).length = f := by rw [List.length_append, List.length_replicate]; omega
    rw [hl, tl_low _ f f (Nat.le_refl _), List.take_of_length_le (by omega)]
    unfold trm tln
    rw [tl_low l f l.length h, List.take_of_length_le (Nat.le_refl _)]
  · rw [show f - l.length = 0 by omega, List.replicate_zero, List.append_nil]
    unfold trm
    have := tl_ge l f l.length (by omega)
    unfold tln
    rw [show f - tlk l f l.length = 0 by omega, List.replicate_zero, List.append_nil]

set_option maxHeartbeats 2000000 in
theorem xcut_any (v : Value) (l : List Int) (f : Nat) (w : World) (h : SI w v l) (hf1 : 1 ≤ f) (hf : f ≤ 257) (hn : l.length ≤ 286) :
    Calls Tryd.prog 46 #[v, .int .i64 f] w fun e w' => ∃ a c, e = .returned (.slice a (trm l f).length c) ∧ OI w' w.heap.size (.slice a (trm l f).length c) (trm l f) ∧ Below w.heap.size w w' := by
  have HS := hide h
  obtain ⟨ao, cap, rfl, hlc, hcm⟩ := h.open
  clear h
  go_enter Tryd.func46, Tryd.ntmps46
  go_wp2
  go_loopw [5, 6] (fun u i wr => ∃ k : Nat, k ≤ l.length ∧ i = .int .i64 k ∧ Hid (OI wr w.heap.size u (l.take k)) ∧ Hid (Below w.heap.size w wr)) (fun _ i _ => l.length - (intOf i).toNat)
  case atStart => exact ⟨0, Nat.zero_le _, rfl, World.ownsRow_nil _ _ _ _, Below.refl _ _⟩
  case round =>
    obtain ⟨k, hk, rfl, HO, HB⟩ := hrel
    by_cases hlt : k < l.length
    · have hlt' : (k : Int) < (l.length : Int) := by omega
      obtain ⟨b, o, rfl, hc⟩ := HS.out.get HB.out hlt
      have HD : Hid (l.take (k + 1) = l.take k ++ [l.getD k 0]) := by show _ = _; rw [List.take_succ_eq_append_getElem hlt]; simp [hlt]
      obtain ⟨y, HY⟩ : ∃ y, Hid (y = l.getD k 0) := ⟨_, rfl⟩
      rw [← HY.out] at hc HD
      obtain ⟨D, HDD⟩ : ∃ D, Hid (D = l.take k) := ⟨_, rfl⟩
      have hDl : D.length ≤ k := by rw [HDD.out, List.length_take]; omega
      rw [← HDD.out] at HO HD
      have hBw := HB.out.size
      obtain ⟨a1, p1, hu⟩ := HO.out.shape
      subst hu
      have HALC := hide (HO.out.alloc (.cells #[.int .i64 y] 3))
      have HSR := hide (built_srcI wr [y])
      go_wp2_with (at_builtin; refine wpList_appI rfl _ _ 22 rfl w.heap.size _ _ D [y] rfl HALC.out rfl HSR.out (by simp; omega) (by simp; omega) ?_)
      intro v3 w3 ho3 hgr3
      have HN : Hid (OI w3 w.heap.size v3 (l.take (k + 1)) ∧ Below w.heap.size w w3) := ⟨by rw [HD.out]; exact ho3, grow_one7 HB.out (Nat.le_refl _) HO.out hgr3⟩
      clear ho3 hgr3
      go_wp2
      go_roundw
      case rel => exact ⟨k + 1, by omega, by go_num, HN.out.1, HN.out.2⟩
      case measure => simp [intOf]; omega
    · obtain rfl : k = l.length := by omega
      have hlt' : ¬ (l.length : Int) < (l.length : Int) := by omega
      have HF : Hid (OI wr w.heap.size u5 (l ++ List.replicate 0 0)) := by have := HO.out; rw [List.take_of_length_le (Nat.le_refl _)] at this; rw [List.replicate_zero, List.append_nil]; exact hide this
      clear HO
      obtain ⟨a0, p0, hu0⟩ := HF.out.shape
      have HF2 : Hid (∃ M : List Int, ∃ j, M = l ++ List.replicate j 0 ∧ (j = 0 ∨ l.length + j ≤ f) ∧ u5 = .slice a0 M.length p0 ∧ OI wr w.heap.size (.slice a0 M.length p0) M) := ⟨_, 0, rfl, .inl rfl, hu0, by have := HF.out; rwa [hu0] at this⟩
      clear HF hu0
      obtain ⟨M0, j0, hM0, hj0, hu0, hO0⟩ := HF2.out
      subst hu0
      have HO0 := hide hO0
      have HM0 := hide hM0
      have HJ0 := hide hj0
      clear hO0 hM0 hj0 HF2
      go_wp2
      go_loopw [5] (fun u wr => ∃ (M : List Int) (a : Option Addr) (p : Nat), u = .slice a M.length p ∧ Hid (∃ j, M = l ++ List.replicate j 0 ∧ (j = 0 ∨ l.length + j ≤ f)) ∧ M.length ≤ 286 ∧ Hid (OI wr w.heap.size (.slice a M.length p) M) ∧ Hid (Below w.heap.size w wr)) (fun u _ => f - slnv u)
      case atStart => exact ⟨M0, a0, p0, rfl, ⟨j0, HM0.out, HJ0.out⟩, by rw [HM0.out, List.length_append, List.length_replicate]; have := HJ0.out; omega, HO0.out, HB.out⟩
      case round =>
        obtain ⟨M, a1, p1, rfl, HMJ, hMl, HO2, HB2⟩ := hrel
        by_cases hlt2 : M.length < f
        · have hlt2' : (M.length : Int) < (f : Int) := by omega
          have HNX : Hid (∃ j, M ++ [0] = l ++ List.replicate j 0 ∧ (j = 0 ∨ l.length + j ≤ f)) := by
            obtain ⟨j, e, _⟩ := HMJ.out
            refine ⟨j + 1, by rw [e, List.replicate_succ', List.append_assoc], .inr ?_⟩
            have := congrArg List.length e
            rw [List.length_append, List.length_replicate] at this
            omega
          have hBw := HB2.out.size
          have HALC := hide (HO2.out.alloc (.cells #[.int .i64 0] 3))
          have HSR := hide (built_srcI wr [0])
          go_wp2_with (at_builtin; refine wpList_appI rfl _ _ 22 rfl w.heap.size _ _ M [0] rfl HALC.out rfl HSR.out (by simp; omega) (by simp; omega) ?_)
          intro v3 w3 ho3 hgr3
          have HN : Hid (Below w.heap.size w w3) := grow_one7 HB2.out (Nat.le_refl _) HO2.out hgr3
          obtain ⟨a3, p3, hv3⟩ := ho3.shape
          obtain ⟨M3, HM3⟩ : ∃ M3 : List Int, Hid (M3 = M ++ [0]) := ⟨_, hide rfl⟩
          rw [← HM3.out] at hv3 ho3 HNX
          have hM3 : M3.length ≤ M.length + 1 ∧ M.length + 1 ≤ M3.length := by rw [HM3.out, List.length_append, List.length_singleton]; omega
          subst hv3
          have HO3 := hide ho3
          clear ho3 hgr3
          go_wp2
          go_roundw
          case rel => exact ⟨M3, a3, p3, rfl, HNX, by omega, HO3, HN⟩
          case measure => simp only [slnv]; omega
        · have hlt2' : ¬ (M.length : Int) < (f : Int) := by omega
          have HMF : Hid (M = l ++ List.replicate (f - l.length) 0) := by
            obtain ⟨j, e, hj⟩ := HMJ.out
            have := congrArg List.length e
            rw [List.length_append, List.length_replicate] at this
            show _ = _
            rw [e]
            congr 2
            omega
          have HTR : Hid (trm l f = M.take (tlk M f M.length)) := by show _ = _; rw [HMF.out]; exact cut_trm.symm
          obtain ⟨g, cg, hv, hg1, hg2, hg3, hg4⟩ := HO2.out.form (by omega)
          simp only [Value.slice.injEq, true_and] at hv
          obtain ⟨rfl, rfl⟩ := hv
          obtain ⟨ml, hml, HML⟩ : ∃ ml, ml ≤ 286 ∧ Hid (M.length = ml) := ⟨M.length, hMl, rfl⟩
          rw [HML.out] at hlt2 hlt2' hg3 HO2 HTR ⊢
          clear hMl HMJ HMF
          go_wp2
          go_loopw [5] (fun u wr2 => ∃ n : Nat, f ≤ n ∧ n ≤ ml ∧ u = .slice (some ⟨g, 0, none⟩) n p1 ∧ wr2 = wr ∧ Hid (tlk M f ml = tlk M f n)) (fun u _ => slnv u)
          case atStart => exact ⟨ml, by omega, Nat.le_refl _, rfl, rfl, rfl⟩
          case round =>
            obtain ⟨n, hn1, hn2, rfl, hw, HK⟩ := hrel
            subst hw
            by_cases hlt3 : f < n
            · have hlt3' : (f : Int) < (n : Int) := by omega
              obtain ⟨j, rfl⟩ : ∃ j, n = j + 1 := ⟨n - 1, by omega⟩
              have hc := HO2.out.get (b := g) rfl (i := j) (by rw [HML.out]; omega)
              have HT : Hid (tlk M f (j + 1) = if M.getD j 0 = 0 then tlk M f j else j + 1) := by
                show _ = _
                simp only [tlk]
                by_cases q : M.getD j 0 = 0
                · rw [if_pos ⟨hlt3, q⟩, if_pos q]
                · rw [if_neg (fun z => q z.2), if_neg q]
              obtain ⟨y, HY⟩ : ∃ y, Hid (y = M.getD j 0) := ⟨_, rfl⟩
              rw [← HY.out] at hc HT
              have ej : ((j : Int) + 1 - 1) = (j : Int) := by omega
              by_cases hy : y = 0
              · subst hy
                have HK2 : Hid (tlk M f ml = tlk M f j) := by show _ = _; rw [HK.out, HT.out, if_pos rfl]
                go_wp2
                go_roundw
                case rel => exact ⟨j, by omega, by omega, rfl, trivial, HK2⟩
                case measure => simp only [slnv]; omega
              · have hy' : (y == 0) = false := by simpa using hy
                have HFN : Hid (OI wr w.heap.size (.slice (some ⟨g, 0, none⟩) (trm l f).length p1) (trm l f) ∧ (trm l f).length = j + 1) := by
                  have e : trm l f = M.take (j + 1) := by rw [HTR.out, HK.out, HT.out, if_neg hy]
                  have hl : (trm l f).length = j + 1 := by rw [e, List.length_take, HML.out]; omega
                  have := HO2.out.cut (k := j + 1) (by rw [HML.out]; omega)
                  rw [← e] at this
                  exact ⟨by rw [hl]; exact this, hl⟩
                go_wp2
                go_ret
                refine ⟨some ⟨g, 0, none⟩, p1, ?_, HFN.out.1, HB2.out⟩
                rw [HFN.out.2]
                rfl
            · obtain rfl : n = f := by omega
              have hlt3' : ¬ (n : Int) < (n : Int) := by omega
              have hd3 : decide ((n : Int) < (n : Int)) = false := decide_eq_false hlt3'
              have HFN : Hid (OI wr w.heap.size (.slice (some ⟨g, 0, none⟩) (trm l n).length p1) (trm l n) ∧ (trm l n).length = n) := by
                have e : trm l n = M.take n := by rw [HTR.out, HK.out, tl_low M n n (Nat.le_refl _)]
                have hl : (trm l n).length = n := by rw [e, List.length_take, HML.out]; omega
                have := HO2.out.cut (k := n) (by rw [HML.out]; omega)
                rw [← e] at this
                exact ⟨by rw [hl]; exact this, hl⟩
              go_wp2
              go_ret
              refine ⟨some ⟨g, 0, none⟩, p1, ?_, HFN.out.1, HB2.out⟩
              rw [HFN.out.2]
              rfl
end Go.Proofs.YtiabhmdefaabgabDoor

