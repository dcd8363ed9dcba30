import Derived.Test.YtkmefeihkmbngaaDoorG23Lra
import Derived.Test.YtkmefeihkmbngaaDoorG01Sym
namespace Go.Proofs.YtkmefeihkmbngaaDoor
open Go.RowKit Go.Maps
set_option maxRecDepth 20000
set_option linter.unusedVariables false

theorem wordBits_any (x : Int) (w : World) : Calls Tryd.prog 32 #[.int .i64 x] w fun e w' => e = .returned (.int .i64 (wbn x)) ∧ w' = w := by
  by_cases h : x = 0
  · have HE : Hid (wbn x = 15) := by show _ = _; unfold wbn; rw [if_pos h]
    rw [HE.out]
    have h' : (x == 0) = true := by simpa using h
    clear h HE
    go_enter Tryd.func32, Tryd.ntmps32
    go_wp2
    go_ret
    exact ⟨rfl, rfl⟩
  · have HE : Hid (wbn x = x) := by show _ = _; unfold wbn; rw [if_neg h]
    rw [HE.out]
    have h' : (x == 0) = false := by simpa using h
    clear h HE
    go_enter Tryd.func32, Tryd.ntmps32
    go_wp2
    go_ret
    exact ⟨rfl, rfl⟩

structure Lb2 (w : World) (r q : Nat) (l : List Int) : Prop where
  res : w.heap[r]? = some (.cells (ar z286) 58 (0, 0))
  box : w.heap[q]? = some (.cells (ar l) 58 (0, 0))
  len : l.length = 286
  ne : r ≠ q

theorem Lb2.low {w w' : World} {r q : Nat} {l : List Int} (h : Lb2 w r q l) (hb : Below w.heap.size w w') : Lb2 w' r q l :=
  ⟨(hb.block r (lt_of_block h.res)).trans h.res, (hb.block q (lt_of_block h.box)).trans h.box, h.len, h.ne⟩

theorem Lb2.put {w : World} {r q : Nat} {l : List Int} (h : Lb2 w r q l) {i : Nat} (hi : i < 286) (x : Int) : Lb2 (w.setCell ⟨q, i, none⟩ (.int .i64 x)) r q (l.set i x) := by
  refine ⟨?_, ?_, by simp [h.len], h.ne⟩
  · rw [setCell_others _ _ _ _ _ h.ne]; exact h.res
  · have := heap_setCell_same w q i _ _ (.int .i64 x) h.box
    rw [this, ar_set]

theorem Lb2.at {w : World} {r q : Nat} {l : List Int} (h : Lb2 w r q l) {i : Nat} (hi : i < 286) : w.cell? ⟨q, i, none⟩ = some (.int .i64 (l.getD i 0)) ∧ w.frozen? ⟨q, i, none⟩ = false := by
  refine ⟨?_, frozen_of_row _ _ _ _ _ h.box⟩
  unfold World.cell?
  rw [h.box]
  simpa using ar_get (l := l) (i := i) (by rw [h.len]; exact hi)

theorem lengthBits_any (w : World) (T : Ltab w) : Calls Tryd.prog 31 #[] w fun e w' => e = .returned (.agg (ar lfs)) ∧ Below w.heap.size w w' := by
  have HT := hide T
  have HE := hide flx_end
  obtain ⟨Y, hY⟩ : ∃ Y, lfs = Y := ⟨_, rfl⟩
  have HY : Hid (Y.length = 286) := by rw [← hY]; exact lfs_len
  rw [hY] at HE ⊢
  clear T hY
  go_enter Tryd.func31, Tryd.ntmps31
  go_wp2_with (refine wpList_al286 rfl rfl ?_)
  intro w1 hg1 hb1 HS1
  go_wp2_with (refine wpList_al286 rfl rfl ?_)
  intro w2 hg2 hb2 HS2
  have hs1 := HS1.out
  have hs2 := HS2.out
  obtain ⟨r, hr⟩ : ∃ r, w.heap.size = r := ⟨_, rfl⟩
  obtain ⟨q, hq⟩ : ∃ q, w1.heap.size = q := ⟨_, rfl⟩
  have HL0 : Hid (Lb2 w2 r q (flx 3)) := ⟨by rw [← hr]; exact (hb2.block _ (by omega)).trans hg1, by rw [← hq, flx_start]; exact hg2, flx_len 3, by omega⟩
  have HB0 : Hid (Below r w w2) := by rw [← hr]; exact hb1.trans (hb2.mono hb1.size)
  have hrq : r ≤ q := by omega
  rw [hr, hq]
  clear hg1 hb1 hs1 hg2 hb2 hs2 hq HS1 HS2
  have HR := hide hr
  clear hr
  go_wp2
  go_loopw [2] (fun t wr => ∃ x : Nat, 3 ≤ x ∧ x ≤ 259 ∧ t = .int .i64 (x : Int) ∧ Hid (Lb2 wr r q (flx x)) ∧ Hid (Below r w wr)) (fun t _ => 259 - (intOf t).toNat)
  case atStart => exact ⟨3, by omega, by omega, rfl, HL0, HB0⟩
  case round =>
    obtain ⟨x, h3, h259, rfl, HL, HB⟩ := hrel
    clear HL0 HB0
    by_cases hlt : x ≤ 258
    · have hlt' : (x : Int) ≤ 258 := by omega
      have HTr : Hid (Ltab wr) := HT.out.low (by rw [HR.out]; exact HB.out)
      have HS := hide (lsymbol_any x (lsy x) wr HTr.out (lsy_spec h3) h3 hlt)
      have hls := (lsy_spec h3).1
      have HST := hide (flx_step h3)
      obtain ⟨A, hA⟩ : ∃ A, 257 + lsy x = A := ⟨_, rfl⟩
      obtain ⟨F1, hF1⟩ : ∃ A, LF (lsy x) = A := ⟨_, rfl⟩
      obtain ⟨F2, hF2⟩ : ∃ A, x - LB (lsy x) = A := ⟨_, rfl⟩
      rw [hA, hF1, hF2] at HS
      rw [hA, hF1] at HST
      have hA2 : A < 286 := by omega
      have hA' : (A : Int) < 286 := by omega
      clear hA hF1 hF2 hls HTr
      go_wp2_with fail
      refine HS.out.mono ?_
      rintro e w3 ⟨rfl, b3⟩
      have HL3 := hide (HL.out.low b3)
      have HB3 : Hid (Below r w w3) := HB.out.trans (b3.mono (by have := HB.out.size; have := HR.out; omega))
      obtain ⟨u0, u1⟩ := HL3.out.at hA2
      have HL4 := hide (HL3.out.put hA2 (F1 : Int))
      rw [HST.out] at HL4
      have HB4 : Hid (Below r w (w3.setCell ⟨q, A, none⟩ (.int .i64 (F1 : Int)))) := HB3.out.setCell (p := ⟨q, A, none⟩) hrq _
      clear b3 HS HL3 HB3 HL HB HST
      go_wp2
      go_roundw
      case rel => exact ⟨x + 1, by omega, by omega, by go_num, HL4, HB4⟩
      case measure => simp [intOf]; omega
    · obtain rfl : x = 259 := by omega
      have hlt' : ¬ ((259 : Nat) : Int) ≤ 258 := by omega
      rw [HE.out] at HL
      have HG := hide HL.out.box
      have HG2 := hide HL.out.res
      have hne := HL.out.ne
      clear HL
      obtain ⟨Z, hZ⟩ : ∃ Z, z286 = Z := ⟨_, rfl⟩
      have HZ : Hid (Z.length = 286) := by rw [← hZ]; exact z286_len
      rw [hZ] at HG2
      clear hZ
      go_wp2_with (first | ((with_reducible refine ld286 q Y HY.out ?hx HG.out ?_); case hx => rfl) | ((with_reducible refine sth286 r Y Z HY.out HZ.out ?hx ?hy HG2.out ?_); (case hx => rfl); (case hy => rfl)))
      intro w5 HG5 hb5
      have HB5 := hide (HB.out.trans (hb5 r (Nat.le_refl _)))
      clear hb5
      go_wp2
      refine ret286 (p := 0) Tryd.results31 r Y HY.out rfl HG5.out rfl ?_
      exact ⟨rfl, by rw [HR.out]; exact HB5.out⟩
end Go.Proofs.YtkmefeihkmbngaaDoor

