import Derived.Test.YthngagciiidppaaGreatDoorGA24
import Derived.Deep.MidRow
import Derived.BigQuiet
import Derived.Test.YthngagciiidppaaGreatDoorGA04
import Derived.Laws.StructEq
import Derived.Test.YthngagciiidppaaGreatDoorGA12
import Derived.Laws.CopyOwn
namespace Go.Proofs.YthngagciiidppaaGreatDoor
open Go.RowKit Go.Maps
set_option maxRecDepth 20000
set_option linter.unusedVariables false

theorem infoSpan : (Tryz.prog.info? 80).map (fun i => (i.zero, i.size, i.bytes)) = some (some (.agg #[.int .i64 0, .int .i64 0]), 2, 16) := by kernel_rfl

theorem run_ixA (ta : TypeId) {n k : Nat} {A : Array Value} {x y : Value} (hu : Tryz.prog.underlying ta = some (.array n 80)) (h : k < n) (he : A.extract (k * 2) (k * 2 + 2) = #[x, y]) (w : World) : (Instr.index ta (.agg A) (.int .i64 k)).run Tryz.prog w = .ok (.agg #[x, y]) w := by
  obtain ⟨i0, hi, hz0, hz1, hz2⟩ := info_parts infoSpan
  simp [Instr.index, asIntOf, run_underlying hu, sizeOf, typeInfo, hi, hz1, part, isAgg, run_underlying Tryz.underlying80, he]
  omega

def lcs : List Value := [.int .i64 3, .int .i64 0, .int .i64 4, .int .i64 0, .int .i64 5, .int .i64 0, .int .i64 6, .int .i64 0, .int .i64 7, .int .i64 0, .int .i64 8, .int .i64 0, .int .i64 9, .int .i64 0, .int .i64 10, .int .i64 0, .int .i64 11, .int .i64 1, .int .i64 13, .int .i64 1, .int .i64 15, .int .i64 1, .int .i64 17, .int .i64 1, .int .i64 19, .int .i64 2, .int .i64 23, .int .i64 2, .int .i64 27, .int .i64 2, .int .i64 31, .int .i64 2, .int .i64 35, .int .i64 3, .int .i64 43, .int .i64 3, .int .i64 51, .int .i64 3, .int .i64 59, .int .i64 3, .int .i64 67, .int .i64 4, .int .i64 83, .int .i64 4, .int .i64 99, .int .i64 4, .int .i64 115, .int .i64 4, .int .i64 131, .int .i64 5, .int .i64 163, .int .i64 5, .int .i64 195, .int .i64 5, .int .i64 227, .int .i64 5, .int .i64 258, .int .i64 0]

theorem lcs_at : ∀ k : Nat, k < 29 → (lcs.toArray.extract (k * 2) (k * 2 + 2) = #[.int .i64 (LB k : Int), .int .i64 (LF k : Int)] ∧ lcs[k * 2]? = some (.int .i64 (LB k : Int)) ∧ lcs[k * 2 + 1]? = some (.int .i64 (LF k : Int)))
  | 0, _ => ⟨rfl, rfl, rfl⟩
  | 1, _ => ⟨rfl, rfl, rfl⟩
  | 2, _ => ⟨rfl, rfl, rfl⟩
  | 3, _ => ⟨rfl, rfl, rfl⟩
  | 4, _ => ⟨rfl, rfl, rfl⟩
  | 5, _ => ⟨rfl, rfl, rfl⟩
  | 6, _ => ⟨rfl, rfl, rfl⟩
  | 7, _ => ⟨rfl, rfl, rfl⟩
  | 8, _ => ⟨rfl, rfl, rfl⟩
  | 9, _ => ⟨rfl, rfl, rfl⟩
  | 10, _ => ⟨rfl, rfl, rfl⟩
  | 11, _ => ⟨rfl, rfl, rfl⟩
  | 12, _ => ⟨rfl, rfl, rfl⟩
  | 13, _ => ⟨rfl, rfl, rfl⟩
  | 14, _ => ⟨rfl, rfl, rfl⟩
  | 15, _ => ⟨rfl, rfl, rfl⟩
  | 16, _ => ⟨rfl, rfl, rfl⟩
  | 17, _ => ⟨rfl, rfl, rfl⟩
  | 18, _ => ⟨rfl, rfl, rfl⟩
  | 19, _ => ⟨rfl, rfl, rfl⟩
  | 20, _ => ⟨rfl, rfl, rfl⟩
  | 21, _ => ⟨rfl, rfl, rfl⟩
  | 22, _ => ⟨rfl, rfl, rfl⟩
  | 23, _ => ⟨rfl, rfl, rfl⟩
  | 24, _ => ⟨rfl, rfl, rfl⟩
  | 25, _ => ⟨rfl, rfl, rfl⟩
  | 26, _ => ⟨rfl, rfl, rfl⟩
  | 27, _ => ⟨rfl, rfl, rfl⟩
  | 28, _ => ⟨rfl, rfl, rfl⟩
  | k + 29, h => absurd h (by omega)

theorem lcs_range {w : World} (T : Ltab w) : w.rangeAt 0 0 lcs := by
  intro i v hv
  have hl : i < 58 := by
    have := (List.getElem?_eq_some_iff.1 hv).1
    exact this
  rw [Nat.zero_add]
  by_cases e : i % 2 = 0
  · obtain ⟨k, rfl⟩ : ∃ k, i = k * 2 := ⟨i / 2, by omega⟩
    have h2 := (lcs_at k (by omega)).2.1
    rw [hv] at h2
    rw [h2]
    exact T.base k (by omega)
  · obtain ⟨k, rfl⟩ : ∃ k, i = k * 2 + 1 := ⟨i / 2, by omega⟩
    have h2 := (lcs_at k (by omega)).2.2
    rw [hv] at h2
    rw [h2]
    exact T.more k (by omega)

theorem run_ix_lcs {k : Nat} (h : k < 29) (w : World) : (Instr.index 81 (.agg lcs.toArray) (.int .i64 k)).run Tryz.prog w = .ok (.agg #[.int .i64 (LB k : Int), .int .i64 (LF k : Int)]) w := run_ixA 81 Tryz.underlying81 h (lcs_at k h).1 w

def dcs : List Value := [.int .i64 1, .int .i64 0, .int .i64 2, .int .i64 0, .int .i64 3, .int .i64 0, .int .i64 4, .int .i64 0, .int .i64 5, .int .i64 1, .int .i64 7, .int .i64 1, .int .i64 9, .int .i64 2, .int .i64 13, .int .i64 2, .int .i64 17, .int .i64 3, .int .i64 25, .int .i64 3, .int .i64 33, .int .i64 4, .int .i64 49, .int .i64 4, .int .i64 65, .int .i64 5, .int .i64 97, .int .i64 5, .int .i64 129, .int .i64 6, .int .i64 193, .int .i64 6, .int .i64 257, .int .i64 7, .int .i64 385, .int .i64 7, .int .i64 513, .int .i64 8, .int .i64 769, .int .i64 8, .int .i64 1025, .int .i64 9, .int .i64 1537, .int .i64 9, .int .i64 2049, .int .i64 10, .int .i64 3073, .int .i64 10, .int .i64 4097, .int .i64 11, .int .i64 6145, .int .i64 11, .int .i64 8193, .int .i64 12, .int .i64 12289, .int .i64 12, .int .i64 16385, .int .i64 13, .int .i64 24577, .int .i64 13]

theorem dcs_at : ∀ k : Nat, k < 30 → (dcs.toArray.extract (k * 2) (k * 2 + 2) = #[.int .i64 (DB k : Int), .int .i64 (DF k : Int)] ∧ dcs[k * 2]? = some (.int .i64 (DB k : Int)) ∧ dcs[k * 2 + 1]? = some (.int .i64 (DF k : Int)))
  | 0, _ => ⟨rfl, rfl, rfl⟩
  | 1, _ => ⟨rfl, rfl, rfl⟩
  | 2, _ => ⟨rfl, rfl, rfl⟩
  | 3, _ => ⟨rfl, rfl, rfl⟩
  | 4, _ => ⟨rfl, rfl, rfl⟩
  | 5, _ => ⟨rfl, rfl, rfl⟩
  | 6, _ => ⟨rfl, rfl, rfl⟩
  | 7, _ => ⟨rfl, rfl, rfl⟩
  | 8, _ => ⟨rfl, rfl, rfl⟩
  | 9, _ => ⟨rfl, rfl, rfl⟩
  | 10, _ => ⟨rfl, rfl, rfl⟩
  | 11, _ => ⟨rfl, rfl, rfl⟩
  | 12, _ => ⟨rfl, rfl, rfl⟩
  | 13, _ => ⟨rfl, rfl, rfl⟩
  | 14, _ => ⟨rfl, rfl, rfl⟩
  | 15, _ => ⟨rfl, rfl, rfl⟩
  | 16, _ => ⟨rfl, rfl, rfl⟩
  | 17, _ => ⟨rfl, rfl, rfl⟩
  | 18, _ => ⟨rfl, rfl, rfl⟩
  | 19, _ => ⟨rfl, rfl, rfl⟩
  | 20, _ => ⟨rfl, rfl, rfl⟩
  | 21, _ => ⟨rfl, rfl, rfl⟩
  | 22, _ => ⟨rfl, rfl, rfl⟩
  | 23, _ => ⟨rfl, rfl, rfl⟩
  | 24, _ => ⟨rfl, rfl, rfl⟩
  | 25, _ => ⟨rfl, rfl, rfl⟩
  | 26, _ => ⟨rfl, rfl, rfl⟩
  | 27, _ => ⟨rfl, rfl, rfl⟩
  | 28, _ => ⟨rfl, rfl, rfl⟩
  | 29, _ => ⟨rfl, rfl, rfl⟩
  | k + 30, h => absurd h (by omega)

theorem dcs_range {w : World} (T : Dtab w) : w.rangeAt 1 0 dcs := by
  intro i v hv
  have hl : i < 60 := by
    have := (List.getElem?_eq_some_iff.1 hv).1
    exact this
  rw [Nat.zero_add]
  by_cases e : i % 2 = 0
  · obtain ⟨k, rfl⟩ : ∃ k, i = k * 2 := ⟨i / 2, by omega⟩
    have h2 := (dcs_at k (by omega)).2.1
    rw [hv] at h2
    rw [h2]
    exact T.base k (by omega)
  · obtain ⟨k, rfl⟩ : ∃ k, i = k * 2 + 1 := ⟨i / 2, by omega⟩
    have h2 := (dcs_at k (by omega)).2.2
    rw [hv] at h2
    rw [h2]
    exact T.more k (by omega)

theorem run_ix_dcs {k : Nat} (h : k < 30) (w : World) : (Instr.index 83 (.agg dcs.toArray) (.int .i64 k)).run Tryz.prog w = .ok (.agg #[.int .i64 (DB k : Int), .int .i64 (DF k : Int)]) w := run_ixA 83 Tryz.underlying83 h (dcs_at k h).1 w

set_option maxHeartbeats 4000000 in
theorem furtherSize_any (vf vg : Value) (F G : List Int) (w : World) (sf : SI w vf F) (sg : SI w vg G) (hF : F.length = 286) (hG : G.length = 30) (bF : Bd F 16777217) (bG : Bd G 16777217) (T : Ltab w ∧ Dtab w) :
    Calls Tryz.prog 27 #[.agg #[vf, vg]] w fun e w' => e = .returned (.int .i64 (fzL F 29 + fzD G 30)) ∧ Below w.heap.size w w' := by
  obtain ⟨wb, hwb⟩ : ∃ wb, w.alloc (.cells #[vf, vg] 38) = wb := ⟨_, rfl⟩
  have HB : Hid (Below w.heap.size w wb) := by show Below _ _ _; rw [← hwb]; exact (Below.refl _ _).alloc (Nat.le_refl _) _
  have hbl : w.heap.size < wb.heap.size := by rw [← hwb]; simp
  obtain ⟨af, cf, rfl, hcf, hcf2⟩ := sf.open
  obtain ⟨ag, cg, rfl, hcg, hcg2⟩ := sg.open
  have d1 : wb.cell? ⟨w.heap.size, 0, none⟩ = some (.slice af F.length cf) := by rw [← hwb]; unfold World.cell?; simp only [heap_alloc_new]; rfl
  have d2 : wb.cell? ⟨w.heap.size, 1, none⟩ = some (.slice ag G.length cg) := by rw [← hwb]; unfold World.cell?; simp only [heap_alloc_new]; rfl
  have HD : Hid (∀ wx, Below wb.heap.size wb wx → wx.cell? ⟨w.heap.size, 0, none⟩ = some (.slice af F.length cf) ∧ wx.cell? ⟨w.heap.size, 1, none⟩ = some (.slice ag G.length cg)) := fun wx q => ⟨(q.cell hbl).trans d1, (q.cell hbl).trans d2⟩
  have HSF : Hid (SI wb (.slice af F.length cf) F) := sf.below HB.out
  have HSG : Hid (SI wb (.slice ag G.length cg) G) := sg.below HB.out
  have HTL : Hid (∀ wx, Below wb.heap.size wb wx → Ltab wx) := fun wx q => (T.1.low HB.out).low q
  have HTD : Hid (∀ wx, Below wb.heap.size wb wx → Dtab wx) := fun wx q => (T.2.low HB.out).low q
  have HFL := hide hF
  have HGL := hide hG
  have HBF := hide bF
  have HBG := hide bG
  have HFI : Hid (∀ wx, Below wb.heap.size wb wx → Below w.heap.size w wx) := fun wx q => HB.out.trans (q.mono HB.out.size)
  obtain ⟨nF, hnF⟩ : ∃ n, n = F.length := ⟨_, rfl⟩
  obtain ⟨nG, hnG⟩ : ∃ n, n = G.length := ⟨_, rfl⟩
  have hnF' : (nF : Int) = 286 := by omega
  have hnG' : (nG : Int) = 30 := by omega
  have HNF := hide hnF
  have HNG := hide hnG
  rw [← hnF] at HD d1 hcf hwb ⊢
  rw [← hnG] at HD d2 hcg hwb ⊢
  obtain ⟨A, hA⟩ : ∃ A, lcs.toArray = A := ⟨_, rfl⟩
  obtain ⟨A2, hA2⟩ : ∃ A, dcs.toArray = A := ⟨_, rfl⟩
  have HIX : Hid (∀ k : Nat, k < 29 → ∀ w : World, (Instr.index 81 (.agg A) (.int .i64 (k : Int))).run Tryz.prog w = .ok (.agg #[.int .i64 (LB k : Int), .int .i64 (LF k : Int)]) w) := fun k hk w => by rw [← hA]; exact run_ix_lcs hk w
  have HIX2 : Hid (∀ k : Nat, k < 30 → ∀ w : World, (Instr.index 83 (.agg A2) (.int .i64 (k : Int))).run Tryz.prog w = .ok (.agg #[.int .i64 (DB k : Int), .int .i64 (DF k : Int)]) w) := fun k hk w => by rw [← hA2]; exact run_ix_dcs hk w
  have HRL := hide (lcs_range (HTL.out wb (Below.refl _ _)))
  have HRA : Hid ((w.alloc (.cells #[.slice af nF cf, .slice ag nG cg] 38)).rangeAt 0 0 lcs) := by show World.rangeAt _ _ _ _; rw [hwb]; exact HRL.out
  have HAA := hide hA
  have HAA2 := hide hA2
  clear sf sg hF hG bF bG T hnF hnG hA hA2 d1 d2
  go_enter Tryz.func27, Tryz.ntmps27
  go_wp2_with (first | ((with_reducible refine wpList_load_mid rfl 81 _ rfl 0 0 ?hx lcs _ HRL.out Tryz.underlying81 rfl ?hi ?_); (case hx => rfl); (case hi => kernel_rfl)) | ((with_reducible refine wpList_load_mid rfl 81 _ rfl 0 0 ?hx lcs _ HRA.out Tryz.underlying81 rfl ?hi ?_); (case hx => rfl); (case hi => kernel_rfl)))
  rw [HAA.out]
  clear hwb
  go_loopw [3, 9] (fun s t wr => ∃ k : Nat, k ≤ 29 ∧ t = .int .i64 (k : Int) ∧ s = .int .i64 (fzL F k) ∧ Hid (Below wb.heap.size wb wr)) (fun _ t _ => 29 - (intOf t).toNat)
  case atStart => exact ⟨0, by omega, rfl, rfl, Below.refl _ _⟩
  case round =>
    obtain ⟨k, hk, rfl, rfl, HBk⟩ := hrel
    by_cases hkl : k < 29
    · have hkl' : (k : Int) < 29 := by omega
      have hix := HIX.out k hkl
      obtain ⟨wa, hwa⟩ : ∃ wa, wr.alloc (.cells #[.int .i64 (LB k : Int), .int .i64 (LF k : Int)] 80) = wa := ⟨_, rfl⟩
      have HBa : Hid (Below wb.heap.size wb wa) := by show Below _ _ _; rw [← hwa]; exact HBk.out.alloc HBk.out.size _
      obtain ⟨f1, f2⟩ := HD.out _ HBa.out
      obtain ⟨fb, fo, rfl, cf9⟩ := HSF.out.get HBa.out (k := 257 + k) (by rw [HFL.out]; omega)
      have e2 : wa.cell? ⟨wr.heap.size, 1, none⟩ = some (.int .i64 (LF k : Int)) := by rw [← hwa]; unfold World.cell?; simp only [heap_alloc_new]; rfl
      have hb1 := HBF.out (257 + k)
      have hb2 := (lfLe k hkl).1
      have hb3 := fzL_bd HBF.out k (by omega)
      have hb4 : 0 ≤ F.getD (257 + k) 0 * (LF k : Int) := Int.mul_nonneg hb1.1 (by omega)
      have hb5 : F.getD (257 + k) 0 * (LF k : Int) ≤ 16777217 * 5 := Int.mul_le_mul hb1.2 (by omega) (by omega) (by omega)
      obtain ⟨q, HQ⟩ : ∃ q, Hid (q = F.getD (257 + k) 0) := ⟨_, rfl⟩
      obtain ⟨u, HU⟩ : ∃ u, Hid (u = fzL F k) := ⟨_, rfl⟩
      obtain ⟨lf, HLF⟩ : ∃ u : Int, Hid (u = (LF k : Int)) := ⟨_, rfl⟩
      obtain ⟨lb, HLB⟩ : ∃ u : Int, Hid (u = (LB k : Int)) := ⟨_, rfl⟩
      obtain ⟨p, HP⟩ : ∃ p : Int, Hid (p = q * lf) := ⟨_, rfl⟩
      rw [← HQ.out, ← HLF.out] at hb4 hb5
      rw [← HP.out] at hb4 hb5
      rw [← HQ.out] at cf9
      rw [← HU.out] at hb3 ⊢
      rw [← HLF.out] at e2 hix hwa
      rw [← HLB.out] at hix hwa
      have hpp : q * lf = p := HP.out.symm
      have w1 : IntKind.i64.wrap (q * lf) = p := by rw [hpp, IntKind.wrap_i64]; omega
      have w2 : IntKind.i64.wrap (u + p) = u + p := by rw [IntKind.wrap_i64]; omega
      obtain ⟨m, hm⟩ : ∃ m, 257 + k = m := ⟨_, rfl⟩
      rw [hm] at cf9
      have hoff : (257 : Int) + (k : Int) = (m : Int) := by omega
      have hml : (m : Int) < 286 := by omega
      have HMM := hide hm
      clear hm
      have HN : Hid (u + p = fzL F (k + 1)) := by show _ = _; simp only [fzL]; rw [HP.out, HQ.out, HLF.out, HU.out]
      clear hb1 hb2
      go_wp2
      go_quiet (fail)
      go_wp2
      go_roundw
      case rel => exact ⟨k + 1, by omega, by go_num, by rw [HN.out], below_drewN HBa.out _⟩
      case measure => simp [intOf]; omega
    · obtain rfl : k = 29 := by omega
      have HR2 := hide (dcs_range (HTD.out wr HBk.out))
      obtain ⟨u0, HU0⟩ : ∃ u, Hid (u = fzL F 29) := ⟨_, rfl⟩
      have hu0 := fzL_bd HBF.out 29 (by omega)
      rw [← HU0.out] at hu0 ⊢
      have HB29 := HBk
      have h29 : ¬ (((29 : Nat) : Int) < 29) := by omega
      go_wp2_with ((with_reducible refine wpList_load_mid rfl 83 _ rfl 1 0 ?hx dcs _ HR2.out Tryz.underlying83 rfl ?hi ?_); (case hx => rfl); (case hi => kernel_rfl))
      rw [HAA2.out]
      go_loopw [3, 26] (fun s t wr => ∃ k : Nat, k ≤ 30 ∧ t = .int .i64 (k : Int) ∧ s = .int .i64 (u0 + fzD G k) ∧ Hid (Below wb.heap.size wb wr)) (fun _ t _ => 30 - (intOf t).toNat)
      case atStart => exact ⟨0, by omega, rfl, by simp [fzD], HB29⟩
      case round =>
        clear hkl hk HBk HB29 HR2 h29
        obtain ⟨k, hk, rfl, rfl, HBk⟩ := hrel
        by_cases hkl : k < 30
        · have hkl' : (k : Int) < 30 := by omega
          have hix := HIX2.out k hkl
          obtain ⟨wa, hwa⟩ : ∃ wa, wr.alloc (.cells #[.int .i64 (DB k : Int), .int .i64 (DF k : Int)] 80) = wa := ⟨_, rfl⟩
          have HBa : Hid (Below wb.heap.size wb wa) := by show Below _ _ _; rw [← hwa]; exact HBk.out.alloc HBk.out.size _
          obtain ⟨f1, f2⟩ := HD.out _ HBa.out
          obtain ⟨fb, fo, rfl, cf9⟩ := HSG.out.get HBa.out (k := k) (by rw [HGL.out]; omega)
          have e2 : wa.cell? ⟨wr.heap.size, 1, none⟩ = some (.int .i64 (DF k : Int)) := by rw [← hwa]; unfold World.cell?; simp only [heap_alloc_new]; rfl
          have hb1 := HBG.out k
          have hb2 := (dfLe k hkl).1
          have hb3 := fzD_bd HBG.out k (by omega)
          have hb4 : 0 ≤ G.getD k 0 * (DF k : Int) := Int.mul_nonneg hb1.1 (by omega)
          have hb5 : G.getD k 0 * (DF k : Int) ≤ 16777217 * 13 := Int.mul_le_mul hb1.2 (by omega) (by omega) (by omega)
          obtain ⟨q, HQ⟩ : ∃ q, Hid (q = G.getD k 0) := ⟨_, rfl⟩
          obtain ⟨u, HU⟩ : ∃ u, Hid (u = u0 + fzD G k) := ⟨_, rfl⟩
          have hu1 : 0 ≤ u ∧ u ≤ 20000000000 := by rw [HU.out]; omega
          obtain ⟨lf, HLF⟩ : ∃ u : Int, Hid (u = (DF k : Int)) := ⟨_, rfl⟩
          obtain ⟨lb, HLB⟩ : ∃ u : Int, Hid (u = (DB k : Int)) := ⟨_, rfl⟩
          obtain ⟨p, HP⟩ : ∃ p : Int, Hid (p = q * lf) := ⟨_, rfl⟩
          rw [← HQ.out, ← HLF.out] at hb4 hb5
          rw [← HP.out] at hb4 hb5
          rw [← HQ.out] at cf9
          rw [← HU.out]
          rw [← HLF.out] at e2 hix hwa
          rw [← HLB.out] at hix hwa
          have hpp : q * lf = p := HP.out.symm
          have w1 : IntKind.i64.wrap (q * lf) = p := by rw [hpp, IntKind.wrap_i64]; omega
          have w2 : IntKind.i64.wrap (u + p) = u + p := by rw [IntKind.wrap_i64]; omega
          have HN : Hid (u + p = u0 + fzD G (k + 1)) := by show _ = _; simp only [fzD]; rw [HP.out, HQ.out, HLF.out, HU.out]; omega
          clear hb1 hb2 hb3
          go_wp2
          go_quiet (fail)
          go_wp2
          go_roundw
          case rel => exact ⟨k + 1, by omega, by go_num, by rw [HN.out], below_drewN HBa.out _⟩
          case measure => simp [intOf]; omega
        · obtain rfl : k = 30 := by omega
          have h30 : ¬ (((30 : Nat) : Int) < 30) := by omega
          obtain ⟨u, HU⟩ : ∃ u, Hid (u = u0 + fzD G 30) := ⟨_, rfl⟩
          rw [← HU.out]
          go_wp2
          go_ret
          refine ⟨?_, HFI.out _ HBk.out⟩
          rw [HU.out, HU0.out]; rfl
end Go.Proofs.YthngagciiidppaaGreatDoor

namespace Go.Proofs.YthngagciiidppaaGreatDoor
open Go.RowKit Go.Maps
set_option maxRecDepth 20000

theorem run_part (f : Nat → Int) {k : Nat} (h : k < 16) (w : World) : (part 3 (av f) k).run Tryz.prog w = .ok (.int .i64 (f k)) w := by
  simp [part, isAgg, run_underlying Tryz.underlying3, av_get f h]

theorem run_index (f : Nat → Int) {k : Nat} (h : k < 16) (w : World) : (Instr.index 133 (.agg (av f)) (.int .i64 k)).run Tryz.prog w = .ok (.int .i64 (f k)) w := by
  obtain ⟨i0, hi, hz0, hz1, hz2⟩ := info_parts infoInt
  simp [Instr.index, asIntOf, run_underlying Tryz.underlying133, sizeOf, typeInfo, hi, hz1, run_part f h]
  omega

def eq16 (f g : Nat → Int) : Bool := (List.range' 0 16).all fun i => f i == g i

theorem eq16_iff (f g : Nat → Int) : eq16 f g = true ↔ ∀ i, i < 16 → f i = g i := by
  unfold eq16
  rw [List.all_eq_true]
  constructor
  · intro h i hi
    have := h i (by simp [List.mem_range']; omega)
    simpa using this
  · intro h i hi
    simp [List.mem_range'] at hi
    have := h i (by omega)
    simpa using this

theorem forIn_eq {P : Program} (f g : Nat → Int) (body : Nat → Option Bool × Unit → Sem (ForInStep (Option Bool × Unit))) (hb : ∀ i w, i < 16 → (body i (none, ())).run P w = .ok (if f i = g i then .yield (none, ()) else .done (some false, ())) w) :
    ∀ n k w, k + n ≤ 16 → (forIn (List.range' k n) (none, ()) body).run P w = .ok (if ((List.range' k n).all fun i => f i == g i) then (none, ()) else (some false, ())) w := by
  intro n
  induction n with
  | zero => intro k w _; simp
  | succ n ih =>
    intro k w h
    simp only [List.range'_succ, List.forIn_cons, Sem.run_bind, hb k w (by omega)]
    by_cases e : f k = g k
    · have e2 : (f k == g k) = true := by simp [e]
      simp only [List.all_cons, e2, Bool.true_and]
      simp [e, ih (k + 1) w (by omega)]
    · have e2 : (f k == g k) = false := by simp [e]
      simp only [List.all_cons, e2, Bool.false_and]
      simp [e]

theorem run_equal_per (d : Nat) (f g : Nat → Int) (w : World) (H : ∀ a b w, (Op.equalIn d 3 (.int .i64 a) (.int .i64 b)).run Tryz.prog w = .ok (a == b) w) : (Op.equalIn (d+1) 133 (.agg (av f)) (.agg (av g))).run Tryz.prog w = .ok (eq16 f g) w := by
  obtain ⟨i0, hi, hz0, hz1, hz2⟩ := info_parts infoInt
  simp only [Op.equalIn, Sem.run_bind, run_underlying Tryz.underlying133, Result.andThen_ok]
  simp [sizeOf, typeInfo, hi, hz1]
  rw [forIn_eq f g _ _ 16 0 w (by omega)]
  · by_cases e : eq16 f g = true
    · have e2 := e
      unfold eq16 at e2
      simp [e2, e]
    · have e3 : eq16 f g = false := by simpa using e
      have e2 := e3
      unfold eq16 at e2
      simp [e2, e3]
  · intro i w hi
    simp [run_part f hi, run_part g hi, H]
    by_cases e : f i = g i
    · simp [e]
    · simp [e]

theorem run_eql_per (f g : Nat → Int) (w : World) : (binOp .eql 133 (.agg (av f)) (.agg (av g))).run Tryz.prog w = .ok (.bool (eq16 f g)) w := by
  rw [run_eql_struct, run_equal_per 9999 f g w (fun a b w => run_equalIn_int w 9998 3 .i64 .i64 a b Tryz.underlying3)]
  rfl

theorem rows_shr {k : Nat} (h : k ≤ 15) : (32768 : Int) / 2 ^ k = ((2 ^ (15 - k) : Nat) : Int) := by
  have e : (32768 : Int) = ((2 ^ (15 - k) : Nat) : Int) * 2 ^ k := by
    have : (2 : Nat) ^ (15 - k) * 2 ^ k = 2 ^ 15 := by rw [← Nat.pow_add]; congr 1; omega
    have h2 : ((2 ^ (15 - k) * 2 ^ k : Nat) : Int) = 32768 := by rw [this]; rfl
    rw [← h2]; push_cast; rfl
  conv => lhs; rw [e]
  exact Int.mul_ediv_cancel _ (by have := pow_pos k; omega)

theorem used_any (l : List Int) (w : World) (hl : Lens l) :
    Calls Tryz.prog 102 #[.agg (av fun n => (cn l n : Int))] w fun e w' => e = .returned (.int .i64 (us l 16)) ∧ Below w.heap.size w w' := by
  have HL := hide hl
  clear hl
  obtain ⟨A, HA⟩ : ∃ A, Hid (A = av fun n => (cn l n : Int)) := ⟨_, rfl⟩
  rw [← HA.out]
  have HG : Hid ((w.alloc (.cells A 133)).heap[w.heap.size]? = some (.cells (av fun n => (cn l n : Int)) 133 (0, 0))) := by rw [← HA.out]; exact heap_alloc_new w _
  have HB : Hid (Below w.heap.size w (w.alloc (.cells A 133))) := (Below.refl _ _).alloc (Nat.le_refl _) _
  obtain ⟨W, HW⟩ : ∃ W, Hid (W = w.alloc (.cells A 133)) := ⟨_, rfl⟩
  rw [← HW.out] at HG HB
  go_enter Tryz.func102, Tryz.ntmps102
  go_wp2_with (first | ((with_reducible refine wpList_loadP w.heap.size _ ?hx (show (w.alloc (.cells A 133)).heap[w.heap.size]? = some (.cells (av fun n => (cn l n : Int)) 133 (0, 0)) from by rw [← HW.out]; exact HG.out) ?_); case hx => rfl))
  rw [← HW.out]
  go_loopw [3, 7] (fun u i wr => ∃ k : Nat, k ≤ 16 ∧ i = .int .i64 k ∧ u = .int .i64 (us l k) ∧ wr = W) (fun _ i _ => 16 - (intOf i).toNat)
  case atStart => exact ⟨0, Nat.zero_le _, rfl, rfl, rfl⟩
  case round =>
    obtain ⟨k, hk, rfl, rfl, rfl⟩ := hrel
    by_cases hlt : k < 16
    · have hlt' : (k : Int) < 16 := by omega
      have hg := fun W => run_index (fun n => (cn l n : Int)) hlt W
      have b2 : cn l k ≤ 288 := by have := cn_le l k; have := HL.out.1; omega
      have b3 : us l k ≤ 288 * 16384 := Nat.le_trans (us_mono l (by omega)) (us_bound HL.out)
      have b4 : 2 ^ (15 - k) ≤ 32768 := Nat.pow_le_pow_right (n := 2) (by decide) (show 15 - k ≤ 15 by omega)
      have hs := rows_shr (k := k) (by omega)
      have HS : Hid (us l (k + 1) = us l k + cn l k * 2 ^ (15 - k)) := rfl
      obtain ⟨c, HC⟩ : ∃ c : Nat, Hid (c = cn l k) := ⟨_, rfl⟩
      obtain ⟨p, HP⟩ : ∃ p : Nat, Hid (p = 2 ^ (15 - k)) := ⟨_, rfl⟩
      obtain ⟨u, HU⟩ : ∃ u : Nat, Hid (u = us l k) := ⟨_, rfl⟩
      rw [← HC.out] at b2 hg HS
      rw [← HP.out] at b4 hs HS
      rw [← HU.out] at b3 HS ⊢
      have hcp : c * p ≤ 288 * 32768 := Nat.mul_le_mul b2 b4
      have hcp' : (c : Int) * p = ((c * p : Nat) : Int) := by push_cast; rfl
      obtain ⟨m, HM⟩ : ∃ m : Nat, Hid (m = c * p) := ⟨_, rfl⟩
      rw [← HM.out] at hcp hcp' HS
      go_wp2
      go_roundw
      case rel => exact ⟨k + 1, by omega, by go_num, by rw [HS.out]; push_cast; rfl, by trivial⟩
      case measure => simp [intOf]; omega
    · obtain rfl : k = 16 := by omega
      have hlt' : ¬ ((16 : Nat) : Int) < 16 := by omega
      go_wp2
      go_ret
      exact ⟨rfl, HB.out⟩

theorem shape_any (l : List Int) (w : World) (hl : Lens l) :
    Calls Tryz.prog 92 #[.agg (av fun n => (cn l n : Int))] w fun e w' => e = .returned (.int .i64 (shp l)) ∧ Below w.heap.size w w' := by
  have HL := hide hl
  have HU := hide (us_sum hl.2)
  have hz : eq16 (fun n => (cn l n : Int)) (fun _ => 0) = decide (tsum l = 0) := by
    rw [Bool.eq_iff_iff, eq16_iff, decide_eq_true_iff, tsum_zero hl]
    exact ⟨fun h n hn => by have := h n hn; omega, fun h n hn => by rw [h n hn]; rfl⟩
  have ho : eq16 (fun n => (cn l n : Int)) (fun n => if n = 1 then 1 else 0) = decide (tsum l = 1 ∧ usum l = 16384) := by
    rw [Bool.eq_iff_iff, eq16_iff, decide_eq_true_iff, single_iff hl]
    exact ⟨fun h n hn => by have := h n hn; by_cases e : n = 1 <;> simp [e] at this ⊢ <;> omega, fun h n hn => by rw [h n hn]; by_cases e : n = 1 <;> simp [e]⟩
  have hb := us_bound hl
  rw [HU.out] at hb
  clear hl
  have q1 := fun W => run_eql_per (fun n => (cn l n : Int)) (fun _ => 0) W
  have q2 := fun W => run_eql_per (fun n => (cn l n : Int)) (fun n => if n = 1 then 1 else 0) W
  rw [av_zero, hz] at q1
  have e1 : av (fun n => if n = 1 then 1 else 0) = #[.int .i64 0, .int .i64 1, .int .i64 0, .int .i64 0, .int .i64 0, .int .i64 0, .int .i64 0, .int .i64 0, .int .i64 0, .int .i64 0, .int .i64 0, .int .i64 0, .int .i64 0, .int .i64 0, .int .i64 0, .int .i64 0] := rfl
  rw [e1, ho] at q2
  clear hz ho e1
  have HG : Hid ((w.alloc (.cells (av fun n => (cn l n : Int)) 133)).heap[w.heap.size]? = some (.cells (av fun n => (cn l n : Int)) 133 (0, 0))) := heap_alloc_new w _
  have HB : Hid (Below w.heap.size w (w.alloc (.cells (av fun n => (cn l n : Int)) 133))) := (Below.refl _ _).alloc (Nat.le_refl _) _
  obtain ⟨U, HUU⟩ : ∃ U : Nat, Hid (U = usum l) := ⟨_, rfl⟩
  have HSH : Hid (shp l = if tsum l = 0 then 0 else if tsum l = 1 ∧ usum l = 16384 then 1 else if 32768 < usum l then 3 else if usum l = 32768 then 4 else 2) := rfl
  rw [← HUU.out] at hb HSH q2
  go_enter Tryz.func92, Tryz.ntmps92
  go_wp2_with ((with_reducible refine wpList_loadP w.heap.size _ ?hx HG.out ?_); (case hx => rfl))
  refine (used_any l _ HL.out).mono ?_
  rintro e w2 ⟨rfl, hb2⟩
  rw [HU.out, ← HUU.out]
  have HG2 : Hid (w2.heap[w.heap.size]? = some (.cells (av fun n => (cn l n : Int)) 133 (0, 0))) := (hb2.block _ (by simp)).trans HG.out
  have HB2 : Hid (Below w.heap.size w w2) := HB.out.trans (hb2.mono (by simp))
  clear hb2 HG HB
  by_cases c1 : tsum l = 0
  · have d1 : decide (tsum l = 0) = true := decide_eq_true c1
    rw [d1] at q1
    have HX : Hid (shp l = 0) := by show _ = _; rw [HSH.out, if_pos c1]
    clear c1 d1 HSH q2
    go_wp2_with ((with_reducible refine wpList_loadP w.heap.size _ ?hx HG2.out ?_); (case hx => rfl))
    go_ret
    rw [HX.out]
    exact ⟨rfl, HB2.out⟩
  have d1 : decide (tsum l = 0) = false := decide_eq_false c1
  rw [d1] at q1
  by_cases c2 : tsum l = 1 ∧ U = 16384
  · have d2 : decide (tsum l = 1 ∧ U = 16384) = true := decide_eq_true c2
    rw [d2] at q2
    have HX : Hid (shp l = 1) := by show _ = _; rw [HSH.out, if_neg c1, if_pos c2]
    clear c1 d1 c2 d2 HSH
    go_wp2_with ((with_reducible refine wpList_loadP w.heap.size _ ?hx HG2.out ?_); (case hx => rfl))
    go_ret
    rw [HX.out]
    exact ⟨rfl, HB2.out⟩
  have d2 : decide (tsum l = 1 ∧ U = 16384) = false := decide_eq_false c2
  rw [d2] at q2
  have HX : Hid (shp l = if 32768 < U then 3 else if U = 32768 then 4 else 2) := by show _ = _; rw [HSH.out, if_neg c1, if_neg c2]
  clear c1 d1 c2 d2 HSH
  by_cases c3 : 32768 < U
  · have HY : Hid (shp l = 3) := by show _ = _; rw [HX.out, if_pos c3]
    clear HX
    go_wp2_with ((with_reducible refine wpList_loadP w.heap.size _ ?hx HG2.out ?_); (case hx => rfl))
    go_ret
    rw [HY.out]
    exact ⟨rfl, HB2.out⟩
  by_cases c4 : U = 32768
  · have HY : Hid (shp l = 4) := by show _ = _; rw [HX.out, if_neg c3, if_pos c4]
    clear HX HUU
    subst c4
    go_wp2_with ((with_reducible refine wpList_loadP w.heap.size _ ?hx HG2.out ?_); (case hx => rfl))
    go_ret
    rw [HY.out]
    exact ⟨rfl, HB2.out⟩
  · have HY : Hid (shp l = 2) := by show _ = _; rw [HX.out, if_neg c3, if_neg c4]
    clear HX
    go_wp2_with ((with_reducible refine wpList_loadP w.heap.size _ ?hx HG2.out ?_); (case hx => rfl))
    go_ret
    rw [HY.out]
    exact ⟨rfl, HB2.out⟩
end Go.Proofs.YthngagciiidppaaGreatDoor

namespace Go.Proofs.YthngagciiidppaaGreatDoor
open Go.RowKit Go.Maps
set_option maxRecDepth 20000

/-- All words. -/
def wds (l : List Int) : List Int := (List.range l.length).map fun s => (wd l s : Int)

theorem wds_len (l : List Int) : (wds l).length = l.length := by simp [wds]

theorem wds_get {l : List Int} {k : Nat} (h : k < l.length) : (wds l).getD k 0 = (wd l k : Int) := by simp [wds, h]

def outAt (l : List Int) (k : Nat) : List Int := (wds l).take k ++ List.replicate (l.length - k) 0

theorem out_zero (l : List Int) : outAt l 0 = List.replicate l.length 0 := by simp [outAt]

theorem out_end (l : List Int) : outAt l l.length = wds l := by
  unfold outAt
  rw [List.take_of_length_le (by rw [wds_len]; exact Nat.le_refl _)]; simp

theorem out_len {l : List Int} {k : Nat} (h : k ≤ l.length) : (outAt l k).length = l.length := by
  unfold outAt
  rw [List.length_append, List.length_take, wds_len, List.length_replicate]; omega

theorem out_succ {l : List Int} {k : Nat} (h : k < l.length) : outAt l (k + 1) = (outAt l k).set k (wd l k : Int) := by
  unfold outAt
  have hl : k < (wds l).length := by rw [wds_len]; exact h
  rw [List.take_succ_eq_append_getElem hl]
  have e : (wds l)[k] = (wd l k : Int) := by simp [wds]
  rw [e]
  have h2 : ((wds l).take k).length = k := by rw [List.length_take]; omega
  rw [List.set_append_right _ _ (by omega), h2, Nat.sub_self]
  rw [show l.length - k = (l.length - (k + 1)) + 1 by omega, List.replicate_succ, List.set_cons_zero]
  simp

theorem out_same {l : List Int} {k : Nat} (h : k < l.length) (h0 : ln l k = 0) : outAt l (k + 1) = outAt l k := by
  unfold outAt
  have hl : k < (wds l).length := by rw [wds_len]; exact h
  rw [List.take_succ_eq_append_getElem hl]
  have e : (wds l)[k] = 0 := by simp [wds, wd, h0]
  rw [e, show l.length - k = (l.length - (k + 1)) + 1 by omega, List.replicate_succ]
  simp

/-- The next words, and the words so far. -/
def Wst (w : World) (l : List Int) (k : Nat) (wr : World) : Prop := wr.heap[w.heap.size]? = some (.cells (av fun n => (fi l n : Int) + cn (l.take k) n) 133 (0, 0)) ∧ wr.heap[w.heap.size + 1]? = some (.cells ((outAt l k).map (Value.int .i64)).toArray 3 (0, 0)) ∧ Below w.heap.size w wr

theorem Wst.nx {w wr : World} {l : List Int} {k n : Nat} (h : Wst w l k wr) (hn : n < 16) : wr.cell? ⟨w.heap.size, n, none⟩ = some (.int .i64 ((fi l n : Int) + cn (l.take k) n)) := by
  rw [cell_of_row _ _ _ _ _ _ h.1, av_get _ hn]

theorem Wst.ou {w wr : World} {l : List Int} {k : Nat} (h : Wst w l k wr) (hk : k < l.length) : ∃ x, wr.cell? ⟨w.heap.size + 1, k, none⟩ = some (.int .i64 x) := by
  have e : k < (outAt l k).length := by rw [out_len (by omega)]; exact hk
  refine ⟨(outAt l k)[k], ?_⟩
  rw [cell_of_row _ _ _ _ _ _ h.2.1]
  simp [e]

theorem map_set (L : List Int) (k : Nat) (x : Int) : ((L.map (Value.int .i64)).toArray.setIfInBounds k (.int .i64 x)) = ((L.set k x).map (Value.int .i64)).toArray := by
  apply Array.ext'
  rw [Array.toList_setIfInBounds]
  simp [List.map_set]

theorem Wst.zero {w wr : World} {l : List Int} {k : Nat} (h : Wst w l k wr) (hk : k < l.length) (h0 : ln l k = 0) (hl : Lens l) : Wst w l (k + 1) wr := by
  refine ⟨?_, by rw [out_same hk h0]; exact h.2.1, h.2.2⟩
  rw [h.1, av_congr fun i _ => ?_]
  rw [cn_snoc hk, if_neg (fun x => x.1 (by have := (hl.ln k).1; omega))]; rfl

theorem Wst.step {w wr : World} {l : List Int} {k n : Nat} (h : Wst w l k wr) (hk : k < l.length) (hn : ln l k = n) (h0 : n ≠ 0) (hl : Lens l) (x : Int) (hx : x = (fi l n : Int) + cn (l.take k) n) :
    Wst w l (k + 1) ((wr.setCell ⟨w.heap.size + 1, k, none⟩ (.int .i64 x)).setCell ⟨w.heap.size, n, none⟩ (.int .i64 (x + 1))) := by
  have hln := hl.ln k
  have hwd : (wd l k : Int) = x := by
    rw [hx, Has.wd ⟨hk, by omega⟩, hn]
    unfold rk cn
    rw [if_neg h0, hln.1, hn]
    push_cast; rfl
  refine ⟨?_, ?_, ?_⟩
  · have h1 : (wr.setCell ⟨w.heap.size + 1, k, none⟩ (.int .i64 x)).heap[w.heap.size]? = some (.cells (av fun n => (fi l n : Int) + cn (l.take k) n) 133 (0, 0)) := (setCell_others wr _ k _ _ (by omega)).trans h.1
    rw [heap_setCell_same _ _ _ _ _ _ h1, av_set _ _ (by omega)]
    rw [av_congr fun i _ => ?_]
    unfold upf
    rw [cn_snoc hk]
    by_cases e : i = n
    · subst e
      rw [if_pos rfl, if_pos ⟨h0, by omega⟩]
      omega
    · rw [if_neg e, if_neg (fun y => e (by have := y.2; omega))]; rfl
  · rw [setCell_others _ _ n _ _ (by omega), heap_setCell_same _ _ _ _ _ _ h.2.1, map_set, out_succ hk, hwd]
  · exact (h.2.2.setCell (by show _ ≤ w.heap.size + 1; omega) _).setCell (by show _ ≤ w.heap.size; omega) _

end Go.Proofs.YthngagciiidppaaGreatDoor

namespace Go.Proofs.YthngagciiidppaaGreatDoor
open Go.RowKit Go.Maps
set_option maxRecDepth 20000

theorem run_copy_gr {P : Program} (w : World) (dT sT ty elem : TypeId) (hu : P.underlying dT = some (.slice elem)) (hsz : (P.info? elem).map (·.size) = some 1) (dp sp : Option Addr) (dLen dCap sLen sCap : Nat)
    (g off : Nat) (cur : List Value) (t : TypeId) (hg : w.heap[g]? = some (.cells cur.toArray t (0, 0))) (cs : List Value) (hn : cs.length = Nat.min sLen dLen)
    (hpos : 0 < cs.length → dp = some ⟨g, off, none⟩ ∧ ∃ ad, sp = some ad ∧ ∀ j v, cs[j]? = some v → w.cell? (ad.add j) = some v) (hfit : off + cs.length ≤ cur.length) (h1 : ∀ v ∈ cs, v.oneCell' = true) :
    ∃ w', (Builtin.copy_ #[dT, sT] ty #[.slice dp dLen dCap, .slice sp sLen sCap]).run P w = .ok (goInt cs.length) w' ∧ w'.heap[g]? = some (.cells (splice cur off cs).toArray t (0, 0)) ∧ w.grownBy w' (some g) := by
  by_cases h0 : cs.length = 0
  · obtain rfl : cs = [] := List.eq_nil_of_length_eq_zero h0
    exact ⟨w, run_copy_none (P := P) w dT sT ty elem dp sp dLen dCap sLen sCap hu hsz (by simpa using hn.symm), by rw [hg]; simp [splice], ⟨rfl, rfl, rfl, Nat.le_refl _, fun _ _ _ => rfl⟩⟩
  · obtain ⟨rfl, ad, rfl, hsrc⟩ := hpos (by omega)
    exact ⟨_, run_copy_row (P := P) w dT sT ty elem g off dLen dCap ad sLen sCap cur.toArray t cs hu hsz hg hn hsrc (by simpa using hfit) h1, by simpa [splice] using setRow_heap w g _ _ t _ hg, ⟨rfl, rfl, rfl, by simp, fun k _ hk => setRow_other w g k _ (fun e => hk (by rw [e]))⟩⟩

theorem wpList_copy_gr {P : Program} {w : World} {ops : Array Oper} {rest : List Oper} {o : Oper} {a : Act} {Q : Exit → Act → World → Prop} (hgd : o.guard = none) (d s : Operand) (dT sT : TypeId)
    (ho : o.op = .call { callee := .builtin .copy, args := #[d, s], argTypes := #[dT, sT] }) (elem : TypeId) (hu : P.underlying dT = some (.slice elem)) (hsz : (P.info? elem).map (·.size) = some 1)
    (dp sp : Option Addr) (dLen dCap sLen sCap : Nat) (hd : a.eval d = .slice dp dLen dCap) (hs : a.eval s = .slice sp sLen sCap)
    (g off : Nat) (cur : List Value) (t : TypeId) (hg : w.heap[g]? = some (.cells cur.toArray t (0, 0))) (cs : List Value) (hn : cs.length = Nat.min sLen dLen)
    (hpos : 0 < cs.length → dp = some ⟨g, off, none⟩ ∧ ∃ ad, sp = some ad ∧ ∀ j v, cs[j]? = some v → w.cell? (ad.add j) = some v) (hfit : off + cs.length ≤ cur.length) (h1 : ∀ v ∈ cs, v.oneCell' = true)
    (h : ∀ w', Hid (w'.heap[g]? = some (.cells (splice cur off cs).toArray t (0, 0))) → w.grownBy w' (some g) → wpList P ops Q rest (a.put o.dst (goInt cs.length)) w') :
    wpList P ops Q (o :: rest) a w := by
  obtain ⟨w', hrun, h2, h3⟩ := run_copy_gr (P := P) w dT sT o.type elem hu hsz dp sp dLen dCap sLen sCap g off cur t hg cs hn hpos hfit h1
  refine wpList_plain hgd fun K hK => ?_
  unfold Oper.wp
  simp [execOp, ho, resolve, invoke, builtin, hd, hs, hrun, Result.andThen]
  exact hK _ _ (h w' h2 h3)

theorem step_copy_gr {P : Program} {ops : Array Oper} {o : Oper} {a : Act} {w : World} {K : Act → World → Prop} {Q : Exit → Act → World → Prop} {E : Prop} (hgd : o.guard = none) (d s : Operand) (dT sT : TypeId)
    (ho : o.op = .call { callee := .builtin .copy, args := #[d, s], argTypes := #[dT, sT] }) (elem : TypeId) (hu : P.underlying dT = some (.slice elem)) (hsz : (P.info? elem).map (·.size) = some 1)
    (dp sp : Option Addr) (dLen dCap sLen sCap : Nat) (hd : a.eval d = .slice dp dLen dCap) (hs : a.eval s = .slice sp sLen sCap)
    (g off : Nat) (cur : List Value) (t : TypeId) (hg : w.heap[g]? = some (.cells cur.toArray t (0, 0))) (cs : List Value) (hn : cs.length = Nat.min sLen dLen)
    (hpos : 0 < cs.length → dp = some ⟨g, off, none⟩ ∧ ∃ ad, sp = some ad ∧ ∀ j v, cs[j]? = some v → w.cell? (ad.add j) = some v) (hfit : off + cs.length ≤ cur.length) (h1 : ∀ v ∈ cs, v.oneCell' = true)
    (h : ∀ w', Hid (w'.heap[g]? = some (.cells (splice cur off cs).toArray t (0, 0))) → w.grownBy w' (some g) → K (a.put o.dst (goInt cs.length)) w') :
    if Region.wanted o (yielded ops a.tmps) = true then Oper.wp P o a w K Q else E := by
  have hw : Region.wanted o (yielded ops a.tmps) = true := by simp [Region.wanted, hgd]
  rw [if_pos hw]
  obtain ⟨w', hrun, h2, h3⟩ := run_copy_gr (P := P) w dT sT o.type elem hu hsz dp sp dLen dCap sLen sCap g off cur t hg cs hn hpos hfit h1
  unfold Oper.wp
  simp [execOp, ho, resolve, invoke, builtin, hd, hs, hrun, Result.andThen]
  exact h w' h2 h3



open Go.RowKit Go.Maps
set_option maxRecDepth 20000

/-- A literal's fixed length. -/
def fxl (s : Nat) : Int := if s < 144 then 8 else if s < 256 then 9 else if s < 280 then 7 else 8
def fxL (n : Nat) : List Int := (List.range n).map fxl

theorem fxL_len (n : Nat) : (fxL n).length = n := by simp [fxL]

theorem fxL_succ (n : Nat) : fxL (n + 1) = fxL n ++ [fxl n] := by simp [fxL, List.range_succ]

def fxc (n : Nat) : List Int := fxL n ++ List.replicate (288 - n) 0

theorem fxc_len {n : Nat} (h : n ≤ 288) : (fxc n).length = 288 := by unfold fxc; rw [List.length_append, fxL_len, List.length_replicate]; omega

theorem fxc_set {n : Nat} (h : n < 288) : (fxc n).set n (fxl n) = fxc (n + 1) := by
  unfold fxc
  rw [List.set_append_right _ _ (by rw [fxL_len]; omega), fxL_len, Nat.sub_self, fxL_succ]
  obtain ⟨m, hm⟩ : ∃ m, 288 - n = m + 1 := ⟨288 - n - 1, by omega⟩
  rw [hm, show 288 - (n + 1) = m by omega, List.replicate_succ]
  simp

def Fst (w : World) (n : Nat) (wr : World) : Prop := wr.heap[w.heap.size]? = some (.cells ((fxc n).map (Value.int .i64)).toArray 3 (0, 0)) ∧ Below w.heap.size w wr

theorem Fst.step {w wr : World} {n : Nat} (h : Fst w n wr) (hn : n < 288) (x : Int) (hx : x = fxl n) : Fst w (n + 1) (wr.setCell ⟨w.heap.size, n, none⟩ (.int .i64 x)) :=
  ⟨by rw [heap_setCell_same _ _ _ _ _ _ h.1, map_set, hx, fxc_set hn], h.2.setCell (by show _ ≤ w.heap.size; omega) _⟩

def Fresh (w : World) (l : List Int) (e : Ending) (w' : World) : Prop := ∃ a c, e = .returned (.slice a l.length c) ∧ OI w' w.heap.size (.slice a l.length c) l ∧ Below w.heap.size w w'

theorem fixedLit_any (w : World) : Calls Tryz.prog 28 #[] w fun e w' => Fresh w (fxL 288) e w' := by
  go_enter Tryz.func28, Tryz.ntmps28
  go_wp2_with (at_make; refine wpList_mkI rfl _ _ rfl _ _ _ _ 288 288 rfl rfl rfl rfl (Nat.le_refl _) (by omega) ?_)
  intro w2 hg hb1
  have HW : Hid (Fst w 0 w2) := ⟨by rw [hg]; unfold fxc fxL; simp, hb1⟩
  clear hg hb1
  go_wp2
  go_loopw [6] (fun i wr => ∃ n : Nat, n ≤ 288 ∧ i = .int .i64 n ∧ Hid (Fst w n wr)) (fun i _ => 288 - (intOf i).toNat)
  case atStart => exact ⟨0, Nat.zero_le _, rfl, HW⟩
  case round =>
    clear HW
    obtain ⟨n, hn, rfl, HT⟩ := hrel
    by_cases hlt : n < 288
    · have hlt' : (n : Int) < 288 := by omega
      obtain ⟨c0, hc0⟩ : ∃ c0, wr.cell? ⟨w.heap.size, n, none⟩ = some c0 := by
        rw [cell_of_row _ _ _ _ _ _ HT.out.1]
        have : n < (fxc n).length := by rw [fxc_len (by omega)]; exact hlt
        exact ⟨_, by simp [this]; rfl⟩
      have f0 : wr.frozen? ⟨w.heap.size, n, none⟩ = false := frozen_of_row _ _ _ _ _ HT.out.1
      by_cases h1 : n < 144
      · have h1' : (n : Int) < 144 := by omega
        have HX := hide (HT.out.step hlt 8 (by unfold fxl; rw [if_pos h1]))
        clear HT
        go_wp2
        go_roundw
        case rel => exact ⟨n + 1, by omega, by go_num, HX⟩
        case measure => simp [intOf]; omega
      · have h1' : ¬ (n : Int) < 144 := by omega
        by_cases h2 : n < 256
        · have h2' : (n : Int) < 256 := by omega
          have HX := hide (HT.out.step hlt 9 (by unfold fxl; rw [if_neg h1, if_pos h2]))
          clear HT
          go_wp2
          go_roundw
          case rel => exact ⟨n + 1, by omega, by go_num, HX⟩
          case measure => simp [intOf]; omega
        · have h2' : ¬ (n : Int) < 256 := by omega
          by_cases h3 : n < 280
          · have h3' : (n : Int) < 280 := by omega
            have HX := hide (HT.out.step hlt 7 (by unfold fxl; rw [if_neg h1, if_neg h2, if_pos h3]))
            clear HT
            go_wp2
            go_roundw
            case rel => exact ⟨n + 1, by omega, by go_num, HX⟩
            case measure => simp [intOf]; omega
          · have h3' : ¬ (n : Int) < 280 := by omega
            have HX := hide (HT.out.step hlt 8 (by unfold fxl; rw [if_neg h1, if_neg h2, if_neg h3]))
            clear HT
            go_wp2
            go_roundw
            case rel => exact ⟨n + 1, by omega, by go_num, HX⟩
            case measure => simp [intOf]; omega
    · obtain rfl : n = 288 := by omega
      have hlt' : ¬ ((288 : Nat) : Int) < 288 := by omega
      have HE : Hid (OI wr w.heap.size (.slice (some ⟨w.heap.size, 0, none⟩) (fxL 288).length 288) (fxL 288)) := by
        have e := HT.out.1
        rw [show fxc 288 = fxL 288 by unfold fxc; simp] at e
        have := OI.of_full (base := w.heap.size) e (by omega) (by rw [fxL_len]; unfold maxLen; omega)
        rw [fxL_len] at this ⊢
        exact this
      have HB := hide HT.out.2
      clear HT
      go_wp2
      go_ret
      refine ⟨_, _, ?_, HE.out, HB.out⟩
      rw [fxL_len]
      rfl

theorem xfixedLit_any (w : World) : Calls Tryz.prog 20 #[] w fun e w' => Fresh w (fxL 288) e w' := by
  go_enter Tryz.func20, Tryz.ntmps20
  go_wp2
  go_loopw [1, 2] (fun u i wr => ∃ n : Nat, n ≤ 288 ∧ i = .int .i64 n ∧ Hid (OI wr w.heap.size u (fxL n)) ∧ Hid (Below w.heap.size w wr)) (fun _ i _ => 288 - (intOf i).toNat)
  case atStart => exact ⟨0, Nat.zero_le _, rfl, World.ownsRow_nil _ _ _ _, Below.refl _ _⟩
  case round =>
    obtain ⟨n, hn, rfl, HO, HB⟩ := hrel
    have hBw := HB.out.size
    have hLl : (fxL n).length ≤ 288 := by rw [fxL_len]; exact hn
    obtain ⟨a1, p1, hu⟩ := HO.out.shape
    subst hu
    by_cases hlt : n < 288
    · have hlt' : (n : Int) < 288 := by omega
      obtain ⟨L, HL⟩ : ∃ L, Hid (L = fxL n) := ⟨_, rfl⟩
      have HSC : Hid (fxL (n + 1) = L ++ [fxl n]) := by show _ = _; rw [fxL_succ, HL.out]
      rw [← HL.out] at HO hLl ⊢
      have HNX : ∀ (y : Int) (v3 : Value) (w3 : World), y = fxl n → OI w3 w.heap.size v3 (L ++ [y]) → Grew (wr.alloc (.cells #[.int .i64 y] 3)) w3 (.slice a1 L.length p1) v3 → OI w3 w.heap.size v3 (fxL (n + 1)) ∧ Below w.heap.size w w3 := by
        rintro y v3 w3 rfl ho3 hgr3
        exact ⟨by rw [HSC.out]; exact ho3, (HB.out.alloc hBw _).grown hgr3.by (by simp; omega) (fun j hj => by have := HO.out.lt j hj; omega)⟩
      have HNXT := hide HNX
      clear HNX
      have HALC : Hid (∀ y : Int, OI (wr.alloc (.cells #[.int .i64 y] 3)) w.heap.size (.slice a1 L.length p1) L) := fun y => HO.out.alloc _
      have HSR : Hid (∀ y : Int, Src Tryz.prog 1 36 (.slice (some ⟨wr.heap.size, 0, none⟩) 1 1) ([y] : List Int).length (([y] : List Int).map (Value.int .i64)) (wr.alloc (.cells #[.int .i64 y] 3))) := fun y => built_srcI wr [y]
      by_cases h1 : n < 144
      · have h1' : (n : Int) < 144 := by omega
        have HE : Hid ((8 : Int) = fxl n) := by show _ = _; unfold fxl; rw [if_pos h1]
        go_wp2_with (at_builtin; refine wpList_appI rfl _ _ 36 rfl w.heap.size _ _ L [8] rfl (HALC.out 8) rfl (HSR.out 8) (by simp; omega) (by simp; omega) ?_)
        intro v3 w3 ho3 hgr3
        have HN := hide (HNXT.out 8 v3 w3 HE.out ho3 hgr3)
        clear ho3 hgr3
        go_wp2
        go_roundw
        case rel => exact ⟨n + 1, by omega, by go_num, HN.out.1, HN.out.2⟩
        case measure => simp [intOf]; omega
      · have h1' : ¬ (n : Int) < 144 := by omega
        by_cases h2 : n < 256
        · have h2' : (n : Int) < 256 := by omega
          have HE : Hid ((9 : Int) = fxl n) := by show _ = _; unfold fxl; rw [if_neg h1, if_pos h2]
          go_wp2_with (at_builtin; refine wpList_appI rfl _ _ 36 rfl w.heap.size _ _ L [9] rfl (HALC.out 9) rfl (HSR.out 9) (by simp; omega) (by simp; omega) ?_)
          intro v3 w3 ho3 hgr3
          have HN := hide (HNXT.out 9 v3 w3 HE.out ho3 hgr3)
          clear ho3 hgr3
          go_wp2
          go_roundw
          case rel => exact ⟨n + 1, by omega, by go_num, HN.out.1, HN.out.2⟩
          case measure => simp [intOf]; omega
        · have h2' : ¬ (n : Int) < 256 := by omega
          by_cases h3 : n < 280
          · have h3' : (n : Int) < 280 := by omega
            have HE : Hid ((7 : Int) = fxl n) := by show _ = _; unfold fxl; rw [if_neg h1, if_neg h2, if_pos h3]
            go_wp2_with (at_builtin; refine wpList_appI rfl _ _ 36 rfl w.heap.size _ _ L [7] rfl (HALC.out 7) rfl (HSR.out 7) (by simp; omega) (by simp; omega) ?_)
            intro v3 w3 ho3 hgr3
            have HN := hide (HNXT.out 7 v3 w3 HE.out ho3 hgr3)
            clear ho3 hgr3
            go_wp2
            go_roundw
            case rel => exact ⟨n + 1, by omega, by go_num, HN.out.1, HN.out.2⟩
            case measure => simp [intOf]; omega
          · have h3' : ¬ (n : Int) < 280 := by omega
            have HE : Hid ((8 : Int) = fxl n) := by show _ = _; unfold fxl; rw [if_neg h1, if_neg h2, if_neg h3]
            go_wp2_with (at_builtin; refine wpList_appI rfl _ _ 36 rfl w.heap.size _ _ L [8] rfl (HALC.out 8) rfl (HSR.out 8) (by simp; omega) (by simp; omega) ?_)
            intro v3 w3 ho3 hgr3
            have HN := hide (HNXT.out 8 v3 w3 HE.out ho3 hgr3)
            clear ho3 hgr3
            go_wp2
            go_roundw
            case rel => exact ⟨n + 1, by omega, by go_num, HN.out.1, HN.out.2⟩
            case measure => simp [intOf]; omega
    · obtain rfl : n = 288 := by omega
      have hlt' : ¬ ((288 : Nat) : Int) < 288 := by omega
      go_wp2
      go_ret
      exact ⟨_, _, rfl, HO.out, HB.out⟩

theorem rep_succ (n : Nat) : List.replicate (n + 1) (5 : Int) = List.replicate n 5 ++ [5] := by rw [List.replicate_succ']

theorem xfixedDist_any (w : World) : Calls Tryz.prog 21 #[] w fun e w' => Fresh w (List.replicate 32 5) e w' := by
  go_enter Tryz.func21, Tryz.ntmps21
  go_wp2
  go_loopw [1, 2] (fun u i wr => ∃ n : Nat, n ≤ 32 ∧ i = .int .i64 n ∧ Hid (OI wr w.heap.size u (List.replicate n 5)) ∧ Hid (Below w.heap.size w wr)) (fun _ i _ => 32 - (intOf i).toNat)
  case atStart => exact ⟨0, Nat.zero_le _, rfl, World.ownsRow_nil _ _ _ _, Below.refl _ _⟩
  case round =>
    obtain ⟨n, hn, rfl, HO, HB⟩ := hrel
    have hBw := HB.out.size
    have hLl : (List.replicate n (5 : Int)).length ≤ 32 := by rw [List.length_replicate]; exact hn
    obtain ⟨a1, p1, hu⟩ := HO.out.shape
    subst hu
    by_cases hlt : n < 32
    · have hlt' : (n : Int) < 32 := by omega
      obtain ⟨L, HL⟩ : ∃ L, Hid (L = List.replicate n (5 : Int)) := ⟨_, rfl⟩
      have HSC : Hid (List.replicate (n + 1) (5 : Int) = L ++ [5]) := by show _ = _; rw [rep_succ, HL.out]
      rw [← HL.out] at HO hLl ⊢
      have HALC : Hid (OI (wr.alloc (.cells #[.int .i64 5] 3)) w.heap.size (.slice a1 L.length p1) L) := HO.out.alloc _
      have HSR : Hid (Src Tryz.prog 1 36 (.slice (some ⟨wr.heap.size, 0, none⟩) 1 1) ([5] : List Int).length (([5] : List Int).map (Value.int .i64)) (wr.alloc (.cells #[.int .i64 5] 3))) := built_srcI wr [5]
      go_wp2_with (at_builtin; refine wpList_appI rfl _ _ 36 rfl w.heap.size _ _ L [5] rfl HALC.out rfl HSR.out (by simp; omega) (by simp; omega) ?_)
      intro v3 w3 ho3 hgr3
      have HN : Hid (OI w3 w.heap.size v3 (List.replicate (n + 1) 5) ∧ Below w.heap.size w w3) := by
        exact ⟨by rw [HSC.out]; exact ho3, (HB.out.alloc hBw _).grown hgr3.by (by simp; omega) (fun j hj => by have := HO.out.lt j hj; omega)⟩
      clear ho3 hgr3
      go_wp2
      go_roundw
      case rel => exact ⟨n + 1, by omega, by go_num, HN.out.1, HN.out.2⟩
      case measure => simp [intOf]; omega
    · obtain rfl : n = 32 := by omega
      have hlt' : ¬ ((32 : Nat) : Int) < 32 := by omega
      go_wp2
      go_ret
      exact ⟨_, _, rfl, HO.out, HB.out⟩


open Go.RowKit Go.Maps
set_option maxRecDepth 20000

theorem mul64_one (w : World) : Calls Tryz.prog 86 #[.int .u64 1, .int .u64 32] w fun e w' => e = .returned (.tuple #[.int .u64 0, .int .u64 32]) ∧ w' = w := by
  go_enter Tryz.func86, Tryz.ntmps86
  go_wp2
  go_ret2
  exact ⟨rfl, rfl⟩

theorem mul_one (w : World) : Calls Tryz.prog 67 #[.int .u64 1, .int .u64 32] w fun e w' => e = .returned (.tuple #[.int .u64 0, .int .u64 32]) ∧ w' = w := by
  go_enter Tryz.func67, Tryz.ntmps67
  go_wp2_with fail
  refine (mul64_one _).mono ?_
  rintro e w1 ⟨rfl, rfl⟩
  go_wp2
  go_ret2
  exact ⟨rfl, rfl⟩

def rpc (n : Nat) : List Value := List.replicate n (Value.int .i64 5) ++ List.replicate (32 - n) (Value.int .i64 0)

theorem rpc_len {n : Nat} (h : n ≤ 32) : (rpc n).length = 32 := by unfold rpc; rw [List.length_append, List.length_replicate, List.length_replicate]; omega

theorem rpc_next {n m : Nat} (h : n + m ≤ 32) : splice (rpc n) n (List.replicate m (Value.int .i64 5)) = rpc (n + m) := by
  unfold rpc splice
  rw [List.take_left' (by simp), List.length_replicate, List.drop_append, List.length_replicate, List.drop_of_length_le (by simp), List.drop_replicate]
  simp only [List.nil_append]
  rw [← List.append_assoc, List.replicate_append_replicate]
  congr 2
  omega

def Rst5 (w : World) (g n : Nat) (wr : World) : Prop := wr.heap[g]? = some (.cells (rpc n).toArray 3 (0, 0)) ∧ Below w.heap.size w wr

set_option maxHeartbeats 4000000 in
theorem repeat_any (w : World) (g0 : Nat) (hg0 : w.heap[g0]? = some (.cells #[.int .i64 5] 3 (0, 0))) :
    Calls Tryz.prog 49 #[.slice (some ⟨g0, 0, none⟩) 1 1, .int .i64 32] w fun e w' => Fresh w (List.replicate 32 5) e w' := by
  have HC := hide hg0
  have hlt0 : g0 < w.heap.size := (Array.getElem?_eq_some_iff.1 hg0).1
  clear hg0
  go_enter Tryz.func49, Tryz.ntmps49
  go_wp2_with fail
  refine (mul_one _).mono ?_
  rintro e w1 ⟨rfl, rfl⟩
  go_wp2_with (at_make; refine wpList_mkI rfl _ _ rfl _ _ _ _ 32 32 rfl rfl rfl rfl (Nat.le_refl _) (by omega) ?_)
  intro w2 hg hb1
  have HG : Hid (w2.heap[w1.heap.size]? = some (.cells (rpc 0).toArray 3 (0, 0))) := by show _ = _; rw [hg]; simp [rpc]
  have HB1 := hide hb1
  have HS0 : Hid (∀ j v, ([Value.int .i64 5] : List Value)[j]? = some v → w2.cell? ((⟨g0, 0, none⟩ : Addr).add j) = some v) := fun j v hj => by
    have hh : w2.heap[g0]? = some (.cells #[.int .i64 5] 3 (0, 0)) := (HB1.out.block g0 hlt0).trans HC.out
    rw [Addr.add_lit, cell_of_row _ _ _ _ _ _ hh]
    simpa using hj
  clear hg hb1
  have C3 : Hid (0 + ([Value.int .i64 5] : List Value).length ≤ (rpc 0).length) := by show _ ≤ _; rw [rpc_len (by omega)]; decide
  have C4 : Hid (∀ v ∈ ([Value.int .i64 5] : List Value), v.oneCell' = true) := by intro u hu; simp at hu; subst hu; rfl
  go_wp2_with (refine wpList_copy_gr rfl _ _ 36 36 rfl 3 Tryz.underlying36 sizeInt _ _ _ _ _ _ rfl rfl w1.heap.size 0 (rpc 0) 3 HG.out [.int .i64 5] rfl (fun _ => ⟨rfl, _, rfl, HS0.out⟩) C3.out C4.out ?_)
  intro w3 h3 hgr
  have HT0 : Hid (Rst5 w1 w1.heap.size 1 w3) := by
    refine ⟨by rw [h3.out]; rw [show ([Value.int .i64 5] : List Value) = List.replicate 1 (Value.int .i64 5) from rfl, rpc_next (by omega)], ?_⟩
    exact HB1.out.grown hgr HB1.out.size (fun k hk => by simp at hk; omega)
  clear h3 hgr HG HS0
  go_wp2
  go_loopw [8] (fun i wr => ∃ n : Nat, 1 ≤ n ∧ n ≤ 32 ∧ i = .int .i64 n ∧ Hid (Rst5 w1 w1.heap.size n wr)) (fun i _ => 32 - (intOf i).toNat)
  case atStart => exact ⟨1, Nat.le_refl _, by omega, rfl, HT0⟩
  case round =>
    clear HT0
    obtain ⟨n, hn1, hn, rfl, HT⟩ := hrel
    by_cases hlt : n < 32
    · have hlt' : (n : Int) < 32 := by omega
      have hnn : ¬ (32 : Int) < n := by omega
      have hn0 : (0 : Int) ≤ n := by omega
      obtain ⟨m, hm⟩ : ∃ m, m = Nat.min n (32 - n) := ⟨_, rfl⟩
      have hm1 : 1 ≤ m ∧ n + m ≤ 32 := by
        rw [hm]
        show 1 ≤ min n (32 - n) ∧ n + min n (32 - n) ≤ 32
        omega
      have HM := hide hm
      have HSRC : Hid (∀ j v, (List.replicate m (Value.int .i64 5))[j]? = some v → wr.cell? ((⟨w1.heap.size, 0, none⟩ : Addr).add j) = some v) := fun j v hj => by
        rw [Addr.add_lit, cell_of_row _ _ _ _ _ _ HT.out.1]
        have hjm : j < m := by
          have := (List.getElem?_eq_some_iff.1 hj).1
          simpa using this
        have hjn : j < n := by have : m ≤ n := by rw [HM.out]; exact Nat.min_le_left _ _
                               omega
        simp [hjm] at hj
        subst hj
        unfold rpc
        rw [Nat.zero_add, List.getElem?_toArray, List.getElem?_append_left (by simpa using hjn)]
        simp [hjn]
      have HNX : Hid (∀ w', Hid (w'.heap[w1.heap.size]? = some (.cells (splice (rpc n) n (List.replicate m (Value.int .i64 5))).toArray 3 (0, 0))) → wr.drew.grownBy w' (some w1.heap.size) → Rst5 w1 w1.heap.size (n + m) w') := fun w' h1 h2 => by
        refine ⟨by rw [h1.out, rpc_next hm1.2], ?_⟩
        have hb : Below w1.heap.size w1 wr.drew := below_drewN HT.out.2 1
        exact hb.grown h2 hb.size (fun k hk => by simp at hk; omega)
      clear hm
      have C1 : Hid ((List.replicate m (Value.int .i64 5)).length = Nat.min n (32 - n)) := by show _ = _; rw [List.length_replicate, HM.out]
      have C5 : Hid (n + (List.replicate m (Value.int .i64 5)).length ≤ (rpc n).length) := by show _ ≤ _; rw [rpc_len hn, List.length_replicate]; exact hm1.2
      have C6 : Hid (∀ v ∈ List.replicate m (Value.int .i64 5), v.oneCell' = true) := by intro u hu; obtain ⟨_, rfl⟩ := List.mem_replicate.1 hu; rfl
      have hne : ¬ (32 : Nat) = n := by omega
      have hw : IntKind.i64.wrap ((n : Int) + (m : Int)) = (n : Int) + m := by rw [IntKind.wrap_i64]; omega
      go_wp2_with fail
      go_region_law (refine step_copy_gr (by rfl) (.tmp 41) (.tmp 44) 36 36 (by rfl) 3 Tryz.underlying36 sizeInt (some ⟨w1.heap.size, n, none⟩) (some ⟨w1.heap.size, 0, none⟩) (32 - n) (32 - n) n 32 (by simp [Act.eval, Act.put]) (by simp [Act.eval, Act.put]) w1.heap.size n (rpc n) 3 HT.out.1 (List.replicate m (Value.int .i64 5)) C1.out (fun _ => ⟨rfl, _, rfl, HSRC.out⟩) C5.out C6.out ?_; intro w4 h4 hgr4; have HX := hide (HNX.out w4 h4 hgr4); clear h4 hgr4)
      clear HT HSRC HNX C1 C5 C6
      go_simp
      go_wp2
      go_roundw
      case rel => exact ⟨n + m, by omega, hm1.2, by go_num, HX⟩
      case measure => simp [intOf]; omega
    · obtain rfl : n = 32 := by omega
      have hlt' : ¬ ((32 : Nat) : Int) < 32 := by omega
      have HE : Hid (OI wr w1.heap.size (.slice (some ⟨w1.heap.size, 0, none⟩) (List.replicate 32 (5 : Int)).length 32) (List.replicate 32 5)) := by
        have e := HT.out.1
        rw [show rpc 32 = (List.replicate 32 (5 : Int)).map (Value.int .i64) by unfold rpc; simp] at e
        have := OI.of_full (base := w1.heap.size) e (by omega) (by rw [List.length_replicate]; unfold maxLen; omega)
        rw [List.length_replicate] at this ⊢
        exact this
      have HB := hide HT.out.2
      clear HT
      go_wp2
      go_ret
      refine ⟨_, _, ?_, HE.out, HB.out⟩
      first | rfl | (rw [List.length_replicate]; rfl)

theorem fixedDist_any (w : World) : Calls Tryz.prog 29 #[] w fun e w' => Fresh w (List.replicate 32 5) e w' := by
  have HG : Hid ((w.alloc (.cells #[.int .i64 5] 3)).heap[w.heap.size]? = some (.cells #[.int .i64 5] 3 (0, 0))) := heap_alloc_new w _
  have HB : Hid (Below w.heap.size w (w.alloc (.cells #[.int .i64 5] 3))) := (Below.refl _ _).alloc (Nat.le_refl _) _
  go_enter Tryz.func29, Tryz.ntmps29
  go_wp2_with fail
  refine (repeat_any _ _ HG.out).mono ?_
  rintro e w1 ⟨a, c, rfl, ho, hb⟩
  have HO := hide (ho.base HB.out.size)
  have HB1 := hide (HB.out.trans (hb.mono HB.out.size))
  clear ho hb
  go_wp2
  go_ret
  exact ⟨_, _, rfl, HO.out, HB1.out⟩
end Go.Proofs.YthngagciiidppaaGreatDoor

