import Derived.Test.YthngagciiidppaaDoorGA24
import Derived.Deep.MidRow
import Derived.BigQuiet
import Derived.Test.YthngagciiidppaaDoorGA04
import Derived.Test.YthngagciiidppaaDoorGA12
import Derived.Laws.CopyOwn
import Derived.Test.YthngagciiidppaaDoorGA00
import Derived.Test.YthngagciiidppaaDoorRows
namespace Go.Proofs.YthngagciiidppaaDoor
open Go.RowKit Go.Maps
set_option maxRecDepth 20000
set_option linter.unusedVariables false

theorem infoSpan : (Tryd.prog.info? 61).map (fun i => (i.zero, i.size, i.bytes)) = some (some (.agg #[.int .i64 0, .int .i64 0]), 2, 16) := by kernel_rfl

theorem run_ixA (ta : TypeId) {n k : Nat} {A : Array Value} {x y : Value} (hu : Tryd.prog.underlying ta = some (.array n 61)) (h : k < n) (he : A.extract (k * 2) (k * 2 + 2) = #[x, y]) (w : World) : (Instr.index ta (.agg A) (.int .i64 k)).run Tryd.prog w = .ok (.agg #[x, y]) w := by
  obtain ⟨i0, hi, hz0, hz1, hz2⟩ := info_parts infoSpan
  simp [Instr.index, asIntOf, run_underlying hu, sizeOf, typeInfo, hi, hz1, part, isAgg, run_underlying Tryd.underlying61, he]
  omega

def lcs : List Value := [.int .i64 3, .int .i64 0, .int .i64 4, .int .i64 0, .int .i64 5, .int .i64 0, .int .i64 6, .int .i64 0, .int .i64 7, .int .i64 0, .int .i64 8, .int .i64 0, .int .i64 9, .int .i64 0, .int .i64 10, .int .i64 0, .int .i64 11, .int .i64 1, .int .i64 13, .int .i64 1, .int .i64 15, .int .i64 1, .int .i64 17, .int .i64 1, .int .i64 19, .int .i64 2, .int .i64 23, .int .i64 2, .int .i64 27, .int .i64 2, .int .i64 31, .int .i64 2, .int .i64 35, .int .i64 3, .int .i64 43, .int .i64 3, .int .i64 51, .int .i64 3, .int .i64 59, .int .i64 3, .int .i64 67, .int .i64 4, .int .i64 83, .int .i64 4, .int .i64 99, .int .i64 4, .int .i64 115, .int .i64 4, .int .i64 131, .int .i64 5, .int .i64 163, .int .i64 5, .int .i64 195, .int .i64 5, .int .i64 227, .int .i64 5, .int .i64 258, .int .i64 0]

theorem lcs_at : ∀ k : Nat, k < 29 → (lcs.toArray.extract (k * 2) (k * 2 + 2) = #[.int .i64 (LB k : Int), .int .i64 (LF k : Int)] ∧ lcs[k * 2]? = some (.int .i64 (LB k : Int)) ∧ lcs[k * 2 + 1]? = some (.int .i64 (LF k : Int)))
  | 0, _ => ⟨rfl, rfl, rfl⟩
  | 1, _ => ⟨rfl, rfl, rfl⟩
  | 2, _ => ⟨rfl, rfl, rfl⟩
  | 3, _ => ⟨rfl, rfl, rfl⟩
  | 4, _ => ⟨rfl, rfl, rfl⟩
  | 5, _ => ⟨rfl, rfl, rfl⟩
  | 6, _ => ⟨rfl, rfl, rfl⟩
  | 7, _ => ⟨rfl, rfl, rfl⟩
  | 8, _ => ⟨rfl, rfl, rfl⟩
  | 9, _ => ⟨rfl, rfl, rfl⟩
  | 10, _ => ⟨rfl, rfl, rfl⟩
  | 11, _ => ⟨rfl, rfl, rfl⟩
  | 12, _ => ⟨rfl, rfl, rfl⟩
  | 13, _ => ⟨rfl, rfl, rfl⟩
  | 14, _ => ⟨rfl, rfl, rfl⟩
  | 15, _ => ⟨rfl, rfl, rfl⟩
  | 16, _ => ⟨rfl, rfl, rfl⟩
  | 17, _ => ⟨rfl, rfl, rfl⟩
  | 18, _ => ⟨rfl, rfl, rfl⟩
  | 19, _ => ⟨rfl, rfl, rfl⟩
  | 20, _ => ⟨rfl, rfl, rfl⟩
  | 21, _ => ⟨rfl, rfl, rfl⟩
  | 22, _ => ⟨rfl, rfl, rfl⟩
  | 23, _ => ⟨rfl, rfl, rfl⟩
  | 24, _ => ⟨rfl, rfl, rfl⟩
  | 25, _ => ⟨rfl, rfl, rfl⟩
  | 26, _ => ⟨rfl, rfl, rfl⟩
  | 27, _ => ⟨rfl, rfl, rfl⟩
  | 28, _ => ⟨rfl, rfl, rfl⟩
  | k + 29, h => absurd h (by omega)

theorem lcs_range {w : World} (T : Ltab w) : w.rangeAt 0 0 lcs := by
  intro i v hv
  have hl : i < 58 := by
    have := (List.getElem?_eq_some_iff.1 hv).1
    exact this
  rw [Nat.zero_add]
  by_cases e : i % 2 = 0
  · obtain ⟨k, rfl⟩ : ∃ k, i = k * 2 := ⟨i / 2, by omega⟩
    have h2 := (lcs_at k (by omega)).2.1
    rw [hv] at h2
    rw [h2]
    exact T.base k (by omega)
  · obtain ⟨k, rfl⟩ : ∃ k, i = k * 2 + 1 := ⟨i / 2, by omega⟩
    have h2 := (lcs_at k (by omega)).2.2
    rw [hv] at h2
    rw [h2]
    exact T.more k (by omega)

theorem run_ix_lcs {k : Nat} (h : k < 29) (w : World) : (Instr.index 62 (.agg lcs.toArray) (.int .i64 k)).run Tryd.prog w = .ok (.agg #[.int .i64 (LB k : Int), .int .i64 (LF k : Int)]) w := run_ixA 62 Tryd.underlying62 h (lcs_at k h).1 w

def dcs : List Value := [.int .i64 1, .int .i64 0, .int .i64 2, .int .i64 0, .int .i64 3, .int .i64 0, .int .i64 4, .int .i64 0, .int .i64 5, .int .i64 1, .int .i64 7, .int .i64 1, .int .i64 9, .int .i64 2, .int .i64 13, .int .i64 2, .int .i64 17, .int .i64 3, .int .i64 25, .int .i64 3, .int .i64 33, .int .i64 4, .int .i64 49, .int .i64 4, .int .i64 65, .int .i64 5, .int .i64 97, .int .i64 5, .int .i64 129, .int .i64 6, .int .i64 193, .int .i64 6, .int .i64 257, .int .i64 7, .int .i64 385, .int .i64 7, .int .i64 513, .int .i64 8, .int .i64 769, .int .i64 8, .int .i64 1025, .int .i64 9, .int .i64 1537, .int .i64 9, .int .i64 2049, .int .i64 10, .int .i64 3073, .int .i64 10, .int .i64 4097, .int .i64 11, .int .i64 6145, .int .i64 11, .int .i64 8193, .int .i64 12, .int .i64 12289, .int .i64 12, .int .i64 16385, .int .i64 13, .int .i64 24577, .int .i64 13]

theorem dcs_at : ∀ k : Nat, k < 30 → (dcs.toArray.extract (k * 2) (k * 2 + 2) = #[.int .i64 (DB k : Int), .int .i64 (DF k : Int)] ∧ dcs[k * 2]? = some (.int .i64 (DB k : Int)) ∧ dcs[k * 2 + 1]? = some (.int .i64 (DF k : Int)))
  | 0, _ => ⟨rfl, rfl, rfl⟩
  | 1, _ => ⟨rfl, rfl, rfl⟩
  | 2, _ => ⟨rfl, rfl, rfl⟩
  | 3, _ => ⟨rfl, rfl, rfl⟩
  | 4, _ => ⟨rfl, rfl, rfl⟩
  | 5, _ => ⟨rfl, rfl, rfl⟩
  | 6, _ => ⟨rfl, rfl, rfl⟩
  | 7, _ => ⟨rfl, rfl, rfl⟩
  | 8, _ => ⟨rfl, rfl, rfl⟩
  | 9, _ => ⟨rfl, rfl, rfl⟩
  | 10, _ => ⟨rfl, rfl, rfl⟩
  | 11, _ => ⟨rfl, rfl, rfl⟩
  | 12, _ => ⟨rfl, rfl, rfl⟩
  | 13, _ => ⟨rfl, rfl, rfl⟩
  | 14, _ => ⟨rfl, rfl, rfl⟩
  | 15, _ => ⟨rfl, rfl, rfl⟩
  | 16, _ => ⟨rfl, rfl, rfl⟩
  | 17, _ => ⟨rfl, rfl, rfl⟩
  | 18, _ => ⟨rfl, rfl, rfl⟩
  | 19, _ => ⟨rfl, rfl, rfl⟩
  | 20, _ => ⟨rfl, rfl, rfl⟩
  | 21, _ => ⟨rfl, rfl, rfl⟩
  | 22, _ => ⟨rfl, rfl, rfl⟩
  | 23, _ => ⟨rfl, rfl, rfl⟩
  | 24, _ => ⟨rfl, rfl, rfl⟩
  | 25, _ => ⟨rfl, rfl, rfl⟩
  | 26, _ => ⟨rfl, rfl, rfl⟩
  | 27, _ => ⟨rfl, rfl, rfl⟩
  | 28, _ => ⟨rfl, rfl, rfl⟩
  | 29, _ => ⟨rfl, rfl, rfl⟩
  | k + 30, h => absurd h (by omega)

theorem dcs_range {w : World} (T : Dtab w) : w.rangeAt 1 0 dcs := by
  intro i v hv
  have hl : i < 60 := by
    have := (List.getElem?_eq_some_iff.1 hv).1
    exact this
  rw [Nat.zero_add]
  by_cases e : i % 2 = 0
  · obtain ⟨k, rfl⟩ : ∃ k, i = k * 2 := ⟨i / 2, by omega⟩
    have h2 := (dcs_at k (by omega)).2.1
    rw [hv] at h2
    rw [h2]
    exact T.base k (by omega)
  · obtain ⟨k, rfl⟩ : ∃ k, i = k * 2 + 1 := ⟨i / 2, by omega⟩
    have h2 := (dcs_at k (by omega)).2.2
    rw [hv] at h2
    rw [h2]
    exact T.more k (by omega)

theorem run_ix_dcs {k : Nat} (h : k < 30) (w : World) : (Instr.index 64 (.agg dcs.toArray) (.int .i64 k)).run Tryd.prog w = .ok (.agg #[.int .i64 (DB k : Int), .int .i64 (DF k : Int)]) w := run_ixA 64 Tryd.underlying64 h (dcs_at k h).1 w

set_option maxHeartbeats 4000000 in
theorem furtherSize_any (vf vg : Value) (F G : List Int) (w : World) (sf : SI w vf F) (sg : SI w vg G) (hF : F.length = 286) (hG : G.length = 30) (bF : Bd F 16777217) (bG : Bd G 16777217) (T : Ltab w ∧ Dtab w) :
    Calls Tryd.prog 20 #[.agg #[vf, vg]] w fun e w' => e = .returned (.int .i64 (fzL F 29 + fzD G 30)) ∧ Below w.heap.size w w' := by
  obtain ⟨wb, hwb⟩ : ∃ wb, w.alloc (.cells #[vf, vg] 40) = wb := ⟨_, rfl⟩
  have HB : Hid (Below w.heap.size w wb) := by show Below _ _ _; rw [← hwb]; exact (Below.refl _ _).alloc (Nat.le_refl _) _
  have hbl : w.heap.size < wb.heap.size := by rw [← hwb]; simp
  obtain ⟨af, cf, rfl, hcf, hcf2⟩ := sf.open
  obtain ⟨ag, cg, rfl, hcg, hcg2⟩ := sg.open
  have d1 : wb.cell? ⟨w.heap.size, 0, none⟩ = some (.slice af F.length cf) := by rw [← hwb]; unfold World.cell?; simp only [heap_alloc_new]; rfl
  have d2 : wb.cell? ⟨w.heap.size, 1, none⟩ = some (.slice ag G.length cg) := by rw [← hwb]; unfold World.cell?; simp only [heap_alloc_new]; rfl
  have HD : Hid (∀ wx, Below wb.heap.size wb wx → wx.cell? ⟨w.heap.size, 0, none⟩ = some (.slice af F.length cf) ∧ wx.cell? ⟨w.heap.size, 1, none⟩ = some (.slice ag G.length cg)) := fun wx q => ⟨(q.cell hbl).trans d1, (q.cell hbl).trans d2⟩
  have HSF : Hid (SI wb (.slice af F.length cf) F) := sf.below HB.out
  have HSG : Hid (SI wb (.slice ag G.length cg) G) := sg.below HB.out
  have HTL : Hid (∀ wx, Below wb.heap.size wb wx → Ltab wx) := fun wx q => (T.1.low HB.out).low q
  have HTD : Hid (∀ wx, Below wb.heap.size wb wx → Dtab wx) := fun wx q => (T.2.low HB.out).low q
  have HFL := hide hF
  have HGL := hide hG
  have HBF := hide bF
  have HBG := hide bG
  have HFI : Hid (∀ wx, Below wb.heap.size wb wx → Below w.heap.size w wx) := fun wx q => HB.out.trans (q.mono HB.out.size)
  obtain ⟨nF, hnF⟩ : ∃ n, n = F.length := ⟨_, rfl⟩
  obtain ⟨nG, hnG⟩ : ∃ n, n = G.length := ⟨_, rfl⟩
  have hnF' : (nF : Int) = 286 := by omega
  have hnG' : (nG : Int) = 30 := by omega
  have HNF := hide hnF
  have HNG := hide hnG
  rw [← hnF] at HD d1 hcf hwb ⊢
  rw [← hnG] at HD d2 hcg hwb ⊢
  obtain ⟨A, hA⟩ : ∃ A, lcs.toArray = A := ⟨_, rfl⟩
  obtain ⟨A2, hA2⟩ : ∃ A, dcs.toArray = A := ⟨_, rfl⟩
  have HIX : Hid (∀ k : Nat, k < 29 → ∀ w : World, (Instr.index 62 (.agg A) (.int .i64 (k : Int))).run Tryd.prog w = .ok (.agg #[.int .i64 (LB k : Int), .int .i64 (LF k : Int)]) w) := fun k hk w => by rw [← hA]; exact run_ix_lcs hk w
  have HIX2 : Hid (∀ k : Nat, k < 30 → ∀ w : World, (Instr.index 64 (.agg A2) (.int .i64 (k : Int))).run Tryd.prog w = .ok (.agg #[.int .i64 (DB k : Int), .int .i64 (DF k : Int)]) w) := fun k hk w => by rw [← hA2]; exact run_ix_dcs hk w
  have HRL := hide (lcs_range (HTL.out wb (Below.refl _ _)))
  have HRA : Hid ((w.alloc (.cells #[.slice af nF cf, .slice ag nG cg] 40)).rangeAt 0 0 lcs) := by show World.rangeAt _ _ _ _; rw [hwb]; exact HRL.out
  have HAA := hide hA
  have HAA2 := hide hA2
  clear sf sg hF hG bF bG T hnF hnG hA hA2 d1 d2
  go_enter Tryd.func20, Tryd.ntmps20
  go_wp2_with (first | ((with_reducible refine wpList_load_mid rfl 62 _ rfl 0 0 ?hx lcs _ HRL.out Tryd.underlying62 rfl ?hi ?_); (case hx => rfl); (case hi => kernel_rfl)) | ((with_reducible refine wpList_load_mid rfl 62 _ rfl 0 0 ?hx lcs _ HRA.out Tryd.underlying62 rfl ?hi ?_); (case hx => rfl); (case hi => kernel_rfl)))
  rw [HAA.out]
  clear hwb
  go_loopw [3, 9] (fun s t wr => ∃ k : Nat, k ≤ 29 ∧ t = .int .i64 (k : Int) ∧ s = .int .i64 (fzL F k) ∧ Hid (Below wb.heap.size wb wr)) (fun _ t _ => 29 - (intOf t).toNat)
  case atStart => exact ⟨0, by omega, rfl, rfl, Below.refl _ _⟩
  case round =>
    obtain ⟨k, hk, rfl, rfl, HBk⟩ := hrel
    by_cases hkl : k < 29
    · have hkl' : (k : Int) < 29 := by omega
      have hix := HIX.out k hkl
      obtain ⟨wa, hwa⟩ : ∃ wa, wr.alloc (.cells #[.int .i64 (LB k : Int), .int .i64 (LF k : Int)] 61) = wa := ⟨_, rfl⟩
      have HBa : Hid (Below wb.heap.size wb wa) := by show Below _ _ _; rw [← hwa]; exact HBk.out.alloc HBk.out.size _
      obtain ⟨f1, f2⟩ := HD.out _ HBa.out
      obtain ⟨fb, fo, rfl, cf9⟩ := HSF.out.get HBa.out (k := 257 + k) (by rw [HFL.out]; omega)
      have e2 : wa.cell? ⟨wr.heap.size, 1, none⟩ = some (.int .i64 (LF k : Int)) := by rw [← hwa]; unfold World.cell?; simp only [heap_alloc_new]; rfl
      have hb1 := HBF.out (257 + k)
      have hb2 := (lfLe k hkl).1
      have hb3 := fzL_bd HBF.out k (by omega)
      have hb4 : 0 ≤ F.getD (257 + k) 0 * (LF k : Int) := Int.mul_nonneg hb1.1 (by omega)
      have hb5 : F.getD (257 + k) 0 * (LF k : Int) ≤ 16777217 * 5 := Int.mul_le_mul hb1.2 (by omega) (by omega) (by omega)
      obtain ⟨q, HQ⟩ : ∃ q, Hid (q = F.getD (257 + k) 0) := ⟨_, rfl⟩
      obtain ⟨u, HU⟩ : ∃ u, Hid (u = fzL F k) := ⟨_, rfl⟩
      obtain ⟨lf, HLF⟩ : ∃ u : Int, Hid (u = (LF k : Int)) := ⟨_, rfl⟩
      obtain ⟨lb, HLB⟩ : ∃ u : Int, Hid (u = (LB k : Int)) := ⟨_, rfl⟩
      obtain ⟨p, HP⟩ : ∃ p : Int, Hid (p = q * lf) := ⟨_, rfl⟩
      rw [← HQ.out, ← HLF.out] at hb4 hb5
      rw [← HP.out] at hb4 hb5
      rw [← HQ.out] at cf9
      rw [← HU.out] at hb3 ⊢
      rw [← HLF.out] at e2 hix hwa
      rw [← HLB.out] at hix hwa
      have hpp : q * lf = p := HP.out.symm
      have w1 : IntKind.i64.wrap (q * lf) = p := by rw [hpp, IntKind.wrap_i64]; omega
      have w2 : IntKind.i64.wrap (u + p) = u + p := by rw [IntKind.wrap_i64]; omega
      obtain ⟨m, hm⟩ : ∃ m, 257 + k = m := ⟨_, rfl⟩
      rw [hm] at cf9
      have hoff : (257 : Int) + (k : Int) = (m : Int) := by omega
      have hml : (m : Int) < 286 := by omega
      have HMM := hide hm
      clear hm
      have HN : Hid (u + p = fzL F (k + 1)) := by show _ = _; simp only [fzL]; rw [HP.out, HQ.out, HLF.out, HU.out]
      clear hb1 hb2
      go_wp2
      go_quiet (fail)
      go_wp2
      go_roundw
      case rel => exact ⟨k + 1, by omega, by go_num, by rw [HN.out], below_drewN HBa.out _⟩
      case measure => simp [intOf]; omega
    · obtain rfl : k = 29 := by omega
      have HR2 := hide (dcs_range (HTD.out wr HBk.out))
      obtain ⟨u0, HU0⟩ : ∃ u, Hid (u = fzL F 29) := ⟨_, rfl⟩
      have hu0 := fzL_bd HBF.out 29 (by omega)
      rw [← HU0.out] at hu0 ⊢
      have HB29 := HBk
      have h29 : ¬ (((29 : Nat) : Int) < 29) := by omega
      go_wp2_with ((with_reducible refine wpList_load_mid rfl 64 _ rfl 1 0 ?hx dcs _ HR2.out Tryd.underlying64 rfl ?hi ?_); (case hx => rfl); (case hi => kernel_rfl))
      rw [HAA2.out]
      go_loopw [3, 26] (fun s t wr => ∃ k : Nat, k ≤ 30 ∧ t = .int .i64 (k : Int) ∧ s = .int .i64 (u0 + fzD G k) ∧ Hid (Below wb.heap.size wb wr)) (fun _ t _ => 30 - (intOf t).toNat)
      case atStart => exact ⟨0, by omega, rfl, by simp [fzD], HB29⟩
      case round =>
        clear hkl hk HBk HB29 HR2 h29
        obtain ⟨k, hk, rfl, rfl, HBk⟩ := hrel
        by_cases hkl : k < 30
        · have hkl' : (k : Int) < 30 := by omega
          have hix := HIX2.out k hkl
          obtain ⟨wa, hwa⟩ : ∃ wa, wr.alloc (.cells #[.int .i64 (DB k : Int), .int .i64 (DF k : Int)] 61) = wa := ⟨_, rfl⟩
          have HBa : Hid (Below wb.heap.size wb wa) := by show Below _ _ _; rw [← hwa]; exact HBk.out.alloc HBk.out.size _
          obtain ⟨f1, f2⟩ := HD.out _ HBa.out
          obtain ⟨fb, fo, rfl, cf9⟩ := HSG.out.get HBa.out (k := k) (by rw [HGL.out]; omega)
          have e2 : wa.cell? ⟨wr.heap.size, 1, none⟩ = some (.int .i64 (DF k : Int)) := by rw [← hwa]; unfold World.cell?; simp only [heap_alloc_new]; rfl
          have hb1 := HBG.out k
          have hb2 := (dfLe k hkl).1
          have hb3 := fzD_bd HBG.out k (by omega)
          have hb4 : 0 ≤ G.getD k 0 * (DF k : Int) := Int.mul_nonneg hb1.1 (by omega)
          have hb5 : G.getD k 0 * (DF k : Int) ≤ 16777217 * 13 := Int.mul_le_mul hb1.2 (by omega) (by omega) (by omega)
          obtain ⟨q, HQ⟩ : ∃ q, Hid (q = G.getD k 0) := ⟨_, rfl⟩
          obtain ⟨u, HU⟩ : ∃ u, Hid (u = u0 + fzD G k) := ⟨_, rfl⟩
          have hu1 : 0 ≤ u ∧ u ≤ 20000000000 := by rw [HU.out]; omega
          obtain ⟨lf, HLF⟩ : ∃ u : Int, Hid (u = (DF k : Int)) := ⟨_, rfl⟩
          obtain ⟨lb, HLB⟩ : ∃ u : Int, Hid (u = (DB k : Int)) := ⟨_, rfl⟩
          obtain ⟨p, HP⟩ : ∃ p : Int, Hid (p = q * lf) := ⟨_, rfl⟩
          rw [← HQ.out, ← HLF.out] at hb4 hb5
          rw [← HP.out] at hb4 hb5
          rw [← HQ.out] at cf9
          rw [← HU.out]
          rw [← HLF.out] at e2 hix hwa
          rw [← HLB.out] at hix hwa
          have hpp : q * lf = p := HP.out.symm
          have w1 : IntKind.i64.wrap (q * lf) = p := by rw [hpp, IntKind.wrap_i64]; omega
          have w2 : IntKind.i64.wrap (u + p) = u + p := by rw [IntKind.wrap_i64]; omega
          have HN : Hid (u + p = u0 + fzD G (k + 1)) := by show _ = _; simp only [fzD]; rw [HP.out, HQ.out, HLF.out, HU.out]; omega
          clear hb1 hb2 hb3
          go_wp2
          go_quiet (fail)
          go_wp2
          go_roundw
          case rel => exact ⟨k + 1, by omega, by go_num, by rw [HN.out], below_drewN HBa.out _⟩
          case measure => simp [intOf]; omega
        · obtain rfl : k = 30 := by omega
          have h30 : ¬ (((30 : Nat) : Int) < 30) := by omega
          obtain ⟨u, HU⟩ : ∃ u, Hid (u = u0 + fzD G 30) := ⟨_, rfl⟩
          rw [← HU.out]
          go_wp2
          go_ret
          refine ⟨?_, HFI.out _ HBk.out⟩
          rw [HU.out, HU0.out]; rfl
end Go.Proofs.YthngagciiidppaaDoor

namespace Go.Proofs.YthngagciiidppaaDoor
open Go.RowKit Go.Maps
set_option maxRecDepth 20000

theorem run_copy_gr {P : Program} (w : World) (dT sT ty elem : TypeId) (hu : P.underlying dT = some (.slice elem)) (hsz : (P.info? elem).map (·.size) = some 1) (dp sp : Option Addr) (dLen dCap sLen sCap : Nat)
    (g off : Nat) (cur : List Value) (t : TypeId) (hg : w.heap[g]? = some (.cells cur.toArray t (0, 0))) (cs : List Value) (hn : cs.length = Nat.min sLen dLen)
    (hpos : 0 < cs.length → dp = some ⟨g, off, none⟩ ∧ ∃ ad, sp = some ad ∧ ∀ j v, cs[j]? = some v → w.cell? (ad.add j) = some v) (hfit : off + cs.length ≤ cur.length) (h1 : ∀ v ∈ cs, v.oneCell' = true) :
    ∃ w', (Builtin.copy_ #[dT, sT] ty #[.slice dp dLen dCap, .slice sp sLen sCap]).run P w = .ok (goInt cs.length) w' ∧ w'.heap[g]? = some (.cells (splice cur off cs).toArray t (0, 0)) ∧ w.grownBy w' (some g) := by
  by_cases h0 : cs.length = 0
  · obtain rfl : cs = [] := List.eq_nil_of_length_eq_zero h0
    exact ⟨w, run_copy_none (P := P) w dT sT ty elem dp sp dLen dCap sLen sCap hu hsz (by simpa using hn.symm), by rw [hg]; simp [splice], ⟨rfl, rfl, rfl, Nat.le_refl _, fun _ _ _ => rfl⟩⟩
  · obtain ⟨rfl, ad, rfl, hsrc⟩ := hpos (by omega)
    exact ⟨_, run_copy_row (P := P) w dT sT ty elem g off dLen dCap ad sLen sCap cur.toArray t cs hu hsz hg hn hsrc (by simpa using hfit) h1, by simpa [splice] using setRow_heap w g _ _ t _ hg, ⟨rfl, rfl, rfl, by simp, fun k _ hk => setRow_other w g k _ (fun e => hk (by rw [e]))⟩⟩

theorem wpList_copy_gr {P : Program} {w : World} {ops : Array Oper} {rest : List Oper} {o : Oper} {a : Act} {Q : Exit → Act → World → Prop} (hgd : o.guard = none) (d s : Operand) (dT sT : TypeId)
    (ho : o.op = .call { callee := .builtin .copy, args := #[d, s], argTypes := #[dT, sT] }) (elem : TypeId) (hu : P.underlying dT = some (.slice elem)) (hsz : (P.info? elem).map (·.size) = some 1)
    (dp sp : Option Addr) (dLen dCap sLen sCap : Nat) (hd : a.eval d = .slice dp dLen dCap) (hs : a.eval s = .slice sp sLen sCap)
    (g off : Nat) (cur : List Value) (t : TypeId) (hg : w.heap[g]? = some (.cells cur.toArray t (0, 0))) (cs : List Value) (hn : cs.length = Nat.min sLen dLen)
    (hpos : 0 < cs.length → dp = some ⟨g, off, none⟩ ∧ ∃ ad, sp = some ad ∧ ∀ j v, cs[j]? = some v → w.cell? (ad.add j) = some v) (hfit : off + cs.length ≤ cur.length) (h1 : ∀ v ∈ cs, v.oneCell' = true)
    (h : ∀ w', Hid (w'.heap[g]? = some (.cells (splice cur off cs).toArray t (0, 0))) → w.grownBy w' (some g) → wpList P ops Q rest (a.put o.dst (goInt cs.length)) w') :
    wpList P ops Q (o :: rest) a w := by
  obtain ⟨w', hrun, h2, h3⟩ := run_copy_gr (P := P) w dT sT o.type elem hu hsz dp sp dLen dCap sLen sCap g off cur t hg cs hn hpos hfit h1
  refine wpList_plain hgd fun K hK => ?_
  unfold Oper.wp
  simp [execOp, ho, resolve, invoke, builtin, hd, hs, hrun, Result.andThen]
  exact hK _ _ (h w' h2 h3)

theorem step_copy_gr {P : Program} {ops : Array Oper} {o : Oper} {a : Act} {w : World} {K : Act → World → Prop} {Q : Exit → Act → World → Prop} {E : Prop} (hgd : o.guard = none) (d s : Operand) (dT sT : TypeId)
    (ho : o.op = .call { callee := .builtin .copy, args := #[d, s], argTypes := #[dT, sT] }) (elem : TypeId) (hu : P.underlying dT = some (.slice elem)) (hsz : (P.info? elem).map (·.size) = some 1)
    (dp sp : Option Addr) (dLen dCap sLen sCap : Nat) (hd : a.eval d = .slice dp dLen dCap) (hs : a.eval s = .slice sp sLen sCap)
    (g off : Nat) (cur : List Value) (t : TypeId) (hg : w.heap[g]? = some (.cells cur.toArray t (0, 0))) (cs : List Value) (hn : cs.length = Nat.min sLen dLen)
    (hpos : 0 < cs.length → dp = some ⟨g, off, none⟩ ∧ ∃ ad, sp = some ad ∧ ∀ j v, cs[j]? = some v → w.cell? (ad.add j) = some v) (hfit : off + cs.length ≤ cur.length) (h1 : ∀ v ∈ cs, v.oneCell' = true)
    (h : ∀ w', Hid (w'.heap[g]? = some (.cells (splice cur off cs).toArray t (0, 0))) → w.grownBy w' (some g) → K (a.put o.dst (goInt cs.length)) w') :
    if Region.wanted o (yielded ops a.tmps) = true then Oper.wp P o a w K Q else E := by
  have hw : Region.wanted o (yielded ops a.tmps) = true := by simp [Region.wanted, hgd]
  rw [if_pos hw]
  obtain ⟨w', hrun, h2, h3⟩ := run_copy_gr (P := P) w dT sT o.type elem hu hsz dp sp dLen dCap sLen sCap g off cur t hg cs hn hpos hfit h1
  unfold Oper.wp
  simp [execOp, ho, resolve, invoke, builtin, hd, hs, hrun, Result.andThen]
  exact h w' h2 h3

theorem map_set (L : List Int) (k : Nat) (x : Int) : ((L.map (Value.int .i64)).toArray.setIfInBounds k (.int .i64 x)) = ((L.set k x).map (Value.int .i64)).toArray := by
  apply Array.ext'
  rw [Array.toList_setIfInBounds]
  simp [List.map_set]


open Go.RowKit Go.Maps
set_option maxRecDepth 20000

/-- A literal's fixed length. -/
def fxl (s : Nat) : Int := if s < 144 then 8 else if s < 256 then 9 else if s < 280 then 7 else 8
def fxL (n : Nat) : List Int := (List.range n).map fxl

theorem fxL_len (n : Nat) : (fxL n).length = n := by simp [fxL]

theorem fxL_succ (n : Nat) : fxL (n + 1) = fxL n ++ [fxl n] := by simp [fxL, List.range_succ]

def fxc (n : Nat) : List Int := fxL n ++ List.replicate (288 - n) 0

theorem fxc_len {n : Nat} (h : n ≤ 288) : (fxc n).length = 288 := by unfold fxc; rw [List.length_append, fxL_len, List.length_replicate]; omega

theorem fxc_set {n : Nat} (h : n < 288) : (fxc n).set n (fxl n) = fxc (n + 1) := by
  unfold fxc
  rw [List.set_append_right _ _ (by rw [fxL_len]; omega), fxL_len, Nat.sub_self, fxL_succ]
  obtain ⟨m, hm⟩ : ∃ m, 288 - n = m + 1 := ⟨288 - n - 1, by omega⟩
  rw [hm, show 288 - (n + 1) = m by omega, List.replicate_succ]
  simp

def Fst (w : World) (n : Nat) (wr : World) : Prop := wr.heap[w.heap.size]? = some (.cells ((fxc n).map (Value.int .i64)).toArray 3 (0, 0)) ∧ Below w.heap.size w wr

theorem Fst.step {w wr : World} {n : Nat} (h : Fst w n wr) (hn : n < 288) (x : Int) (hx : x = fxl n) : Fst w (n + 1) (wr.setCell ⟨w.heap.size, n, none⟩ (.int .i64 x)) :=
  ⟨by rw [heap_setCell_same _ _ _ _ _ _ h.1, map_set, hx, fxc_set hn], h.2.setCell (by show _ ≤ w.heap.size; omega) _⟩

def Fresh (w : World) (l : List Int) (e : Ending) (w' : World) : Prop := ∃ a c, e = .returned (.slice a l.length c) ∧ OI w' w.heap.size (.slice a l.length c) l ∧ Below w.heap.size w w'

theorem fixedLit_any (w : World) : Calls Tryd.prog 21 #[] w fun e w' => Fresh w (fxL 288) e w' := by
  go_enter Tryd.func21, Tryd.ntmps21
  go_wp2_with (at_make; refine wpList_mkI rfl _ _ rfl _ _ _ _ 288 288 rfl rfl rfl rfl (Nat.le_refl _) (by omega) ?_)
  intro w2 hg hb1
  have HW : Hid (Fst w 0 w2) := ⟨by rw [hg]; unfold fxc fxL; simp, hb1⟩
  clear hg hb1
  go_wp2
  go_loopw [6] (fun i wr => ∃ n : Nat, n ≤ 288 ∧ i = .int .i64 n ∧ Hid (Fst w n wr)) (fun i _ => 288 - (intOf i).toNat)
  case atStart => exact ⟨0, Nat.zero_le _, rfl, HW⟩
  case round =>
    clear HW
    obtain ⟨n, hn, rfl, HT⟩ := hrel
    by_cases hlt : n < 288
    · have hlt' : (n : Int) < 288 := by omega
      obtain ⟨c0, hc0⟩ : ∃ c0, wr.cell? ⟨w.heap.size, n, none⟩ = some c0 := by
        rw [cell_of_row _ _ _ _ _ _ HT.out.1]
        have : n < (fxc n).length := by rw [fxc_len (by omega)]; exact hlt
        exact ⟨_, by simp [this]; rfl⟩
      have f0 : wr.frozen? ⟨w.heap.size, n, none⟩ = false := frozen_of_row _ _ _ _ _ HT.out.1
      by_cases h1 : n < 144
      · have h1' : (n : Int) < 144 := by omega
        have HX := hide (HT.out.step hlt 8 (by unfold fxl; rw [if_pos h1]))
        clear HT
        go_wp2
        go_roundw
        case rel => exact ⟨n + 1, by omega, by go_num, HX⟩
        case measure => simp [intOf]; omega
      · have h1' : ¬ (n : Int) < 144 := by omega
        by_cases h2 : n < 256
        · have h2' : (n : Int) < 256 := by omega
          have HX := hide (HT.out.step hlt 9 (by unfold fxl; rw [if_neg h1, if_pos h2]))
          clear HT
          go_wp2
          go_roundw
          case rel => exact ⟨n + 1, by omega, by go_num, HX⟩
          case measure => simp [intOf]; omega
        · have h2' : ¬ (n : Int) < 256 := by omega
          by_cases h3 : n < 280
          · have h3' : (n : Int) < 280 := by omega
            have HX := hide (HT.out.step hlt 7 (by unfold fxl; rw [if_neg h1, if_neg h2, if_pos h3]))
            clear HT
            go_wp2
            go_roundw
            case rel => exact ⟨n + 1, by omega, by go_num, HX⟩
            case measure => simp [intOf]; omega
          · have h3' : ¬ (n : Int) < 280 := by omega
            have HX := hide (HT.out.step hlt 8 (by unfold fxl; rw [if_neg h1, if_neg h2, if_neg h3]))
            clear HT
            go_wp2
            go_roundw
            case rel => exact ⟨n + 1, by omega, by go_num, HX⟩
            case measure => simp [intOf]; omega
    · obtain rfl : n = 288 := by omega
      have hlt' : ¬ ((288 : Nat) : Int) < 288 := by omega
      have HE : Hid (OI wr w.heap.size (.slice (some ⟨w.heap.size, 0, none⟩) (fxL 288).length 288) (fxL 288)) := by
        have e := HT.out.1
        rw [show fxc 288 = fxL 288 by unfold fxc; simp] at e
        have := OI.of_full (base := w.heap.size) e (by omega) (by rw [fxL_len]; unfold maxLen; omega)
        rw [fxL_len] at this ⊢
        exact this
      have HB := hide HT.out.2
      clear HT
      go_wp2
      go_ret
      refine ⟨_, _, ?_, HE.out, HB.out⟩
      rw [fxL_len]
      rfl

theorem rep_succ (n : Nat) : List.replicate (n + 1) (5 : Int) = List.replicate n 5 ++ [5] := by rw [List.replicate_succ']


open Go.RowKit Go.Maps
set_option maxRecDepth 20000

theorem mul64_one (w : World) : Calls Tryd.prog 51 #[.int .u64 1, .int .u64 32] w fun e w' => e = .returned (.tuple #[.int .u64 0, .int .u64 32]) ∧ w' = w := by
  go_enter Tryd.func51, Tryd.ntmps51
  go_wp2
  go_ret2
  exact ⟨rfl, rfl⟩

theorem mul_one (w : World) : Calls Tryd.prog 39 #[.int .u64 1, .int .u64 32] w fun e w' => e = .returned (.tuple #[.int .u64 0, .int .u64 32]) ∧ w' = w := by
  go_enter Tryd.func39, Tryd.ntmps39
  go_wp2_with fail
  refine (mul64_one _).mono ?_
  rintro e w1 ⟨rfl, rfl⟩
  go_wp2
  go_ret2
  exact ⟨rfl, rfl⟩

def rpc (n : Nat) : List Value := List.replicate n (Value.int .i64 5) ++ List.replicate (32 - n) (Value.int .i64 0)

theorem rpc_len {n : Nat} (h : n ≤ 32) : (rpc n).length = 32 := by unfold rpc; rw [List.length_append, List.length_replicate, List.length_replicate]; omega

theorem rpc_next {n m : Nat} (h : n + m ≤ 32) : splice (rpc n) n (List.replicate m (Value.int .i64 5)) = rpc (n + m) := by
  unfold rpc splice
  rw [List.take_left' (by simp), List.length_replicate, List.drop_append, List.length_replicate, List.drop_of_length_le (by simp), List.drop_replicate]
  simp only [List.nil_append]
  rw [← List.append_assoc, List.replicate_append_replicate]
  congr 2
  omega

def Rst5 (w : World) (g n : Nat) (wr : World) : Prop := wr.heap[g]? = some (.cells (rpc n).toArray 3 (0, 0)) ∧ Below w.heap.size w wr

set_option maxHeartbeats 4000000 in
theorem repeat_any (w : World) (g0 : Nat) (hg0 : w.heap[g0]? = some (.cells #[.int .i64 5] 3 (0, 0))) :
    Calls Tryd.prog 30 #[.slice (some ⟨g0, 0, none⟩) 1 1, .int .i64 32] w fun e w' => Fresh w (List.replicate 32 5) e w' := by
  have HC := hide hg0
  have hlt0 : g0 < w.heap.size := (Array.getElem?_eq_some_iff.1 hg0).1
  clear hg0
  go_enter Tryd.func30, Tryd.ntmps30
  go_wp2_with fail
  refine (mul_one _).mono ?_
  rintro e w1 ⟨rfl, rfl⟩
  go_wp2_with (at_make; refine wpList_mkI rfl _ _ rfl _ _ _ _ 32 32 rfl rfl rfl rfl (Nat.le_refl _) (by omega) ?_)
  intro w2 hg hb1
  have HG : Hid (w2.heap[w1.heap.size]? = some (.cells (rpc 0).toArray 3 (0, 0))) := by show _ = _; rw [hg]; simp [rpc]
  have HB1 := hide hb1
  have HS0 : Hid (∀ j v, ([Value.int .i64 5] : List Value)[j]? = some v → w2.cell? ((⟨g0, 0, none⟩ : Addr).add j) = some v) := fun j v hj => by
    have hh : w2.heap[g0]? = some (.cells #[.int .i64 5] 3 (0, 0)) := (HB1.out.block g0 hlt0).trans HC.out
    rw [Addr.add_lit, cell_of_row _ _ _ _ _ _ hh]
    simpa using hj
  clear hg hb1
  have C3 : Hid (0 + ([Value.int .i64 5] : List Value).length ≤ (rpc 0).length) := by show _ ≤ _; rw [rpc_len (by omega)]; decide
  have C4 : Hid (∀ v ∈ ([Value.int .i64 5] : List Value), v.oneCell' = true) := by intro u hu; simp at hu; subst hu; rfl
  go_wp2_with (refine wpList_copy_gr rfl _ _ 33 33 rfl 3 Tryd.underlying33 sizeInt _ _ _ _ _ _ rfl rfl w1.heap.size 0 (rpc 0) 3 HG.out [.int .i64 5] rfl (fun _ => ⟨rfl, _, rfl, HS0.out⟩) C3.out C4.out ?_)
  intro w3 h3 hgr
  have HT0 : Hid (Rst5 w1 w1.heap.size 1 w3) := by
    refine ⟨by rw [h3.out]; rw [show ([Value.int .i64 5] : List Value) = List.replicate 1 (Value.int .i64 5) from rfl, rpc_next (by omega)], ?_⟩
    exact HB1.out.grown hgr HB1.out.size (fun k hk => by simp at hk; omega)
  clear h3 hgr HG HS0
  go_wp2
  go_loopw [8] (fun i wr => ∃ n : Nat, 1 ≤ n ∧ n ≤ 32 ∧ i = .int .i64 n ∧ Hid (Rst5 w1 w1.heap.size n wr)) (fun i _ => 32 - (intOf i).toNat)
  case atStart => exact ⟨1, Nat.le_refl _, by omega, rfl, HT0⟩
  case round =>
    clear HT0
    obtain ⟨n, hn1, hn, rfl, HT⟩ := hrel
    by_cases hlt : n < 32
    · have hlt' : (n : Int) < 32 := by omega
      have hnn : ¬ (32 : Int) < n := by omega
      have hn0 : (0 : Int) ≤ n := by omega
      obtain ⟨m, hm⟩ : ∃ m, m = Nat.min n (32 - n) := ⟨_, rfl⟩
      have hm1 : 1 ≤ m ∧ n + m ≤ 32 := by
        rw [hm]
        show 1 ≤ min n (32 - n) ∧ n + min n (32 - n) ≤ 32
        omega
      have HM := hide hm
      have HSRC : Hid (∀ j v, (List.replicate m (Value.int .i64 5))[j]? = some v → wr.cell? ((⟨w1.heap.size, 0, none⟩ : Addr).add j) = some v) := fun j v hj => by
        rw [Addr.add_lit, cell_of_row _ _ _ _ _ _ HT.out.1]
        have hjm : j < m := by
          have := (List.getElem?_eq_some_iff.1 hj).1
          simpa using this
        have hjn : j < n := by have : m ≤ n := by rw [HM.out]; exact Nat.min_le_left _ _
                               omega
        simp [hjm] at hj
        subst hj
        unfold rpc
        rw [Nat.zero_add, List.getElem?_toArray, List.getElem?_append_left (by simpa using hjn)]
        simp [hjn]
      have HNX : Hid (∀ w', Hid (w'.heap[w1.heap.size]? = some (.cells (splice (rpc n) n (List.replicate m (Value.int .i64 5))).toArray 3 (0, 0))) → wr.drew.grownBy w' (some w1.heap.size) → Rst5 w1 w1.heap.size (n + m) w') := fun w' h1 h2 => by
        refine ⟨by rw [h1.out, rpc_next hm1.2], ?_⟩
        have hb : Below w1.heap.size w1 wr.drew := below_drewN HT.out.2 1
        exact hb.grown h2 hb.size (fun k hk => by simp at hk; omega)
      clear hm
      have C1 : Hid ((List.replicate m (Value.int .i64 5)).length = Nat.min n (32 - n)) := by show _ = _; rw [List.length_replicate, HM.out]
      have C5 : Hid (n + (List.replicate m (Value.int .i64 5)).length ≤ (rpc n).length) := by show _ ≤ _; rw [rpc_len hn, List.length_replicate]; exact hm1.2
      have C6 : Hid (∀ v ∈ List.replicate m (Value.int .i64 5), v.oneCell' = true) := by intro u hu; obtain ⟨_, rfl⟩ := List.mem_replicate.1 hu; rfl
      have hne : ¬ (32 : Nat) = n := by omega
      have hw : IntKind.i64.wrap ((n : Int) + (m : Int)) = (n : Int) + m := by rw [IntKind.wrap_i64]; omega
      go_wp2_with fail
      go_region_law (refine step_copy_gr (by rfl) (.tmp 41) (.tmp 44) 33 33 (by rfl) 3 Tryd.underlying33 sizeInt (some ⟨w1.heap.size, n, none⟩) (some ⟨w1.heap.size, 0, none⟩) (32 - n) (32 - n) n 32 (by simp [Act.eval, Act.put]) (by simp [Act.eval, Act.put]) w1.heap.size n (rpc n) 3 HT.out.1 (List.replicate m (Value.int .i64 5)) C1.out (fun _ => ⟨rfl, _, rfl, HSRC.out⟩) C5.out C6.out ?_; intro w4 h4 hgr4; have HX := hide (HNX.out w4 h4 hgr4); clear h4 hgr4)
      clear HT HSRC HNX C1 C5 C6
      go_simp
      go_wp2
      go_roundw
      case rel => exact ⟨n + m, by omega, hm1.2, by go_num, HX⟩
      case measure => simp [intOf]; omega
    · obtain rfl : n = 32 := by omega
      have hlt' : ¬ ((32 : Nat) : Int) < 32 := by omega
      have HE : Hid (OI wr w1.heap.size (.slice (some ⟨w1.heap.size, 0, none⟩) (List.replicate 32 (5 : Int)).length 32) (List.replicate 32 5)) := by
        have e := HT.out.1
        rw [show rpc 32 = (List.replicate 32 (5 : Int)).map (Value.int .i64) by unfold rpc; simp] at e
        have := OI.of_full (base := w1.heap.size) e (by omega) (by rw [List.length_replicate]; unfold maxLen; omega)
        rw [List.length_replicate] at this ⊢
        exact this
      have HB := hide HT.out.2
      clear HT
      go_wp2
      go_ret
      refine ⟨_, _, ?_, HE.out, HB.out⟩
      first | rfl | (rw [List.length_replicate]; rfl)

theorem fixedDist_any (w : World) : Calls Tryd.prog 22 #[] w fun e w' => Fresh w (List.replicate 32 5) e w' := by
  have HG : Hid ((w.alloc (.cells #[.int .i64 5] 3)).heap[w.heap.size]? = some (.cells #[.int .i64 5] 3 (0, 0))) := heap_alloc_new w _
  have HB : Hid (Below w.heap.size w (w.alloc (.cells #[.int .i64 5] 3))) := (Below.refl _ _).alloc (Nat.le_refl _) _
  go_enter Tryd.func22, Tryd.ntmps22
  go_wp2_with fail
  refine (repeat_any _ _ HG.out).mono ?_
  rintro e w1 ⟨a, c, rfl, ho, hb⟩
  have HO := hide (ho.base HB.out.size)
  have HB1 := hide (HB.out.trans (hb.mono HB.out.size))
  clear ho hb
  go_wp2
  go_ret
  exact ⟨_, _, rfl, HO.out, HB1.out⟩
end Go.Proofs.YthngagciiidppaaDoor

namespace Go.Proofs.YthngagciiidppaaDoor
open Go.RowKit Go.Maps
set_option maxRecDepth 20000
set_option linter.unusedVariables false

def Spare (w : World) (v : Value) (n : Nat) : Prop := ∃ g, v = .slice (some ⟨g, 0, none⟩) n (n + 9) ∧ ∀ j, j < 9 → w.cell? ⟨g, n + j, none⟩ = some (.int .i64 165)

theorem cell_at {w : World} {g : Nat} {L : List Value} {t : TypeId} {fr : Nat × Nat} (h : w.heap[g]? = some (.cells L.toArray t fr)) (i : Nat) : w.cell? ⟨g, i, none⟩ = L[i]? := by
  simp [World.cell?, h]

theorem room_at (A : List Value) (k n : Nat) (x z : Value) (h : k < n) : (A ++ List.replicate k x ++ List.replicate (n - k) z)[A.length + k]? = some z := by
  rw [List.getElem?_append_right (by simp), List.getElem?_replicate, if_pos (by simp; omega)]

theorem room_set (A : List Value) (k n : Nat) (x z : Value) (h : k < n) : (A ++ List.replicate k x ++ List.replicate (n - k) z).set (A.length + k) x = A ++ List.replicate (k + 1) x ++ List.replicate (n - (k + 1)) z := by
  obtain ⟨r, hr⟩ : ∃ r, n - k = r + 1 := ⟨n - k - 1, by omega⟩
  have e : A.length + k - (A ++ List.replicate k x).length = 0 := by simp
  rw [List.set_append_right _ _ (by simp), hr, show n - (k + 1) = r by omega, List.replicate_succ' (n := k), e, List.replicate_succ (n := r), List.set_cons_zero, ← List.append_assoc, List.append_assoc (A ++ List.replicate k x)]
  rfl

theorem room_end (A : List Value) (n j : Nat) (x z : Value) (h : j < n) : (A ++ List.replicate n x ++ List.replicate (n - n) z)[A.length + j]? = some x := by
  rw [List.append_assoc, List.getElem?_append_right (by omega), List.getElem?_append_left (by simp; omega), List.getElem?_replicate, if_pos (by omega)]

end Go.Proofs.YthngagciiidppaaDoor

namespace Go.Proofs.YthngagciiidppaaDoor
set_option linter.unusedVariables false

/-- A run: its Sym and its Count. -/
abbrev Rn := Int × Int

/-- How many of the first lengths are v. -/
def eqn (v : Int) : List Int → Nat
  | [] => 0
  | x :: r => if x = v then eqn v r + 1 else 0

theorem eqn_le (v : Int) (l : List Int) : eqn v l ≤ l.length := by
  induction l with
  | nil => exact Nat.le_refl _
  | cons x r ih => simp only [eqn, List.length_cons]; split <;> omega

theorem eqn_take {v : Int} {l : List Int} {c : Nat} (h : c ≤ eqn v l) : l.take c = List.replicate c v := by
  induction l generalizing c with
  | nil => simp only [eqn] at h; have : c = 0 := by omega
           subst this; rfl
  | cons x r ih =>
    cases c with
    | zero => rfl
    | succ c =>
      simp only [eqn] at h
      by_cases e : x = v
      · rw [if_pos e] at h
        rw [List.take_succ_cons, ih (by omega), List.replicate_succ, e]
      · rw [if_neg e] at h; omega

theorem eqn_min (v : Int) (l : List Int) (m : Nat) : eqn v (l.take m) = min (eqn v l) m := by
  induction l generalizing m with
  | nil => simp [eqn]
  | cons x r ih =>
    cases m with
    | zero => simp [eqn]
    | succ m =>
      rw [List.take_succ_cons]
      simp only [eqn]
      by_cases e : x = v
      · rw [if_pos e, if_pos e, ih]; omega
      · rw [if_neg e, if_neg e]; omega

theorem eqn_go {v : Int} {l : List Int} {k : Nat} (h : k ≤ eqn v l) (hk : k < l.length) : (l.getD k 0 = v → k + 1 ≤ eqn v l) ∧ (l.getD k 0 ≠ v → eqn v l = k) := by
  induction l generalizing k with
  | nil => simp at hk
  | cons x r ih =>
    simp only [eqn] at h ⊢
    cases k with
    | zero =>
      refine ⟨fun e => ?_, fun e => ?_⟩
      · have e' : x = v := e
        rw [if_pos e']; omega
      · have e' : ¬ x = v := e
        rw [if_neg e']
    | succ k =>
      by_cases e : x = v
      · rw [if_pos e] at h ⊢
        obtain ⟨i1, i2⟩ := ih (k := k) (by omega) (by simpa using hk)
        refine ⟨fun q => ?_, fun q => ?_⟩
        · have := i1 (by simpa using q); omega
        · have := i2 (by simpa using q); omega
      · rw [if_neg e] at h; omega

theorem eqn_end {v : Int} {l : List Int} (h : l.length ≤ eqn v l) : eqn v l = l.length := Nat.le_antisymm (eqn_le v l) h

theorem eqn_pos {v : Int} {l : List Int} {k : Nat} (hk : k < l.length) (h : 1 ≤ eqn v (l.drop k)) : l.getD k 0 = v := by
  have e : l.drop k = l[k] :: l.drop (k + 1) := List.drop_eq_getElem_cons hk
  rw [e] at h
  simp only [eqn] at h
  rw [show l.getD k 0 = l[k] by simp [hk]]
  by_cases q : l[k] = v
  · exact q
  · rw [if_neg q] at h; omega

theorem eqn_self {l : List Int} {k : Nat} (hk : k < l.length) : 1 ≤ eqn (l.getD k 0) (l.drop k) := by
  have e : l.drop k = l[k] :: l.drop (k + 1) := List.drop_eq_getElem_cons hk
  rw [e, show l.getD k 0 = l[k] by simp [hk]]
  simp only [eqn]
  rw [if_pos trivial]; omega

/-- The run that begins at a place. -/
def run1 (l : List Int) (k : Nat) : Rn :=
  if l.getD k 0 = 0 ∧ 11 ≤ eqn 0 (l.drop k) then (18, (min (eqn 0 (l.drop k)) 138 : Nat))
  else if l.getD k 0 = 0 ∧ 3 ≤ eqn 0 (l.drop k) then (17, (eqn 0 (l.drop k) : Nat))
  else if l.getD k 0 ≠ 0 ∧ 0 < k ∧ l.getD (k - 1) 0 = l.getD k 0 ∧ 3 ≤ eqn (l.getD k 0) (l.drop k) then (16, (min (eqn (l.getD k 0) (l.drop k)) 6 : Nat))
  else (l.getD k 0, 1)

/-- The same, as the program finds it. -/
def n18 (l : List Int) (k : Nat) : Nat := min (eqn 0 (l.drop k)) 138
def n17 (l : List Int) (k : Nat) : Nat := min (eqn 0 (l.drop k)) 10
def n16 (l : List Int) (k : Nat) : Nat := if k = 0 then 0 else min (eqn (l.getD (k - 1) 0) (l.drop k)) 6

theorem run_pick {l : List Int} {k : Nat} (hk : k < l.length) :
    (11 ≤ n18 l k → run1 l k = (18, (n18 l k : Int))) ∧ (n18 l k < 11 → 3 ≤ n17 l k → run1 l k = (17, (n17 l k : Int))) ∧
    (n18 l k < 11 → n17 l k < 3 → 3 ≤ n16 l k → run1 l k = (16, (n16 l k : Int))) ∧ (n18 l k < 11 → n17 l k < 3 → n16 l k < 3 → run1 l k = (l.getD k 0, 1)) := by
  have z : 1 ≤ eqn 0 (l.drop k) → l.getD k 0 = 0 := eqn_pos hk
  have hs := eqn_self hk
  unfold n18 n17
  refine ⟨fun h => ?_, fun h1 h2 => ?_, fun h1 h2 h3 => ?_, fun h1 h2 h3 => ?_⟩
  · have := z (by omega)
    unfold run1
    rw [if_pos ⟨this, by omega⟩]
  · have := z (by omega)
    unfold run1
    rw [if_neg (by omega), if_pos ⟨this, by omega⟩, show min (eqn 0 (l.drop k)) 10 = eqn 0 (l.drop k) by omega]
  · unfold n16 at h3 ⊢
    by_cases hz : k = 0
    · rw [if_pos hz] at h3; omega
    · rw [if_neg hz] at h3 ⊢
      have e : l.getD k 0 = l.getD (k - 1) 0 := eqn_pos hk (by omega)
      have nz : l.getD k 0 ≠ 0 := by
        intro q
        rw [← e, q] at h3
        omega
      unfold run1
      rw [if_neg (by omega), if_neg (by omega), if_pos ⟨nz, by omega, e.symm, by rw [e]; omega⟩, e]
  · unfold run1
    rw [if_neg (by omega), if_neg (by omega), if_neg]
    rintro ⟨_, g1, g2, g3⟩
    unfold n16 at h3
    rw [if_neg (by omega), g2] at h3
    omega

theorem run1_cnt {l : List Int} {k : Nat} (hk : k < l.length) : ∃ c : Nat, (run1 l k).2 = c ∧ 1 ≤ c ∧ k + c ≤ l.length ∧ c ≤ 138 := by
  have h1 := eqn_le 0 (l.drop k)
  have h2 := eqn_le (l.getD k 0) (l.drop k)
  rw [List.length_drop] at h1 h2
  unfold run1
  split
  · exact ⟨_, rfl, by omega, by omega, by omega⟩
  · split
    · exact ⟨_, rfl, by omega, by omega, by omega⟩
    · split
      · exact ⟨_, rfl, by omega, by omega, by omega⟩
      · exact ⟨1, rfl, by omega, by omega, by omega⟩

def rnN (l : List Int) : Nat → Nat → List Rn
  | 0, _ => []
  | f + 1, k => if k < l.length then run1 l k :: rnN l f (k + (run1 l k).2.toNat) else []

def rns (l : List Int) : List Rn := rnN l l.length 0

theorem rnN_more (l : List Int) : ∀ f g k, l.length - k ≤ f → l.length - k ≤ g → rnN l f k = rnN l g k
  | 0, 0, _, _, _ => rfl
  | 0, g + 1, k, h, _ => by simp only [rnN]; rw [if_neg (by omega)]
  | f + 1, 0, k, _, h => by simp only [rnN]; rw [if_neg (by omega)]
  | f + 1, g + 1, k, h1, h2 => by
    simp only [rnN]
    by_cases hk : k < l.length
    · rw [if_pos hk, if_pos hk]
      obtain ⟨c, e, c1, c2, _⟩ := run1_cnt hk
      rw [e]
      simp only [Int.toNat_natCast]
      rw [rnN_more l f g (k + c) (by omega) (by omega)]
    · rw [if_neg hk, if_neg hk]

/-- What is left of the runs at a place. -/
def rnK (l : List Int) (k : Nat) : List Rn := rnN l (l.length - k) k

theorem rnK_zero (l : List Int) : rnK l 0 = rns l := rfl
theorem rnK_step {l : List Int} {k c : Nat} (hk : k < l.length) (hc : (run1 l k).2 = (c : Int)) : rnK l k = run1 l k :: rnK l (k + c) := by
  obtain ⟨c', e, c1, c2, _⟩ := run1_cnt hk
  have : c = c' := by rw [hc] at e; exact_mod_cast e
  subst this
  unfold rnK
  rw [show l.length - k = (l.length - k - 1) + 1 by omega]
  simp only [rnN]
  rw [if_pos hk, hc]
  simp only [Int.toNat_natCast]
  rw [rnN_more l (l.length - k - 1) (l.length - (k + c)) (k + c) (by omega) (Nat.le_refl _)]
theorem rnK_end {l : List Int} {k : Nat} (hk : l.length ≤ k) : rnK l k = [] := by
  unfold rnK
  rw [show l.length - k = 0 by omega]
  rfl

theorem rnN_len (l : List Int) : ∀ f k, (rnN l f k).length ≤ f
  | 0, _ => Nat.le_refl _
  | f + 1, k => by
    simp only [rnN]
    split
    · rw [List.length_cons]; have := rnN_len l f (k + (run1 l k).2.toNat); omega
    · simp

theorem rns_len (l : List Int) : (rns l).length ≤ l.length := rnN_len l l.length 0

/-- The least and the greatest Count of a Sym, and how many bits stand behind its word. -/
def lst (s : Int) : Int := if s < 16 then 1 else if s < 18 then 3 else 11
def frt (s : Int) : Nat := if s < 16 then 0 else if s = 16 then 2 else if s = 17 then 3 else 7
def mst (s : Int) : Int := if s < 16 then 1 else if s = 16 then 6 else if s = 17 then 10 else 138
def Okr (r : Rn) : Prop := 0 ≤ r.1 ∧ r.1 ≤ 18 ∧ lst r.1 ≤ r.2 ∧ r.2 ≤ mst r.1
instance (r : Rn) : Decidable (Okr r) := by unfold Okr; infer_instance

/-- Which length a run of the Sym stands for. -/
def mnt (s : Int) (a : List Int) : Int := if s < 16 then s else if s = 16 then a.getD (a.length - 1) 0 else 0
def lay (a : List Int) (r : Rn) : List Int := a ++ List.replicate r.2.toNat (mnt r.1 a)
def lays (a : List Int) (rs : List Rn) : List Int := rs.foldl lay a

def xpE (a : List Int) : List Rn → Int
  | [] => 0
  | r :: rs => if Okr r then if r.1 = 16 ∧ a = [] then 73 else xpE (lay a r) rs else 77

/-- What Expand answers. -/
def xpL (rs : List Rn) : List Int := if xpE [] rs = 0 then lays [] rs else []

theorem lay_len (a : List Int) (r : Rn) : (lay a r).length = a.length + r.2.toNat := by simp [lay]
theorem lays_snoc (a : List Int) (rs : List Rn) (r : Rn) : lays a (rs ++ [r]) = lay (lays a rs) r := by simp [lays]

theorem run1_ok {l : List Int} {k : Nat} (hk : k < l.length) (hl : ∀ x ∈ l, 0 ≤ x ∧ x ≤ 15) : Okr (run1 l k) ∧ ((run1 l k).1 = 16 → 0 < k) := by
  have hm := hl (l.getD k 0) (by rw [show l.getD k 0 = l[k] by simp [hk]]; exact List.getElem_mem hk)
  unfold run1
  split
  · refine ⟨⟨by show (0 : Int) ≤ _; simp only; omega, by simp only; omega, ?_, ?_⟩, fun h => by simp at h⟩
    · show lst 18 ≤ _
      unfold lst; simp; omega
    · show _ ≤ mst 18
      unfold mst; simp; omega
  · split
    · refine ⟨⟨by show (0 : Int) ≤ _; simp only; omega, by simp only; omega, ?_, ?_⟩, fun h => by simp at h⟩
      · show lst 17 ≤ _
        unfold lst; simp; omega
      · show _ ≤ mst 17
        unfold mst; simp; omega
    · split
      · rename_i h
        refine ⟨⟨by show (0 : Int) ≤ _; simp only; omega, by simp only; omega, ?_, ?_⟩, fun _ => h.2.1⟩
        · show lst 16 ≤ _
          rw [show lst 16 = 3 from rfl]; simp only; omega
        · show _ ≤ mst 16
          rw [show mst 16 = 6 from rfl]; simp only; omega
      · refine ⟨⟨hm.1, by simp only; omega, ?_, ?_⟩, fun h => by simp only at h; omega⟩
        · simp only [lst]; rw [if_pos (by omega)]; omega
        · simp only [mst]; rw [if_pos (by omega)]; omega

theorem run1_lay {l : List Int} {k c : Nat} (hk : k < l.length) (hc : (run1 l k).2 = (c : Int)) (hl : ∀ x ∈ l, 0 ≤ x ∧ x ≤ 15) : lay (l.take k) (run1 l k) = l.take (k + c) := by
  have hm := hl (l.getD k 0) (by rw [show l.getD k 0 = l[k] by simp [hk]]; exact List.getElem_mem hk)
  have key : ∀ v, c ≤ eqn v (l.drop k) → l.take k ++ List.replicate c v = l.take (k + c) := fun v h => by
    rw [← eqn_take h, List.take_add]
  have hs := eqn_self hk
  unfold lay
  rw [hc]
  simp only [Int.toNat_natCast]
  unfold run1 at hc ⊢
  split at hc
  · rename_i h
    rw [if_pos h]
    have hc' : min (eqn 0 (l.drop k)) 138 = c := by simp only at hc; omega
    exact key _ (by show c ≤ eqn (mnt 18 _) _; rw [show mnt 18 (l.take k) = 0 from rfl]; omega)
  · rename_i h
    rw [if_neg h]
    split at hc
    · rename_i h2
      rw [if_pos h2]
      have hc' : eqn 0 (l.drop k) = c := by simp only at hc; omega
      exact key _ (by show c ≤ eqn (mnt 17 _) _; rw [show mnt 17 (l.take k) = 0 from rfl]; omega)
    · rename_i h2
      rw [if_neg h2]
      split at hc
      · rename_i h3
        rw [if_pos h3]
        have hc' : min (eqn (l.getD k 0) (l.drop k)) 6 = c := by simp only at hc; omega
        refine key _ ?_
        have e : mnt 16 (l.take k) = l.getD k 0 := by
          unfold mnt
          rw [if_neg (by decide), if_pos rfl, ← h3.2.2.1, List.length_take, show min k l.length - 1 = k - 1 by omega]
          simp only [List.getD_eq_getElem?_getD, List.getElem?_take]
          rw [if_pos (by omega)]
        show c ≤ eqn (mnt 16 _) _
        rw [e]; omega
      · rename_i h3
        rw [if_neg h3]
        have hc' : c = 1 := by have : (c : Int) = 1 := hc.symm; omega
        refine key _ ?_
        have e : mnt (l.getD k 0) (l.take k) = l.getD k 0 := by unfold mnt; rw [if_pos (by omega)]
        show c ≤ eqn (mnt (l.getD k 0) _) _
        rw [e]; omega

theorem xp_from {l : List Int} (hl : ∀ x ∈ l, 0 ≤ x ∧ x ≤ 15) : ∀ n k, n = l.length - k → k ≤ l.length → xpE (l.take k) (rnK l k) = 0 ∧ lays (l.take k) (rnK l k) = l := by
  intro n
  induction n using Nat.strongRecOn with
  | ind n ih =>
    intro k hn hk
    by_cases h : k < l.length
    · obtain ⟨c, e, c1, c2, _⟩ := run1_cnt h
      obtain ⟨ok, o16⟩ := run1_ok h hl
      rw [rnK_step h e]
      have hne : ¬ ((run1 l k).1 = 16 ∧ l.take k = []) := by
        rintro ⟨q, z⟩
        have := o16 q
        have z' := congrArg List.length z
        rw [List.length_take, List.length_nil] at z'
        omega
      obtain ⟨i1, i2⟩ := ih (l.length - (k + c)) (by omega) (k + c) rfl c2
      refine ⟨?_, ?_⟩
      · simp only [xpE]
        rw [if_pos ok, if_neg hne, run1_lay h e hl]
        exact i1
      · show lays (lay (l.take k) (run1 l k)) (rnK l (k + c)) = l
        rw [run1_lay h e hl]
        exact i2
    · rw [rnK_end (by omega), List.take_of_length_le (by omega)]
      exact ⟨rfl, rfl⟩

/-- Expand of Runs is the list. -/
theorem xp_rns {l : List Int} (hl : ∀ x ∈ l, 0 ≤ x ∧ x ≤ 15) : xpE [] (rns l) = 0 ∧ lays [] (rns l) = l := by
  have := xp_from hl _ 0 rfl (Nat.zero_le _)
  rw [rnK_zero, List.take_zero] at this
  exact this

theorem rns_ok {l : List Int} (hl : ∀ x ∈ l, 0 ≤ x ∧ x ≤ 15) : ∀ r ∈ rns l, Okr r := by
  have : ∀ f k, ∀ r ∈ rnN l f k, Okr r := by
    intro f
    induction f with
    | zero => intro k r hr; simp [rnN] at hr
    | succ f ih =>
      intro k r hr
      simp only [rnN] at hr
      split at hr
      · rename_i h
        rcases List.mem_cons.1 hr with e | e
        · rw [e]; exact (run1_ok h hl).1
        · exact ih _ r e
      · simp at hr
  exact this _ _

/-- Are all of them code lengths? -/
def wthb (l : List Int) : Bool := l.all fun x => decide (0 ≤ x ∧ x ≤ 15)
theorem wth_iff {l : List Int} : wthb l = true ↔ ∀ x ∈ l, 0 ≤ x ∧ x ≤ 15 := by simp [wthb]

/-- What Runs answers. -/
def rnE (l : List Int) : Int := if wthb l then 0 else 1
def rnL (l : List Int) : List Rn := if wthb l then rns l else []
end Go.Proofs.YthngagciiidppaaDoor

