import Derived.Test.YtjdgeonlbjokaaaGTbs
namespace Go.Proofs.Ytjdgeonlbjokaaa
open Go.RowKit Go.Maps Go.Shelf
set_option maxRecDepth 20000
set_option linter.unusedVariables false

/-- What putOff tells. -/
def pof (D : List Int) (W C : Nat) (z : Bool) (i l : Nat) : Nat × Nat := if z = true ∧ l ≠ 0 then bb D W C (i + 1) l else (0, 0)

theorem pof_ofb (D : List Int) (W C : Nat) (z : Bool) (i : Nat) : pof D W C z i (bst D i W C).1 = ofb D W C z i := rfl

set_option maxHeartbeats 4000000 in
theorem putoff_any (w : World) (base g m W C nx i l d : Nat) (c : Int) (v : Value) (D : List Int) (z : Bool) (f : Int × Int × Int → Value) (h : Tlx w base g m v D W C z f nx) (hB : Byt D) (hn : D.length ≤ 16777216) (hnx : nx ≤ i) (hi : i ≤ 16777216) (hW : 1 ≤ W) (hW2 : W ≤ 32768) (hC : C ≤ 1000000000) (hl : l ≤ 1000) (hbw : base ≤ w.heap.size) :
    Calls Try.prog 33 #[.pointer (some ⟨g, 0, none⟩), .int .i64 (i : Int), .agg #[.int .i64 (l : Int), .int .i64 (d : Int), .int .u8 c]] w fun e w' => e = .returned (.agg #[.int .i64 ((pof D W C z i l).1 : Nat), .int .i64 ((pof D W C z i l).2 : Nat), .int .u8 0]) ∧ ∃ f' nx', Tlx w' base g m v D W C z f' nx' ∧ nx' ≤ i + 1 ∧ Below base w w' ∧ FT g m f f' w w' := by
  have HT := hide h
  have HBY := hide hB
  obtain ⟨hgl, hml⟩ := h.lt
  obtain ⟨li, HLI⟩ : ∃ li : Int, Hid (li = (l : Int)) := ⟨_, hide rfl⟩
  rw [← HLI.out]
  have hgm := h.gm
  have HR0 : Hid (Below w.heap.size w (w.alloc (.cells #[.int .i64 li, .int .i64 (d : Int), .int .u8 c] 38))) := (Below.refl _ _).alloc (Nat.le_refl _) _
  obtain ⟨w0, hw0⟩ : ∃ w0, w.alloc (.cells #[.int .i64 li, .int .i64 (d : Int), .int .u8 c] 38) = w0 := ⟨_, rfl⟩
  have hs0 : w0.heap.size = w.heap.size + 1 := by rw [← hw0]; simp
  have hb0 : w0.heap[w.heap.size]? = some (.cells #[.int .i64 li, .int .i64 (d : Int), .int .u8 c] 38 (0, 0)) := by rw [← hw0]; exact heap_alloc_new w _
  rw [hw0] at HR0
  have HT0 := hide (Tlr.far HT.out HR0.out)
  have HR : Hid (Below w0.heap.size w0 (w0.alloc (.cells #[.int .i64 0, .int .i64 0, .int .u8 0] 38))) := (Below.refl _ _).alloc (Nat.le_refl _) _
  obtain ⟨w1, hw1⟩ : ∃ w1, w0.alloc (.cells #[.int .i64 0, .int .i64 0, .int .u8 0] 38) = w1 := ⟨_, rfl⟩
  have HBX : Hid (w1.heap[w0.heap.size]? = some (.cells #[.int .i64 0, .int .i64 0, .int .u8 0] 38 (0, 0))) := by show _ = _; rw [← hw1]; exact heap_alloc_new w0 _
  have hs1 : w0.heap.size < w1.heap.size := by rw [← hw1]; simp
  rw [hw1] at HR
  have HT1 := hide (Tlr.far HT0.out HR.out)
  have HFR1 : Hid (∀ k, Key3 k → (f k).ownBlock ≠ some w0.heap.size) := fun k hk e => by have := ((HT0.out.rows k hk).lt _ e).2; omega
  have hbw0 : base ≤ w0.heap.size := by omega
  have HRN : Hid (Rnd w0 w1 base g m v D W C z f f nx) := ⟨HT1.out, HR.out.mono hbw0, FT.of_below HR.out, HBX.out, HFR1.out, hs1⟩
  have HW0 : Hid (Below base w w0 ∧ FT g m f f w w0) := ⟨HR0.out.mono hbw, FT.of_below HR0.out⟩
  have z3 : w1.cell? ⟨g, 3, none⟩ = some (.bool z) := HT1.out.box.cells.2.2.2.1
  have b1 : w1.heap[w.heap.size]? = some (.cells #[.int .i64 li, .int .i64 (d : Int), .int .u8 c] 38 (0, 0)) := (HR.out.block _ (by omega)).trans hb0
  have b1c : w1.cell? ⟨w.heap.size, 0, none⟩ = some (.int .i64 li) := cellIn b1 rfl
  obtain ⟨x1, x2, x3, x4, x5, x6⟩ := (show Box3 w1 w0.heap.size from HBX.out).cells
  clear h hB b1 hb0
  by_cases hz : z = true ∧ l ≠ 0
  · obtain ⟨hz1, hl0⟩ := hz
    have HP : Hid (pof D W C z i l = bb D W C (i + 1) l) := by show _ = _; unfold pof; rw [if_pos ⟨hz1, hl0⟩]
    have hli : ¬ li = 0 := by have := HLI.out; omega
    have HBE : Hid (Calls Try.prog 32 #[.pointer (some ⟨g, 0, none⟩), .int .i64 ((i : Int) + 1), .int .i64 li] w1 fun e w' => e = .returned (.agg #[.int .i64 ((bb D W C (i + 1) l).1 : Nat), .int .i64 ((bb D W C (i + 1) l).2 : Nat), .int .u8 0]) ∧ ∃ f' nx', Tlx w' base g m v D W C z f' nx' ∧ nx' ≤ i + 1 ∧ Below base w1 w' ∧ FT g m f f' w1 w') := by
      have := tbest_any w1 base g m W C nx (i + 1) l v D z f HT1.out HBY.out hn (by omega) (by omega) hW hW2 hC hl (by omega)
      rw [← HLI.out] at this
      push_cast at this
      exact this
    rw [HP.out]
    obtain ⟨X, HX⟩ : ∃ X, Hid (X = (bb D W C (i + 1) l).1) := ⟨_, hide rfl⟩
    obtain ⟨Y, HY⟩ : ∃ Y, Hid (Y = (bb D W C (i + 1) l).2) := ⟨_, hide rfl⟩
    rw [← HX.out, ← HY.out] at HBE ⊢
    rw [hz1] at z3
    clear hl0
    go_enter Try.func33, Try.ntmps33
    go_wp2_with fail
    refine HBE.out.mono ?_
    rintro e w2 ⟨rfl, f', nx', t2, hx2, b2, r2⟩
    have hs2 := b2.size
    obtain ⟨e1, e2⟩ := r2.2 w0.heap.size hs1 (by omega) (by omega) HFR1.out
    have HR2 : Hid (Rnd w0 w2 base g m v D W C z f f' nx') := ⟨t2, HRN.out.bel.trans b2, HRN.out.ft.trans r2, e1.trans HBX.out, e2, by omega⟩
    obtain ⟨q1, q2, q3, q4, q5, q6⟩ := (show Box3 w2 w0.heap.size from HR2.out.bx).cells
    obtain ⟨⟨y0, y1, y2⟩, hFN⟩ := HR2.out.fin hbw0 (by omega) (by omega) (Below.refl _ _) (X : Int) (Y : Int)
    have HFN := hide hFN
    clear hFN t2 b2 r2 e1 e2 x1 x2 x3 x4 x5 x6
    rw [hs0] at q1 q2 q3 q4 q5 q6 y0 y1 y2 HFN
    go_wp2
    refine bodyPost_ret (v := .agg #[.int .i64 (X : Int), .int .i64 (Y : Int), .int .u8 0]) ?_ rfl ⟨rfl, f', nx', HFN.out.1, hx2, HW0.out.1.trans HFN.out.2.1, HW0.out.2.trans HFN.out.2.2⟩
    have hres : Try.f33.results = #[.cell 6 38] := by kernel_rfl
    simp only [results, hres]
    go_simp
  · have HP : Hid (pof D W C z i l = (0, 0)) := by show _ = _; unfold pof; rw [if_neg hz]
    obtain ⟨⟨y0, y1, y2⟩, hFN⟩ := HRN.out.fin hbw0 (by omega) (by omega) (Below.refl _ _) (0 : Int) (0 : Int)
    have HFN := hide hFN
    clear hFN
    rw [HP.out]
    rw [hs0] at x1 x2 x3 x4 x5 x6 y0 y1 y2 HFN
    by_cases hz1 : z = true
    · have hl0 : li = 0 := by
        by_cases e : l = 0
        · rw [HLI.out, e]; rfl
        · exact absurd ⟨hz1, e⟩ hz
      rw [hz1] at z3
      rw [hl0] at b1c hw0 ⊢
      clear hz hl0
      go_enter Try.func33, Try.ntmps33
      go_wp2
      refine bodyPost_ret (v := .agg #[.int .i64 0, .int .i64 0, .int .u8 0]) ?_ rfl ⟨rfl, f, nx, HFN.out.1, by omega, HW0.out.1.trans HFN.out.2.1, HW0.out.2.trans HFN.out.2.2⟩
      have hres : Try.f33.results = #[.cell 6 38] := by kernel_rfl
      simp only [results, hres]
      go_simp
    · have hz2 : z = false := by cases z with | false => rfl | true => exact absurd rfl hz1
      rw [hz2] at z3
      clear hz hz1
      go_enter Try.func33, Try.ntmps33
      go_wp2
      refine bodyPost_ret (v := .agg #[.int .i64 0, .int .i64 0, .int .u8 0]) ?_ rfl ⟨rfl, f, nx, HFN.out.1, by omega, HW0.out.1.trans HFN.out.2.1, HW0.out.2.trans HFN.out.2.2⟩
      have hres : Try.f33.results = #[.cell 6 38] := by kernel_rfl
      simp only [results, hres]
      go_simp
end Go.Proofs.Ytjdgeonlbjokaaa

