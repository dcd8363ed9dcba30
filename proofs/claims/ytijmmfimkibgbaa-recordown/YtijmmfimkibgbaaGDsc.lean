import Derived.Test.YtijmmfimkibgbaaGVpt
namespace Go.Proofs.Ytijmmfimkibgbaa
open Go.RowKit Go.Maps
set_option maxRecDepth 20000
set_option linter.unusedVariables false

/-- A descriptor's items. -/
def dsT (l : Loc) : List Itm := [.num l.sum 4, .num l.packed 4, .num l.size 4]
def dsI (l : Loc) (signed : Bool) : List Itm := if signed then .num 134695760 4 :: dsT l else dsT l

theorem dsI_len (l : Loc) (b : Bool) : ((rowI (dsI l b)).length : Int) ≤ 16 := by
  cases b <;> simp [dsI, dsT, rowI, itB, length_bytesLE]

set_option maxHeartbeats 1000000 in
theorem putDescriptor_any (l : Loc) (ok : l.Ok) (b : Bool) (w : World) :
    Calls Try.prog 31 #[l.v, .bool b] w fun e w' => ∃ a c, e = .returned (.tuple #[.slice a (puL (dsI l b)).length c, .int .i64 (puE (dsI l b))]) ∧ OB w' w.heap.size (.slice a (puL (dsI l b)).length c) (puL (dsI l b)) ∧ Below w.heap.size w w' := by
  have HP := hide (pu_of (dsI l b) 16 (fun _ => dsI_len l b))
  have HK := hide ok
  rw [← HP.out.1, ← HP.out.2]
  obtain ⟨wb, hwb⟩ : ∃ wb, w.alloc (.cells l.cs 24) = wb := ⟨_, rfl⟩
  have HB : Hid (Below w.heap.size w wb) := by rw [← hwb]; exact (Below.refl _ _).alloc (Nat.le_refl _) _
  have hN : wb.heap[w.heap.size]? = some (.cells l.cs 24 (0, 0)) := by rw [← hwb]; exact heap_alloc_new w _
  have HN := hide hN
  obtain ⟨lv, hlv⟩ : ∃ lv, lv = l := ⟨_, rfl⟩
  have HKL : Hid (lv.Ok) := by rw [hlv]; exact ok
  cases l with
  | mk a0 a1 a2 a3 a4 a5 a6 a7 a8 a9 =>
  simp only [Loc.cs] at hN hwb HN
  have HV : Hid (lv.v = .agg #[.int .i64 a0, .int .i64 a1, .int .i64 a2, .int .i64 a3, .int .i64 a4, .int .u32 a5, .int .i64 a6, .int .i64 a7, .string a8, .string a9]) := by rw [hlv]; rfl
  have HD : Hid (dsI ⟨a0, a1, a2, a3, a4, a5, a6, a7, a8, a9⟩ b = dsI lv b) := by rw [hlv]; rfl
  rw [HD.out]
  simp only [Loc.v, Loc.cs]
  clear HP ok hlv HK
  cases b with
  | true =>
    clear hN
    go_enter Try.func31, Try.ntmps31
    go_wp2_with fail
    refine (newBx w wb 16 (by omega) (by omega) HN.out HB.out).mono ?_
    rintro e w1 ⟨g, rfl, hx⟩
    have HX := hide hx
    clear hx hwb
    go_wp2_with fail
    refine (pu32_any HX.out 134695760 (by unfold Ok64; omega)).mono ?_
    rintro e w2 ⟨rfl, hx⟩
    clear HX
    have HX := hide hx
    obtain ⟨c0, c1, c2, c3, c4, c5, c6, c7, c8, c9⟩ := box10 hx.box
    clear hx
    go_wp2_with fail
    rw [← HV.out]
    refine (putSizes_any lv HKL.out HX.out).mono ?_
    rintro e w3 ⟨rfl, hx⟩
    clear HX c0 c1 c2 c3 c4 c5 c6 c7 c8 c9
    have HX := hide hx
    clear hx
    go_wp2_with fail
    refine (ptaken_any HX.out).mono ?_
    rintro e w4 ⟨a, c, rfl, ho, hb⟩
    have HO := hide ho
    have HB2 := hide hb
    clear ho hb
    go_wp2
    go_ret2
    exact ⟨a, c, rfl, HO.out, HB2.out⟩
  | false =>
    clear hN
    go_enter Try.func31, Try.ntmps31
    go_wp2_with fail
    refine (newBx w wb 16 (by omega) (by omega) HN.out HB.out).mono ?_
    rintro e w1 ⟨g, rfl, hx⟩
    have HX := hide hx
    obtain ⟨c0, c1, c2, c3, c4, c5, c6, c7, c8, c9⟩ := box10 hx.box
    clear hx hwb
    go_wp2_with fail
    rw [← HV.out]
    refine (putSizes_any lv HKL.out HX.out).mono ?_
    rintro e w3 ⟨rfl, hx⟩
    clear HX c0 c1 c2 c3 c4 c5 c6 c7 c8 c9
    have HX := hide hx
    clear hx
    go_wp2_with fail
    refine (ptaken_any HX.out).mono ?_
    rintro e w4 ⟨a, c, rfl, ho, hb⟩
    have HO := hide ho
    have HB2 := hide hb
    clear ho hb
    go_wp2
    go_ret2
    exact ⟨a, c, rfl, HO.out, HB2.out⟩
end Go.Proofs.Ytijmmfimkibgbaa

