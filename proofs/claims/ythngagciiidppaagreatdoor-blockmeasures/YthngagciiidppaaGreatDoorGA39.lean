import Derived.Test.YthngagciiidppaaGreatDoorGMb3
import Derived.Test.YthngagciiidppaaGreatDoorGMs6
import Derived.Test.YthngagciiidppaaGreatDoorGA05
import Derived.Test.YthngagciiidppaaGreatDoorGA07
import Derived.Test.YthngagciiidppaaGreatDoorGA03
import Derived.Test.YthngagciiidppaaGreatDoorGA26
import Derived.Lib.LaidTab
import Derived.Stop.LaidErr
import Derived.Test.YthngagciiidppaaGreatDoorGA38
namespace Go.Proofs.YthngagciiidppaaGreatDoor
open Go.RowKit Go.Maps
set_option maxRecDepth 20000
set_option linter.unusedVariables false

set_option maxHeartbeats 4000000 in
theorem measures_walk (v : Value) (R : List Tk) (a : Int) (w : World) (h : SK w v R) (hb : ∀ t ∈ R, Bt t) (hn : R.length ≤ 5864062014800) (ha0 : -9223372036854775808 ≤ a) (ha1 : a ≤ 9223372036854775807) (T : Ltab w ∧ Dtab w) (TH : Tab w) (O : Odr w) (X : Xodr w) :
    Calls Tryz.prog 3 #[v, .int .i64 a] w fun e w' => e = .returned (.bool true) ∧ Below w.heap.size w w' := by
  have HS := hide h
  have HBT := hide hb
  have HLI := hide (list_any v R w h (by omega))
  have HTT := hide (And.intro T (And.intro TH (And.intro O X)))
  obtain ⟨ao, cap, rfl, hlc, hcm⟩ := h.open
  clear h hb T TH O X
  obtain ⟨S, HSS⟩ : ∃ z, Hid (z = mzS R a) := ⟨_, rfl⟩
  obtain ⟨F, HXX⟩ : ∃ z, Hid (z = mzF R a) := ⟨_, rfl⟩
  obtain ⟨Y, HYY⟩ : ∃ z, Hid (z = mzD R a) := ⟨_, rfl⟩
  obtain ⟨E, HEE⟩ : ∃ z, Hid (z = mzE R a) := ⟨_, rfl⟩
  go_enter Tryz.func3, Tryz.ntmps3
  go_wp2_with fail
  refine HLI.out.mono ?_
  rintro e w2 ⟨u2, rfl, o2, b2⟩
  obtain ⟨la, lc, hu2, _, _⟩ := o2.shape
  subst hu2
  have HB2 := hide b2
  have HO2 := hide o2
  have HME := hide (measure_any _ R a w2 o2.sk HBT.out (by omega) ha0 ha1 ⟨HTT.out.1.1.low b2, HTT.out.1.2.low b2⟩ (HTT.out.2.1.mono b2) (HTT.out.2.2.1.mono b2))
  rw [← HSS.out, ← HXX.out, ← HYY.out, ← HEE.out] at HME
  clear o2 b2 HLI
  go_wp2_with fail
  refine HME.out.mono ?_
  rintro e w3 ⟨rfl, b3⟩
  have HB3 := hide (HB2.out.trans (b3.mono HB2.out.size))
  have HO3 := hide (HO2.out.below b3 (Nat.le_refl _))
  obtain ⟨w4, hw4⟩ : ∃ w4, w3.alloc (.cells #[.int .i64 S, .int .i64 F, .int .i64 Y] 25) = w4 := ⟨_, rfl⟩
  have b4 : Below w3.heap.size w3 w4 := by rw [← hw4]; exact (Below.refl _ _).alloc (Nat.le_refl _) _
  have HB4 := hide (HB3.out.trans (b4.mono HB3.out.size))
  have HO4 := hide (HO3.out.below b4 (Nat.le_refl _))
  have h34 : w3.heap.size < w4.heap.size := by rw [← hw4]; simp
  have HX4 : Hid (Bx3 w4 w3.heap.size S F Y) := by show Bx3 _ _ _ _ _; unfold Bx3; rw [← hw4]; exact heap_alloc_new _ _
  have HKM := hide (kmeasure_any _ R a w4 (HS.out.below HB4.out) HBT.out (by omega) ha0 ha1 (HTT.out.2.2.2.mono HB4.out))
  rw [← HSS.out, ← HXX.out, ← HYY.out, ← HEE.out] at HKM
  clear b3 b4 HME HB2 HO2 HB3 HO3
  go_wp2_with fail
  refine HKM.out.mono ?_
  rintro e w5 ⟨rfl, b5⟩
  have HB5 := hide (HB4.out.trans (b5.mono HB4.out.size))
  have HO5 := hide (HO4.out.below b5 (Nat.le_refl _))
  have HX5 : Hid (Bx3 w5 w3.heap.size S F Y) := (b5.block _ h34).trans HX4.out
  have h35 : w3.heap.size < w5.heap.size := Nat.lt_of_lt_of_le h34 b5.size
  obtain ⟨w6, hw6⟩ : ∃ w6, w5.alloc (.cells #[.int .i64 S, .int .i64 F, .int .i64 Y] 25) = w6 := ⟨_, rfl⟩
  have b6 : Below w5.heap.size w5 w6 := by rw [← hw6]; exact (Below.refl _ _).alloc (Nat.le_refl _) _
  have HB6 := hide (HB5.out.trans (b6.mono HB5.out.size))
  have HO6 := hide (HO5.out.below b6 (Nat.le_refl _))
  have HX6 : Hid (Bx3 w6 w3.heap.size S F Y) := (b6.block _ h35).trans HX5.out
  have HY6 : Hid (Bx3 w6 w5.heap.size S F Y) := by show Bx3 _ _ _ _ _; unfold Bx3; rw [← hw6]; exact heap_alloc_new _ _
  obtain ⟨x0, x1, x2, -⟩ := HX6.out.cells
  obtain ⟨y0, y1, y2, -⟩ := HY6.out.cells
  have qe : (E == E) = true := by simp
  have qs : (S == S) = true := by simp
  have qf : (F == F) = true := by simp
  have qy : (Y == Y) = true := by simp
  have HNU : Hid (∀ (wx : World) (x : Int), Calls Tryz.prog 7 #[.int .i64 x] wx fun e w' => e = .returned (.int .i64 x) ∧ w' = wx) := fun wx x => bnum_any wx x
  have HAL := hide (alike_any _ _ R R w6 HO6.out.sk (HS.out.below HB6.out))
  rw [show eqK R R = true from decide_eq_true rfl] at HAL
  clear b5 b6 HKM HB4 HO4 HB5 HO5 HX4 HX5 hw4
  go_wp2_with fail
  refine (HNU.out _ _).mono ?_
  rintro e w7 ⟨rfl, hw7⟩
  rw [hw7]
  clear hw7
  go_wp2_with fail
  refine HAL.out.mono ?_
  rintro e w8 ⟨rfl, n8, hw8⟩
  have HB8 : Hid (Below w.heap.size w w8) := by show Below _ _ _; rw [hw8]; exact below_drewN HB6.out _
  clear hw8 HAL
  go_wp2
  go_ret
  exact ⟨rfl, HB8.out⟩
end Go.Proofs.YthngagciiidppaaGreatDoor

namespace Go.Proofs.YthngagciiidppaaGreatDoor
open Go.ChangeShapes Go.WideShapes Go.ChangeAt Go.RowKit Go.Joins Go.Deep

theorem bytesInt : Tryz.prog.bytesOf 3 = 8 := by kernel_rfl

/-- A list of ints that is handed in. -/
theorem open_ints4 {H : Type} {enc : TypeId × Value → H} {W : World} {ao : Option Addr} {len cap : Nat} {d : DataW H} {ps : List MemPlace} (h : DataW.Trod enc Tryz.prog W 0 (fun _ => true) true 36 (.slice ao len cap) d ps) :
    ∃ l, SI W (.slice ao len cap) l ∧ (l = [] ∨ ∃ elems spare, d = .slice elems spare ∧ l.length ≤ elems.length + spare.length) := by
  obtain ⟨fuel, hf⟩ := h
  rcases open_ints Tryz.underlying36 Tryz.underlying3 (by kernel_rfl) hf with ⟨hcs, _⟩ | ⟨x, ll, cc, zs, hcs, _, hl, hm, hz, hx, hcell, hwz⟩
  · simp [Value.cells] at hcs
    obtain ⟨rfl, rfl, rfl⟩ := hcs
    exact ⟨[], ⟨none, 0, rfl, Nat.le_refl _, Nat.zero_le _, fun _ => rfl, fun x hx => by cases hx⟩, .inl rfl⟩
  · simp [Value.cells] at hcs
    obtain ⟨rfl, rfl, rfl⟩ := hcs
    simp only [if_true] at hz
    have e : (zs.take len).length = len := by rw [List.length_take]; omega
    simp only [Prod.mk.injEq] at hx
    refine ⟨zs.take len, ⟨some x, cap, by rw [e], by omega, hm, (fun h => by cases h), fun z hz i hi => ?_⟩, .inr ⟨_, _, hx.1, ?_⟩⟩
    · cases hz
      rw [e] at hi
      rw [hcell i (by omega)]
      simp [List.getD, hi]
    · simp [lits]

/-- The same, with the bounds of its numbers. -/
theorem open_intsb {H : Type} {enc : TypeId × Value → H} {W : World} {ao : Option Addr} {len cap : Nat} {d : DataW H} {ps : List MemPlace} (h : DataW.Trod enc Tryz.prog W 0 (fun _ => true) true 36 (.slice ao len cap) d ps) :
    ∃ l, SI W (.slice ao len cap) l ∧ (∀ x ∈ l, -9223372036854775808 ≤ x ∧ x ≤ 9223372036854775807) ∧ (l = [] ∨ ∃ elems spare, d = .slice elems spare ∧ l.length ≤ elems.length + spare.length) := by
  obtain ⟨fuel, hf⟩ := h
  rcases open_ints Tryz.underlying36 Tryz.underlying3 (by kernel_rfl) hf with ⟨hcs, _⟩ | ⟨x, ll, cc, zs, hcs, _, hl, hm, hz, hx, hcell, hwz⟩
  · simp [Value.cells] at hcs
    obtain ⟨rfl, rfl, rfl⟩ := hcs
    exact ⟨[], ⟨none, 0, rfl, Nat.le_refl _, Nat.zero_le _, fun _ => rfl, fun x hx => by cases hx⟩, (fun x hx => by simp at hx), .inl rfl⟩
  · simp [Value.cells] at hcs
    obtain ⟨rfl, rfl, rfl⟩ := hcs
    simp only [if_true] at hz
    have e : (zs.take len).length = len := by rw [List.length_take]; omega
    simp only [Prod.mk.injEq] at hx
    refine ⟨zs.take len, ⟨some x, cap, by rw [e], by omega, hm, (fun h => by cases h), fun z hz i hi => ?_⟩, fun z hz => i64_in (hwz z (List.mem_of_mem_take hz)), .inr ⟨_, _, hx.1, ?_⟩⟩
    · cases hz
      rw [e] at hi
      rw [hcell i (by omega)]
      simp [List.getD, hi]
    · simp [lits]

theorem reach_ints4 {H : Type} {ts : List TypeId} {ds : List (DataW H)} {j : Nat} {l : List Int} {d : DataW H} (h : (DataW.weightsEach Tryz.prog ts ds).all (· ≤ reachBytes) = true) (ht : ts[j]? = some 36) (hd : ds[j]? = some d)
    (hl : l = [] ∨ ∃ elems spare, d = .slice elems spare ∧ l.length ≤ elems.length + spare.length) : l.length ≤ 17592186043904 := by
  rcases hl with rfl | ⟨elems, spare, rfl, hl⟩
  · simp
  · have := sized_slice h ht hd Tryz.underlying36
    rw [bytesInt] at this
    simp only [reachBytes] at this
    omega

end Go.Proofs.YthngagciiidppaaGreatDoor

namespace Go.Proofs.YthngagciiidppaaGreatDoor
open Go.ChangeShapes Go.WideShapes Go.ChangeAt Go.RowKit Go.Joins Go.Deep
set_option maxRecDepth 20000

theorem bulk_pos {H : Type} : ∀ d : DataW H, 0 < Rows.uptoBulk d
  | .lit l => by cases l <;> simp [Rows.uptoBulk]
  | .nil => by simp [Rows.uptoBulk]
  | .ptr _ => by simp [Rows.uptoBulk]
  | .slice _ _ => by simp [Rows.uptoBulk]
  | .agg _ => by simp [Rows.uptoBulk]
  | .iface _ _ => by simp [Rows.uptoBulk]
  | .map _ => by simp [Rows.uptoBulk]
  | .held _ => by simp [Rows.uptoBulk]

theorem bulk_count {H : Type} : ∀ l : List (DataW H), l.length ≤ Rows.uptoBulkAll l
  | [] => Nat.zero_le _
  | d :: r => by
    have h1 := bulk_pos d
    have h2 := bulk_count r
    simp only [Rows.uptoBulkAll, List.length_cons]
    omega

theorem bulk_mem {H : Type} {d : DataW H} : ∀ {l : List (DataW H)}, d ∈ l → Rows.uptoBulk d ≤ Rows.uptoBulkAll l
  | x :: r, h => by
    simp only [Rows.uptoBulkAll]
    rcases List.mem_cons.1 h with e | e
    · rw [e]; omega
    · have := bulk_mem e; omega

theorem bulk_ints4 {H : Type} {ds : List (DataW H)} {d : DataW H} {l : List Int} (hk : Rows.uptoSmall H ds = true) (hd : d ∈ ds) (hl : l = [] ∨ ∃ elems spare, d = .slice elems spare ∧ l.length ≤ elems.length + spare.length) : l.length ≤ 1048576 := by
  rcases hl with rfl | ⟨e, s, rfl, h⟩
  · exact Nat.zero_le _
  · have h0 : Rows.uptoBulkAll ds ≤ 1048576 := of_decide_eq_true hk
    have h3 := bulk_mem hd
    have h1 := bulk_count e
    have h2 := bulk_count s
    simp only [Rows.uptoBulk] at h3
    omega

theorem cArr : Tryz.prog.cellsOf 103 = 19 := by kernel_rfl
theorem cInt : Tryz.prog.cellsOf 3 = 1 := by kernel_rfl
theorem gLeast : Tryz.prog.globalNamed "valise/header.least" = some 3 := by kernel_rfl
theorem tLeast : (Tryz.prog.globals[3]?).map (·.type) = some 103 := by kernel_rfl
theorem gFurther : Tryz.prog.globalNamed "valise/header.further" = some 4 := by kernel_rfl
theorem tFurther : (Tryz.prog.globals[4]?).map (·.type) = some 103 := by kernel_rfl
theorem gOrder : Tryz.prog.globalNamed "valise/header.order" = some 5 := by kernel_rfl
theorem tOrder : (Tryz.prog.globals[5]?).map (·.type) = some 103 := by kernel_rfl

def zlst : List Int := [1, 1, 1, 1, 1, 1, 1, 1, 1, 1, 1, 1, 1, 1, 1, 1, 3, 3, 11]
def zf : List Int := [0, 0, 0, 0, 0, 0, 0, 0, 0, 0, 0, 0, 0, 0, 0, 0, 2, 3, 7]
def zo : List Int := [16, 17, 18, 0, 8, 7, 9, 6, 10, 5, 11, 4, 12, 3, 13, 2, 14, 1, 15]

theorem zl_at : ∀ i : Nat, i < 19 → zlst.getD i 0 = lst i := by decide
theorem zf_at : ∀ i : Nat, i < 19 → zf.getD i 0 = ((frt i : Nat) : Int) := by decide

/-- What the row's list gives: the tables' cells. -/
theorem tab_of {W : World} {rest : List (String × DataW Unit)} (h : laidMet Tryz.prog (("valise/header.least", Lib.tabData .i64 zlst) :: ("valise/header.further", Lib.tabData .i64 zf) :: rest) W) : Tab W := by
  have h1 := Lib.tabIs_of_head gLeast tLeast Tryz.underlying103 Tryz.underlying3 cInt cArr h
  have h2 := Lib.tabIs_of_head gFurther tFurther Tryz.underlying103 Tryz.underlying3 cInt cArr h.tail
  exact ⟨fun i hi => by rw [h1.cell gLeast i (by show i < 19; exact hi), zl_at i hi], fun i hi => by rw [h2.cell gFurther i (by show i < 19; exact hi), zf_at i hi]⟩

theorem ord_of {W : World} {rest : List (String × DataW Unit)} (h : laidMet Tryz.prog (("valise/header.order", Lib.tabData .i64 zo) :: rest) W) : ∀ i : Nat, i < 19 → W.cell? ⟨5, i, none⟩ = some (.int .i64 (zo.getD i 0)) := fun i hi =>
  (Lib.tabIs_of_head gOrder tOrder Tryz.underlying103 Tryz.underlying3 cInt cArr h).cell gOrder i (by show i < 19; exact hi)
end Go.Proofs.YthngagciiidppaaGreatDoor

namespace Go.Proofs.YthngagciiidppaaGreatDoor
open Go.ChangeShapes Go.WideShapes Go.ChangeAt Go.RowKit Go.Joins Go.Deep
set_option maxRecDepth 20000

theorem gXorder : Tryz.prog.globalNamed "valise/valiseref7.order" = some 2 := by kernel_rfl
theorem tXorder : (Tryz.prog.globals[2]?).map (·.type) = some 103 := by kernel_rfl

theorem xord_of {W : World} {rest : List (String × DataW Unit)} (h : laidMet Tryz.prog (("valise/valiseref7.order", Lib.tabData .i64 zo) :: rest) W) : Xodr W := ⟨fun i hi =>
  (Lib.tabIs_of_head gXorder tXorder Tryz.underlying103 Tryz.underlying3 cInt cArr h).cell gXorder i (by show i < 19; exact hi)⟩
end Go.Proofs.YthngagciiidppaaGreatDoor

