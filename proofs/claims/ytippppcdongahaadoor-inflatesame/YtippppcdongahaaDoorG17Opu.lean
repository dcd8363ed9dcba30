import Derived.Test.YtippppcdongahaaDoorG00Ints
import Derived.Lib.SmallJoins
import Derived.Deep.Slices
import Derived.Test.YtippppcdongahaaDoorG01Rnw
import Derived.Lib.LaidTab
import Derived.Stop.LaidErr
namespace Go.Proofs.YtippppcdongahaaDoor
open Go.ChangeShapes Go.WideShapes Go.ChangeAt Go.RowKit Go.Joins Go.Deep

theorem own : ownKnob Tryd.prog.godebug = none := by kernel_rfl
theorem laidOut : laidOutB Tryd.prog = true := by kernel_rfl
theorem bytesByte : Tryd.prog.bytesOf 5 = 1 := by kernel_rfl

theorem byte_wf {n : Int} (h : (Lit.int .u8 n).wf = true) : 0 ≤ n ∧ n < 256 := by
  simp [Lit.wf, IntKind.min, IntKind.max, IntKind.signed, IntKind.bits] at h
  omega

theorem i64_in {n : Int} (h : (Lit.int .i64 n).wf = true) : -9223372036854775808 ≤ n ∧ n ≤ 9223372036854775807 := by
  simp [Lit.wf, IntKind.min, IntKind.max, IntKind.signed, IntKind.bits] at h
  omega

theorem open_bytes {H : Type} {enc : TypeId × Value → H} {W : World} {ao : Option Addr} {len cap : Nat} {d : DataW H} {ps : List MemPlace}
    (h : DataW.Trod enc Tryd.prog W 0 (fun _ => true) true 22 (.slice ao len cap) d ps) :
    ∃ l, SB W (.slice ao len cap) l ∧ Byt l ∧ (l = [] ∨ ∃ elems spare, d = .slice elems spare ∧ l.length ≤ elems.length + spare.length) := by
  obtain ⟨fuel, hf⟩ := h
  rcases open_ints Tryd.underlying22 Tryd.underlying5 (by kernel_rfl) hf with ⟨hcs, _⟩ | ⟨x, ll, c, zs, hcs, _, hl, hm, hz, hx, hcell, hwz⟩
  · simp [Value.cells] at hcs
    obtain ⟨rfl, rfl, rfl⟩ := hcs
    exact ⟨[], ⟨none, 0, rfl, Nat.le_refl _, Nat.zero_le _, fun _ => rfl, fun x hx => by cases hx⟩, (fun i => by simp), .inl rfl⟩
  · simp [Value.cells] at hcs
    obtain ⟨rfl, rfl, rfl⟩ := hcs
    simp only [if_true] at hz
    have e : (zs.take len).length = len := by rw [List.length_take]; omega
    simp only [Prod.mk.injEq] at hx
    have hbz : Byt zs := by
      intro i
      by_cases hi : i < zs.length
      · have : zs.getD i 0 = zs[i] := by simp [hi]
        rw [this]
        exact byte_wf (hwz _ (List.getElem_mem hi))
      · have : zs.getD i 0 = 0 := by simp [hi]
        rw [this]; decide
    refine ⟨zs.take len, ⟨some x, cap, by rw [e], by omega, hm, (fun h => by cases h), fun y hy i hi => ?_⟩, byt_take hbz _, .inr ⟨_, _, hx.1, ?_⟩⟩
    · cases hy
      rw [e] at hi
      rw [hcell i (by omega)]
      simp [List.getD, hi]
    · simp [lits]

theorem reach_bytes {H : Type} {ts : List TypeId} {ds : List (DataW H)} {j : Nat} {l : List Int} {d : DataW H} (h : (DataW.weightsEach Tryd.prog ts ds).all (· ≤ reachBytes) = true) (ht : ts[j]? = some 22) (hd : ds[j]? = some d)
    (hl : l = [] ∨ ∃ elems spare, d = .slice elems spare ∧ l.length ≤ elems.length + spare.length) : l.length ≤ 140737488351232 := by
  rcases hl with rfl | ⟨elems, spare, rfl, hl⟩
  · simp
  · have := sized_slice h ht hd Tryd.underlying22
    rw [bytesByte] at this
    simp only [reachBytes] at this
    omega

end Go.Proofs.YtippppcdongahaaDoor

namespace Go.Proofs.YtippppcdongahaaDoor
open Go.ChangeShapes Go.WideShapes Go.ChangeAt Go.RowKit Go.Joins Go.Deep

end Go.Proofs.YtippppcdongahaaDoor

namespace Go.Proofs.YtippppcdongahaaDoor
open Go.ChangeShapes Go.WideShapes Go.ChangeAt Go.RowKit Go.Joins Go.Deep
set_option maxRecDepth 20000

theorem cArr : Tryd.prog.cellsOf 115 = 19 := by kernel_rfl
theorem cInt : Tryd.prog.cellsOf 3 = 1 := by kernel_rfl
theorem gLeast : Tryd.prog.globalNamed "valise/header.least" = some 2 := by kernel_rfl
theorem tLeast : (Tryd.prog.globals[2]?).map (·.type) = some 115 := by kernel_rfl
theorem gFurther : Tryd.prog.globalNamed "valise/header.further" = some 1 := by kernel_rfl
theorem tFurther : (Tryd.prog.globals[1]?).map (·.type) = some 115 := by kernel_rfl
theorem gOrder : Tryd.prog.globalNamed "valise/header.order" = some 0 := by kernel_rfl
theorem tOrder : (Tryd.prog.globals[0]?).map (·.type) = some 115 := by kernel_rfl

def zlst : List Int := [1, 1, 1, 1, 1, 1, 1, 1, 1, 1, 1, 1, 1, 1, 1, 1, 3, 3, 11]
def zf : List Int := [0, 0, 0, 0, 0, 0, 0, 0, 0, 0, 0, 0, 0, 0, 0, 0, 2, 3, 7]
def zo : List Int := [16, 17, 18, 0, 8, 7, 9, 6, 10, 5, 11, 4, 12, 3, 13, 2, 14, 1, 15]

theorem zl_at : ∀ i : Nat, i < 19 → zlst.getD i 0 = lst i := by decide
theorem zf_at : ∀ i : Nat, i < 19 → zf.getD i 0 = ((frt i : Nat) : Int) := by decide

theorem tab_of {W : World} {rest : List (String × DataW Unit)} (h : laidMet Tryd.prog (("valise/header.least", Lib.tabData .i64 zlst) :: ("valise/header.further", Lib.tabData .i64 zf) :: rest) W) : Tab W := by
  have h1 := Lib.tabIs_of_head gLeast tLeast Tryd.underlying115 Tryd.underlying3 cInt cArr h
  have h2 := Lib.tabIs_of_head gFurther tFurther Tryd.underlying115 Tryd.underlying3 cInt cArr h.tail
  exact ⟨fun i hi => by rw [h1.cell gLeast i (by show i < 19; exact hi), zl_at i hi], fun i hi => by rw [h2.cell gFurther i (by show i < 19; exact hi), zf_at i hi]⟩

theorem ord_of {W : World} {rest : List (String × DataW Unit)} (h : laidMet Tryd.prog (("valise/header.order", Lib.tabData .i64 zo) :: rest) W) : ∀ i : Nat, i < 19 → W.cell? ⟨0, i, none⟩ = some (.int .i64 (zo.getD i 0)) := fun i hi =>
  (Lib.tabIs_of_head gOrder tOrder Tryd.underlying115 Tryd.underlying3 cInt cArr h).cell gOrder i (by show i < 19; exact hi)
end Go.Proofs.YtippppcdongahaaDoor

