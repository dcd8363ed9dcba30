import Derived.Test.YtagikpkkbopcbaaDoorG14Shz
import Derived.OpenShut
import Derived.JoinedCond
import Derived.Stop.LaidErr
import Derived.Test.YtagikpkkbopcbaaDoorCards
namespace Go.Proofs.YtagikpkkbopcbaaDoor
open Go.ChangeShapes Go.WideShapes Go.ChangeAt Go.RowKit
set_option linter.unusedVariables false

theorem own : ownKnob Tryd.prog.godebug = none := by kernel_rfl
theorem laidOut : laidOutB Tryd.prog = true := by kernel_rfl
theorem bytesByte : Tryd.prog.bytesOf 5 = 1 := by kernel_rfl

theorem open_str20 {H : Type} {enc : TypeId × Value → H} {W : World} {r : Reach} {b0 : Nat} {v : Value} {d : DataW H} {ps : List MemPlace}
    (hv : Value.okWide Tryd.prog W r b0 9 v) (h : DataW.Trod enc Tryd.prog W 0 (fun _ => true) true 9 v d ps) : ∃ s, v = .string s ∧ d = .lit (.string s.data.toList) ∧ s.size ≤ 9223372036854775807 := by
  obtain ⟨s, rfl⟩ := okWide_string Tryd.underlying9 hv
  obtain ⟨fuel, hf⟩ := h
  obtain ⟨s', hs, hx, hm⟩ := DataW.trod_string Tryd.underlying9 hf
  simp [Value.cells] at hs
  subst hs
  simp only [Prod.mk.injEq] at hx
  unfold maxLen at hm
  exact ⟨s, rfl, hx.1, hm⟩

theorem bulk_of20 {H : Type} {d : DataW H} : ∀ {ds : List (DataW H)}, d ∈ ds → Rows.uptoBulk d ≤ Rows.uptoBulkAll ds
  | [], h => by cases h
  | x :: r, h => by
    unfold Rows.uptoBulkAll
    rcases List.mem_cons.1 h with rfl | h
    · omega
    · have := bulk_of20 h
      omega

theorem bulk_str20 {H : Type} {ds : List (DataW H)} {d : DataW H} {s : ByteArray} (hk : Rows.uptoSmall H ds = true) (hd : d ∈ ds) (hs : d = .lit (.string s.data.toList)) : s.size ≤ 1048576 := by
  have h1 := bulk_of20 hd
  unfold Rows.uptoSmall at hk
  have h2 := of_decide_eq_true hk
  subst hs
  rw [Rows.uptoBulk] at h1
  have : s.data.toList.length = s.size := by rw [Array.length_toList]; rfl
  omega

theorem star20 : ("*errors.errorString" : String) = "*" ++ "errors.errorString" := by decide

theorem row20 (u : TypeId) (h : Tryd.prog.typeName? 3 u = some "*errors.errorString") : u = 53 :=
  typeName_ptr_named (nm := "errors.errorString") (by rw [← star20]; kernel_rfl) (by kernel_rfl) (by decide) u (by rw [← star20]; exact h)

theorem esy_of {W : World} (h : laidMet Tryd.prog Rows.shellParsesUptoRow.laid W) : Esy W := by
  have h0 : laidMet Tryd.prog [("math/bits.deBruijn32tab", Rows.laid_math_bits_deBruijn32tab), ("math/bits.deBruijn64tab", Rows.laid_math_bits_deBruijn64tab), ("internal/strconv.uint64pow10", Rows.laid_internal_strconv_uint64pow10), ("strconv.ErrRange", Rows.laid_strconv_ErrRange), ("strconv.ErrSyntax", Rows.laid_strconv_ErrSyntax)] W := h
  have h1 := h0.tail.tail.tail.tail
  unfold Rows.laid_strconv_ErrSyntax at h1
  obtain ⟨a1, s1, hv1, hc1, hs1, hz1⟩ := laid_sentinel h1 (show Tryd.prog.globalNamed "strconv.ErrSyntax" = some 0 by kernel_rfl) (show (Tryd.prog.globals[0]?).map (·.type) = some 37 by kernel_rfl) Tryd.underlying37 row20 Tryd.underlying53 Tryd.underlying55 rfl rfl Tryd.underlying9 (by kernel_rfl) (by kernel_rfl)
  refine ⟨.iface 53 (.pointer (some a1)), ?_, .inr ⟨_, _, rfl⟩⟩
  have := World.var?_cell (show Tryd.prog.globalNamed "strconv.ErrSyntax" = some 0 by kernel_rfl) hv1 0
  simpa using this
end Go.Proofs.YtagikpkkbopcbaaDoor

