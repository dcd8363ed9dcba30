import Derived.Test.YtmbgjkghcpkoiaaGCnn
import Derived.Test.YtmbgjkghcpkoiaaGLnb
import Derived.Test.YtmbgjkghcpkoiaaGPx
import Derived.Test.YtmbgjkghcpkoiaaGGc
import Derived.Deep.WholeRow
namespace Go.Proofs.Ytmbgjkghcpkoiaa
open Go.RowKit Go.Maps
set_option maxRecDepth 20000
set_option linter.unusedVariables false
set_option linter.unusedSimpArgs false

theorem rsL (l : Loc) : l.cs.size = 10 := rfl

theorem roL (l : Loc) : l.cs.all (·.oneCell') = true := by simp [Loc.cs, Value.oneCell']

theorem rzL : (Try.prog.info? 28).map (·.size) = some 10 := by kernel_rfl

theorem wpList_ldL {ops : Array Oper} {rest : List Oper} {a : Act} {w : World} {Q : Exit → Act → World → Prop} {dst : Option Tmp} {x : Operand} {ty : TypeId} {pos : String} {after : Array Edge} (g : Nat) (A : Array Value) (hs : A.size = 10)
    (hx : a.eval x = .pointer (some ⟨g, 0, none⟩)) (hg : w.heap[g]? = some (.cells A 28 (0, 0))) (h : wpList Try.prog ops Q rest (a.put dst (.agg A)) w) :
    wpList Try.prog ops Q ({ dst := dst, op := .load 28 x, type := ty, pos := pos, after := after, guard := none } :: rest) a w :=
  wpList_load_row rfl 28 x rfl g hx 28 A (0, 0) _ hg Try.underlying28 rfl (by rw [hs]; exact rzL) h

theorem wpList_stL {ops : Array Oper} {rest : List Oper} {a : Act} {w : World} {Q : Exit → Act → World → Prop} {dst : Option Tmp} {x y : Operand} {ty : TypeId} {pos : String} {after : Array Edge} (g : Nat) (A B : Array Value) (hs : A.size = 10) (hb : B.size = 10) (h1 : A.all (·.oneCell') = true)
    (hx : a.eval x = .pointer (some ⟨g, 0, none⟩)) (hy : a.eval y = .agg A) (hg : w.heap[g]? = some (.cells B 28 (0, 0))) (h : wpList Try.prog ops Q rest (a.put dst undef) (w.setRow g A)) :
    wpList Try.prog ops Q ({ dst := dst, op := .store 28 x y, type := ty, pos := pos, after := after, guard := none } :: rest) a w :=
  wpList_store_row rfl 28 x y rfl g A hx hy 28 B hg (by rw [hs]; exact rzL) (by rw [hs, hb]) h1 h

theorem rsC (l : Cen) : l.cs.size = 16 := rfl

theorem roC (l : Cen) : l.cs.all (·.oneCell') = true := by simp [Cen.cs, Value.oneCell']

theorem rzC : (Try.prog.info? 30).map (·.size) = some 16 := by kernel_rfl

theorem wpList_ldC {ops : Array Oper} {rest : List Oper} {a : Act} {w : World} {Q : Exit → Act → World → Prop} {dst : Option Tmp} {x : Operand} {ty : TypeId} {pos : String} {after : Array Edge} (g : Nat) (A : Array Value) (hs : A.size = 16)
    (hx : a.eval x = .pointer (some ⟨g, 0, none⟩)) (hg : w.heap[g]? = some (.cells A 30 (0, 0))) (h : wpList Try.prog ops Q rest (a.put dst (.agg A)) w) :
    wpList Try.prog ops Q ({ dst := dst, op := .load 30 x, type := ty, pos := pos, after := after, guard := none } :: rest) a w :=
  wpList_load_row rfl 30 x rfl g hx 30 A (0, 0) _ hg Try.underlying30 rfl (by rw [hs]; exact rzC) h

theorem wpList_stC {ops : Array Oper} {rest : List Oper} {a : Act} {w : World} {Q : Exit → Act → World → Prop} {dst : Option Tmp} {x y : Operand} {ty : TypeId} {pos : String} {after : Array Edge} (g : Nat) (A B : Array Value) (hs : A.size = 16) (hb : B.size = 16) (h1 : A.all (·.oneCell') = true)
    (hx : a.eval x = .pointer (some ⟨g, 0, none⟩)) (hy : a.eval y = .agg A) (hg : w.heap[g]? = some (.cells B 30 (0, 0))) (h : wpList Try.prog ops Q rest (a.put dst undef) (w.setRow g A)) :
    wpList Try.prog ops Q ({ dst := dst, op := .store 30 x y, type := ty, pos := pos, after := after, guard := none } :: rest) a w :=
  wpList_store_row rfl 30 x y rfl g A hx hy 30 B hg (by rw [hs]; exact rzC) (by rw [hs, hb]) h1 h

theorem rsE (l : Enr) : l.cs.size = 7 := rfl

theorem roE (l : Enr) : l.cs.all (·.oneCell') = true := by simp [Enr.cs, Value.oneCell']

/-- The empty end record in memory. -/
theorem e22_sb (w : World) : SB (w.alloc (.cells #[.int .u8 80, .int .u8 75, .int .u8 5, .int .u8 6, .int .u8 0, .int .u8 0, .int .u8 0, .int .u8 0, .int .u8 0, .int .u8 0, .int .u8 0, .int .u8 0, .int .u8 0, .int .u8 0, .int .u8 0, .int .u8 0, .int .u8 0, .int .u8 0, .int .u8 0, .int .u8 0, .int .u8 0, .int .u8 0] 5)) (.slice (some ⟨w.heap.size, 0, none⟩) 22 22) e22 := built_sb w e22 (by decide)

end Go.Proofs.Ytmbgjkghcpkoiaa

