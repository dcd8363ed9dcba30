import Derived.Test.YtijmmfimkibgbaaGCnn
import Derived.Test.YtijmmfimkibgbaaGLnb
import Derived.Test.YtijmmfimkibgbaaGPce
import Derived.Test.YtijmmfimkibgbaaGPen
import Derived.Test.YtijmmfimkibgbaaGPcm
import Derived.Test.YtijmmfimkibgbaaGGce
import Derived.Deep.WholeRow
namespace Go.Proofs.Ytijmmfimkibgbaa
open Go.RowKit Go.Maps
set_option maxRecDepth 20000
set_option linter.unusedVariables false
set_option linter.unusedSimpArgs false

theorem rsL (l : Loc) : l.cs.size = 10 := rfl

theorem roL (l : Loc) : l.cs.all (·.oneCell') = true := by simp [Loc.cs, Value.oneCell']

theorem rzL : (Try.prog.info? 24).map (·.size) = some 10 := by kernel_rfl

theorem wpList_ldL {ops : Array Oper} {rest : List Oper} {a : Act} {w : World} {Q : Exit → Act → World → Prop} {dst : Option Tmp} {x : Operand} {ty : TypeId} {pos : String} {after : Array Edge} (g : Nat) (A : Array Value) (hs : A.size = 10)
    (hx : a.eval x = .pointer (some ⟨g, 0, none⟩)) (hg : w.heap[g]? = some (.cells A 24 (0, 0))) (h : wpList Try.prog ops Q rest (a.put dst (.agg A)) w) :
    wpList Try.prog ops Q ({ dst := dst, op := .load 24 x, type := ty, pos := pos, after := after, guard := none } :: rest) a w :=
  wpList_load_row rfl 24 x rfl g hx 24 A (0, 0) _ hg Try.underlying24 rfl (by rw [hs]; exact rzL) h

theorem wpList_stL {ops : Array Oper} {rest : List Oper} {a : Act} {w : World} {Q : Exit → Act → World → Prop} {dst : Option Tmp} {x y : Operand} {ty : TypeId} {pos : String} {after : Array Edge} (g : Nat) (A B : Array Value) (hs : A.size = 10) (hb : B.size = 10) (h1 : A.all (·.oneCell') = true)
    (hx : a.eval x = .pointer (some ⟨g, 0, none⟩)) (hy : a.eval y = .agg A) (hg : w.heap[g]? = some (.cells B 24 (0, 0))) (h : wpList Try.prog ops Q rest (a.put dst undef) (w.setRow g A)) :
    wpList Try.prog ops Q ({ dst := dst, op := .store 24 x y, type := ty, pos := pos, after := after, guard := none } :: rest) a w :=
  wpList_store_row rfl 24 x y rfl g A hx hy 24 B hg (by rw [hs]; exact rzL) (by rw [hs, hb]) h1 h

theorem rsC (l : Cen) : l.cs.size = 16 := rfl

theorem roC (l : Cen) : l.cs.all (·.oneCell') = true := by simp [Cen.cs, Value.oneCell']

theorem rzC : (Try.prog.info? 26).map (·.size) = some 16 := by kernel_rfl

theorem wpList_ldC {ops : Array Oper} {rest : List Oper} {a : Act} {w : World} {Q : Exit → Act → World → Prop} {dst : Option Tmp} {x : Operand} {ty : TypeId} {pos : String} {after : Array Edge} (g : Nat) (A : Array Value) (hs : A.size = 16)
    (hx : a.eval x = .pointer (some ⟨g, 0, none⟩)) (hg : w.heap[g]? = some (.cells A 26 (0, 0))) (h : wpList Try.prog ops Q rest (a.put dst (.agg A)) w) :
    wpList Try.prog ops Q ({ dst := dst, op := .load 26 x, type := ty, pos := pos, after := after, guard := none } :: rest) a w :=
  wpList_load_row rfl 26 x rfl g hx 26 A (0, 0) _ hg Try.underlying26 rfl (by rw [hs]; exact rzC) h

theorem wpList_stC {ops : Array Oper} {rest : List Oper} {a : Act} {w : World} {Q : Exit → Act → World → Prop} {dst : Option Tmp} {x y : Operand} {ty : TypeId} {pos : String} {after : Array Edge} (g : Nat) (A B : Array Value) (hs : A.size = 16) (hb : B.size = 16) (h1 : A.all (·.oneCell') = true)
    (hx : a.eval x = .pointer (some ⟨g, 0, none⟩)) (hy : a.eval y = .agg A) (hg : w.heap[g]? = some (.cells B 26 (0, 0))) (h : wpList Try.prog ops Q rest (a.put dst undef) (w.setRow g A)) :
    wpList Try.prog ops Q ({ dst := dst, op := .store 26 x y, type := ty, pos := pos, after := after, guard := none } :: rest) a w :=
  wpList_store_row rfl 26 x y rfl g A hx hy 26 B hg (by rw [hs]; exact rzC) (by rw [hs, hb]) h1 h

theorem rsE (l : Enr) : l.cs.size = 7 := rfl

theorem roE (l : Enr) : l.cs.all (·.oneCell') = true := by simp [Enr.cs, Value.oneCell']

theorem rzE : (Try.prog.info? 28).map (·.size) = some 7 := by kernel_rfl

theorem wpList_ldE {ops : Array Oper} {rest : List Oper} {a : Act} {w : World} {Q : Exit → Act → World → Prop} {dst : Option Tmp} {x : Operand} {ty : TypeId} {pos : String} {after : Array Edge} (g : Nat) (A : Array Value) (hs : A.size = 7)
    (hx : a.eval x = .pointer (some ⟨g, 0, none⟩)) (hg : w.heap[g]? = some (.cells A 28 (0, 0))) (h : wpList Try.prog ops Q rest (a.put dst (.agg A)) w) :
    wpList Try.prog ops Q ({ dst := dst, op := .load 28 x, type := ty, pos := pos, after := after, guard := none } :: rest) a w :=
  wpList_load_row rfl 28 x rfl g hx 28 A (0, 0) _ hg Try.underlying28 rfl (by rw [hs]; exact rzE) h

theorem wpList_stE {ops : Array Oper} {rest : List Oper} {a : Act} {w : World} {Q : Exit → Act → World → Prop} {dst : Option Tmp} {x y : Operand} {ty : TypeId} {pos : String} {after : Array Edge} (g : Nat) (A B : Array Value) (hs : A.size = 7) (hb : B.size = 7) (h1 : A.all (·.oneCell') = true)
    (hx : a.eval x = .pointer (some ⟨g, 0, none⟩)) (hy : a.eval y = .agg A) (hg : w.heap[g]? = some (.cells B 28 (0, 0))) (h : wpList Try.prog ops Q rest (a.put dst undef) (w.setRow g A)) :
    wpList Try.prog ops Q ({ dst := dst, op := .store 28 x y, type := ty, pos := pos, after := after, guard := none } :: rest) a w :=
  wpList_store_row rfl 28 x y rfl g A hx hy 28 B hg (by rw [hs]; exact rzE) (by rw [hs, hb]) h1 h

/-- The empty end record in memory. -/
theorem e22_sb (w : World) : SB (w.alloc (.cells #[.int .u8 80, .int .u8 75, .int .u8 5, .int .u8 6, .int .u8 0, .int .u8 0, .int .u8 0, .int .u8 0, .int .u8 0, .int .u8 0, .int .u8 0, .int .u8 0, .int .u8 0, .int .u8 0, .int .u8 0, .int .u8 0, .int .u8 0, .int .u8 0, .int .u8 0, .int .u8 0, .int .u8 0, .int .u8 0] 5)) (.slice (some ⟨w.heap.size, 0, none⟩) 22 22) e22 := built_sb w e22 (by decide)

theorem e22_any (w : World) (v : Value) (h : SB w v e22) : Calls Try.prog 33 #[v, .int .i64 0] w fun e w' => e = .returned (.tuple #[.agg #[.int .i64 0, .int .i64 0, .int .i64 0, .int .i64 0, .int .i64 0, .int .i64 0, .string ⟨#[]⟩], .int .i64 22, .int .i64 0]) ∧ Below w.heap.size w w' := by
  refine (getEnd_any v e22 0 w h e22_byt (by unfold Ok64; omega) (by decide)).mono ?_
  rintro e w' ⟨rfl, hb⟩
  obtain ⟨g1, g2, g3⟩ := e22_get
  rw [g1, g2, g3]
  exact ⟨rfl, hb⟩
end Go.Proofs.Ytijmmfimkibgbaa

