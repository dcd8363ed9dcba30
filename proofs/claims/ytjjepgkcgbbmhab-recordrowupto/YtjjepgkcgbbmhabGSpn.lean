import Derived.Test.YtjjepgkcgbbmhabGCnn
import Derived.Test.YtjjepgkcgbbmhabGLnb
import Derived.Test.YtjjepgkcgbbmhabGPce
import Derived.Test.YtjjepgkcgbbmhabGPen
import Derived.Test.YtjjepgkcgbbmhabGPcm
import Derived.Test.YtjjepgkcgbbmhabGGce
import Derived.Deep.WholeRow
namespace Go.Proofs.Ytjjepgkcgbbmhab
open Go.RowKit Go.Maps
set_option maxRecDepth 20000
set_option linter.unusedVariables false
set_option linter.unusedSimpArgs false

theorem rsL (l : Loc) : l.cs.size = 10 := rfl

theorem roL (l : Loc) : l.cs.all (·.oneCell') = true := by simp [Loc.cs, Value.oneCell']

theorem rzL : (Try.prog.info? 30).map (·.size) = some 10 := by kernel_rfl

theorem wpList_ldL {ops : Array Oper} {rest : List Oper} {a : Act} {w : World} {Q : Exit → Act → World → Prop} {dst : Option Tmp} {x : Operand} {ty : TypeId} {pos : String} {after : Array Edge} (g : Nat) (A : Array Value) (hs : A.size = 10)
    (hx : a.eval x = .pointer (some ⟨g, 0, none⟩)) (hg : w.heap[g]? = some (.cells A 30 (0, 0))) (h : wpList Try.prog ops Q rest (a.put dst (.agg A)) w) :
    wpList Try.prog ops Q ({ dst := dst, op := .load 30 x, type := ty, pos := pos, after := after, guard := none } :: rest) a w :=
  wpList_load_row rfl 30 x rfl g hx 30 A (0, 0) _ hg Try.underlying30 rfl (by rw [hs]; exact rzL) h

theorem wpList_stL {ops : Array Oper} {rest : List Oper} {a : Act} {w : World} {Q : Exit → Act → World → Prop} {dst : Option Tmp} {x y : Operand} {ty : TypeId} {pos : String} {after : Array Edge} (g : Nat) (A B : Array Value) (hs : A.size = 10) (hb : B.size = 10) (h1 : A.all (·.oneCell') = true)
    (hx : a.eval x = .pointer (some ⟨g, 0, none⟩)) (hy : a.eval y = .agg A) (hg : w.heap[g]? = some (.cells B 30 (0, 0))) (h : wpList Try.prog ops Q rest (a.put dst undef) (w.setRow g A)) :
    wpList Try.prog ops Q ({ dst := dst, op := .store 30 x y, type := ty, pos := pos, after := after, guard := none } :: rest) a w :=
  wpList_store_row rfl 30 x y rfl g A hx hy 30 B hg (by rw [hs]; exact rzL) (by rw [hs, hb]) h1 h

theorem rsC (l : Cen) : l.cs.size = 16 := rfl

theorem roC (l : Cen) : l.cs.all (·.oneCell') = true := by simp [Cen.cs, Value.oneCell']

theorem rzC : (Try.prog.info? 40).map (·.size) = some 16 := by kernel_rfl

theorem wpList_ldC {ops : Array Oper} {rest : List Oper} {a : Act} {w : World} {Q : Exit → Act → World → Prop} {dst : Option Tmp} {x : Operand} {ty : TypeId} {pos : String} {after : Array Edge} (g : Nat) (A : Array Value) (hs : A.size = 16)
    (hx : a.eval x = .pointer (some ⟨g, 0, none⟩)) (hg : w.heap[g]? = some (.cells A 40 (0, 0))) (h : wpList Try.prog ops Q rest (a.put dst (.agg A)) w) :
    wpList Try.prog ops Q ({ dst := dst, op := .load 40 x, type := ty, pos := pos, after := after, guard := none } :: rest) a w :=
  wpList_load_row rfl 40 x rfl g hx 40 A (0, 0) _ hg Try.underlying40 rfl (by rw [hs]; exact rzC) h

theorem wpList_stC {ops : Array Oper} {rest : List Oper} {a : Act} {w : World} {Q : Exit → Act → World → Prop} {dst : Option Tmp} {x y : Operand} {ty : TypeId} {pos : String} {after : Array Edge} (g : Nat) (A B : Array Value) (hs : A.size = 16) (hb : B.size = 16) (h1 : A.all (·.oneCell') = true)
    (hx : a.eval x = .pointer (some ⟨g, 0, none⟩)) (hy : a.eval y = .agg A) (hg : w.heap[g]? = some (.cells B 40 (0, 0))) (h : wpList Try.prog ops Q rest (a.put dst undef) (w.setRow g A)) :
    wpList Try.prog ops Q ({ dst := dst, op := .store 40 x y, type := ty, pos := pos, after := after, guard := none } :: rest) a w :=
  wpList_store_row rfl 40 x y rfl g A hx hy 40 B hg (by rw [hs]; exact rzC) (by rw [hs, hb]) h1 h

theorem rsE (l : Enr) : l.cs.size = 7 := rfl

theorem roE (l : Enr) : l.cs.all (·.oneCell') = true := by simp [Enr.cs, Value.oneCell']

theorem rzE : (Try.prog.info? 24).map (·.size) = some 7 := by kernel_rfl

theorem wpList_ldE {ops : Array Oper} {rest : List Oper} {a : Act} {w : World} {Q : Exit → Act → World → Prop} {dst : Option Tmp} {x : Operand} {ty : TypeId} {pos : String} {after : Array Edge} (g : Nat) (A : Array Value) (hs : A.size = 7)
    (hx : a.eval x = .pointer (some ⟨g, 0, none⟩)) (hg : w.heap[g]? = some (.cells A 24 (0, 0))) (h : wpList Try.prog ops Q rest (a.put dst (.agg A)) w) :
    wpList Try.prog ops Q ({ dst := dst, op := .load 24 x, type := ty, pos := pos, after := after, guard := none } :: rest) a w :=
  wpList_load_row rfl 24 x rfl g hx 24 A (0, 0) _ hg Try.underlying24 rfl (by rw [hs]; exact rzE) h

theorem wpList_stE {ops : Array Oper} {rest : List Oper} {a : Act} {w : World} {Q : Exit → Act → World → Prop} {dst : Option Tmp} {x y : Operand} {ty : TypeId} {pos : String} {after : Array Edge} (g : Nat) (A B : Array Value) (hs : A.size = 7) (hb : B.size = 7) (h1 : A.all (·.oneCell') = true)
    (hx : a.eval x = .pointer (some ⟨g, 0, none⟩)) (hy : a.eval y = .agg A) (hg : w.heap[g]? = some (.cells B 24 (0, 0))) (h : wpList Try.prog ops Q rest (a.put dst undef) (w.setRow g A)) :
    wpList Try.prog ops Q ({ dst := dst, op := .store 24 x y, type := ty, pos := pos, after := after, guard := none } :: rest) a w :=
  wpList_store_row rfl 24 x y rfl g A hx hy 24 B hg (by rw [hs]; exact rzE) (by rw [hs, hb]) h1 h

/-- span, where the places are good. -/
theorem span_ok (v : Value) (d : List Int) (p q : Int) (w : World) (h : SB w v d) (hr : d.length ≤ 140737488351232) (h0 : 0 ≤ p) (h1 : p ≤ q) (h2 : q ≤ d.length) (h3 : 0 < d.length) (h4 : p < d.length) :
    Calls Try.prog 13 #[v, .int .i64 p, .int .i64 q] w fun e w' => ∃ a c, e = .returned (.tuple #[.slice a (sub d p.toNat (q - p).toNat).length c, .bool true]) ∧ OB w' w.heap.size (.slice a (sub d p.toNat (q - p).toNat).length c) (sub d p.toNat (q - p).toNat) ∧ Below w.heap.size w w' := by
  obtain ⟨ao, cap, rfl, q1, q2, q3⟩ := h.open11
  obtain ⟨b, o, rfl⟩ := q3 h3
  obtain ⟨k, rfl⟩ : ∃ k : Nat, p = k := ⟨p.toNat, by omega⟩
  obtain ⟨j, rfl⟩ : ∃ j : Nat, q = j := ⟨q.toNat, by omega⟩
  obtain ⟨n, hn⟩ : ∃ n, n = j - k := ⟨_, rfl⟩
  have HP : Hid (SB w (.slice (some ⟨b, o + k, none⟩) n (cap - k)) (sub d k n)) := h.part12 (by omega) (by omega)
  have HL : Hid ((sub d k n).length = n) := sub_len (by omega)
  have HE : Hid (((j : Int) - (k : Int)).toNat = n ∧ (k : Int).toNat = k) := ⟨by omega, by omega⟩
  rw [HE.out.1, HE.out.2]
  have HC := hide (copied_any _ (sub d k n) w HP.out (by rw [HL.out]; omega))
  have e4 : k ≤ j := by omega
  have e5 : ¬ cap = k := by omega
  have e6 : j - k = n := by omega
  have e7 : j ≤ cap := by omega
  have e8 : j ≤ d.length := by omega
  clear h q3 HP hn
  go_enter Try.func13, Try.ntmps13
  go_wp2_with fail
  refine HC.out.mono ?_
  rintro e w1 ⟨a, c, rfl, ho, hb⟩
  have HO := hide ho
  have HB := hide hb
  clear ho hb
  go_wp2
  go_ret2
  exact ⟨a, c, rfl, HO.out, HB.out⟩

/-- The empty end record in memory. -/
theorem e22_sb (w : World) : SB (w.alloc (.cells #[.int .u8 80, .int .u8 75, .int .u8 5, .int .u8 6, .int .u8 0, .int .u8 0, .int .u8 0, .int .u8 0, .int .u8 0, .int .u8 0, .int .u8 0, .int .u8 0, .int .u8 0, .int .u8 0, .int .u8 0, .int .u8 0, .int .u8 0, .int .u8 0, .int .u8 0, .int .u8 0, .int .u8 0, .int .u8 0] 5)) (.slice (some ⟨w.heap.size, 0, none⟩) 22 22) e22 := built_sb w e22 (by decide)

theorem e22_any (w : World) (v : Value) (h : SB w v e22) : Calls Try.prog 9 #[v, .int .i64 0] w fun e w' => e = .returned (.tuple #[.agg #[.int .i64 0, .int .i64 0, .int .i64 0, .int .i64 0, .int .i64 0, .int .i64 0, .string ⟨#[]⟩], .int .i64 22, .int .i64 0]) ∧ Below w.heap.size w w' := by
  refine (getEnd_any v e22 0 w h e22_byt (by unfold Ok64; omega) (by decide)).mono ?_
  rintro e w' ⟨rfl, hb⟩
  obtain ⟨g1, g2, g3⟩ := e22_get
  rw [g1, g2, g3]
  exact ⟨rfl, hb⟩
end Go.Proofs.Ytjjepgkcgbbmhab

