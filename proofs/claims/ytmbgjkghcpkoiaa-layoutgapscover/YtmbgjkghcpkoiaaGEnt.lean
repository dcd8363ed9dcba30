import Derived.Test.YtmbgjkghcpkoiaaGSrw
import Derived.Test.YtmbgjkghcpkoiaaGRwl
import Derived.Deep.WholeRow
import Derived.Deep.MidRow
import Derived.BigFrame
namespace Go.Proofs.Ytmbgjkghcpkoiaa
open Go.RowKit Go.Maps
set_option maxRecDepth 20000
set_option linter.unusedVariables false
set_option linter.unusedSimpArgs false

/-- An entry. -/
structure Ent where
  cen : Cen
  lx : ByteArray
  frm : Int
  dat : Int
  til : Int

def Ent.cs (e : Ent) : Array Value := #[.int .i64 e.cen.loc.need, .int .i64 e.cen.loc.flags, .int .i64 e.cen.loc.method, .int .i64 e.cen.loc.clock, .int .i64 e.cen.loc.date, .int .u32 e.cen.loc.sum, .int .i64 e.cen.loc.packed, .int .i64 e.cen.loc.size, .string e.cen.loc.name, .string e.cen.loc.extra, .int .i64 e.cen.made, .int .i64 e.cen.disk, .int .i64 e.cen.internal, .int .i64 e.cen.external, .int .i64 e.cen.at', .string e.cen.comment, .string e.lx, .int .i64 e.frm, .int .i64 e.dat, .int .i64 e.til]

def Ent.v (e : Ent) : Value := .agg e.cs

def Ent.zero : Ent := ⟨Cen.zero, ⟨#[]⟩, 0, 0, 0⟩

theorem rsN (l : Ent) : l.cs.size = 20 := rfl

theorem roN (l : Ent) : l.cs.all (·.oneCell') = true := by simp [Ent.cs, Value.oneCell']

theorem rzN : (Try.prog.info? 32).map (·.size) = some 20 := by kernel_rfl

theorem infoN : (Try.prog.info? 32).map (fun i => (i.zero, i.size, i.bytes)) = some (some (.agg #[.int .i64 0, .int .i64 0, .int .i64 0, .int .i64 0, .int .i64 0, .int .u32 0, .int .i64 0, .int .i64 0, .string ⟨#[]⟩, .string ⟨#[]⟩, .int .i64 0, .int .i64 0, .int .i64 0, .int .i64 0, .int .i64 0, .string ⟨#[]⟩, .string ⟨#[]⟩, .int .i64 0, .int .i64 0, .int .i64 0]), 20, 192) := by kernel_rfl

theorem wpList_stN {ops : Array Oper} {rest : List Oper} {a : Act} {w : World} {Q : Exit → Act → World → Prop} {dst : Option Tmp} {x y : Operand} {ty : TypeId} {pos : String} {after : Array Edge} (g : Nat) (A B : Array Value) (hs : A.size = 20) (hb : B.size = 20) (h1 : A.all (·.oneCell') = true)
    (hx : a.eval x = .pointer (some ⟨g, 0, none⟩)) (hy : a.eval y = .agg A) (hg : w.heap[g]? = some (.cells B 32 (0, 0))) (h : wpList Try.prog ops Q rest (a.put dst undef) (w.setRow g A)) :
    wpList Try.prog ops Q ({ dst := dst, op := .store 32 x y, type := ty, pos := pos, after := after, guard := none } :: rest) a w :=
  wpList_store_row rfl 32 x y rfl g A hx hy 32 B hg (by rw [hs]; exact rzN) (by rw [hs, hb]) h1 h

theorem wpList_lmN {ops : Array Oper} {rest : List Oper} {a : Act} {w : World} {Q : Exit → Act → World → Prop} {dst : Option Tmp} {x : Operand} {ty : TypeId} {pos : String} {after : Array Edge} (b p : Nat) (A : Array Value) (hs : A.size = 20)
    (hx : a.eval x = .pointer (some ⟨b, p, none⟩)) (hg : w.rangeAt b p A.toList) (h : wpList Try.prog ops Q rest (a.put dst (.agg A)) w) :
    wpList Try.prog ops Q ({ dst := dst, op := .load 32 x, type := ty, pos := pos, after := after, guard := none } :: rest) a w :=
  wpList_load_mid rfl 32 x rfl b p hx A.toList _ hg Try.underlying32 rfl (by rw [Array.length_toList, hs]; exact rzN) (by simpa using h)

/-- The same behind an open guard. -/
theorem wpList_lgN {ops : Array Oper} {rest : List Oper} {a : Act} {w : World} {Q : Exit → Act → World → Prop} {dst : Option Tmp} {x : Operand} {ty : TypeId} {pos : String} {after : Array Edge} {gd : Nat × Bool} (b p : Nat) (A : Array Value) (hs : A.size = 20)
    (hw : Region.wanted { dst := dst, op := .load 32 x, type := ty, pos := pos, after := after, guard := some gd } (yielded ops a.tmps) = true)
    (hx : a.eval x = .pointer (some ⟨b, p, none⟩)) (hg : w.rangeAt b p A.toList) (h : wpList Try.prog ops Q rest (a.put dst (.agg A)) w) :
    wpList Try.prog ops Q ({ dst := dst, op := .load 32 x, type := ty, pos := pos, after := after, guard := some gd } :: rest) a w :=
  BigFrame.wpList_want hw fun K hK => wp_load_mid 32 x rfl b p hx A.toList _ hg Try.underlying32 rfl (by rw [Array.length_toList, hs]; exact rzN) (hK _ _ (by simpa using h))

set_option maxHeartbeats 4000000 in
theorem ent_eq (e0 e1 e2 e3 e4 e5 e6 e7 e10 e11 e12 e13 e14 e17 e18 e19 : Int) (e8 e9 e15 e16 : ByteArray) (W : World) :
    (Op.equalIn 10000 32 (.agg #[.int .i64 e0, .int .i64 e1, .int .i64 e2, .int .i64 e3, .int .i64 e4, .int .u32 e5, .int .i64 e6, .int .i64 e7, .string e8, .string e9, .int .i64 e10, .int .i64 e11, .int .i64 e12, .int .i64 e13, .int .i64 e14, .string e15, .string e16, .int .i64 e17, .int .i64 e18, .int .i64 e19]) (.agg #[.int .i64 e0, .int .i64 e1, .int .i64 e2, .int .i64 e3, .int .i64 e4, .int .u32 e5, .int .i64 e6, .int .i64 e7, .string e8, .string e9, .int .i64 e10, .int .i64 e11, .int .i64 e12, .int .i64 e13, .int .i64 e14, .string e15, .string e16, .int .i64 e17, .int .i64 e18, .int .i64 e19])).run Try.prog W = .ok true W := by
  go_simp

theorem eqN (l : Ent) (W : World) : (Op.equalIn 10000 32 (.agg l.cs) (.agg l.cs)).run Try.prog W = .ok true W := ent_eq _ _ _ _ _ _ _ _ _ _ _ _ _ _ _ _ _ _ _ _ W

theorem csN_get {ls : List Ent} {i : Nat} (h : i < ls.length) : (ls.map Ent.cs).getD i #[] = (ls.getD i Ent.zero).cs := by simp [List.getD, h]

theorem memN {ls : List Ent} {i : Nat} (h : i < ls.length) : ls.getD i Ent.zero ∈ ls := by simp [List.getD, h]

theorem csN_sizes (cs : List Ent) : ∀ A ∈ cs.map Ent.cs, A.size = 20 := fun A hA => by
  obtain ⟨c, -, rfl⟩ := List.mem_map.1 hA
  exact rsN c

theorem csN_ones (cs : List Ent) : ∀ A ∈ cs.map Ent.cs, A.all (·.oneCell') = true := fun A hA => by
  obtain ⟨c, -, rfl⟩ := List.mem_map.1 hA
  exact roN c

def mk77N : Array Value := #[.int .i64 0, .int .i64 0, .int .i64 0, .int .i64 0, .int .i64 0, .int .u32 0, .int .i64 0, .int .i64 0, .string ⟨#[]⟩, .string ⟨#[]⟩, .int .i64 0, .int .i64 0, .int .i64 0, .int .i64 0, .int .i64 0, .string ⟨#[]⟩, .string ⟨#[]⟩, .int .i64 (-77), .int .i64 0, .int .i64 0]

theorem mk77N_one : mk77N.all (·.oneCell') = true := by simp [mk77N, Value.oneCell']

theorem mk77N_eq (W : World) : (Op.equalIn 10000 32 (.agg mk77N) (.agg mk77N)).run Try.prog W = .ok true W := eqN ⟨Cen.zero, ⟨#[]⟩, -77, 0, 0⟩ W

theorem range_lastN {w : World} {g n : Nat} {R : List (Array Value)} {B : Array Value} {X : List Value} {t : TypeId} (hz : ∀ A ∈ R, A.size = n) (hg : w.heap[g]? = some (.cells (flat R ++ (B.toList ++ X)).toArray t (0, 0))) : w.rangeAt g (R.length * n) B.toList := by
  intro j u hu
  have hl := flat_len R hz
  have hj := (List.getElem?_eq_some_iff.1 hu).1
  simp only [World.cell?, hg]
  simp only [List.getElem?_toArray]
  rw [List.getElem?_append_right (by omega), hl, Nat.add_sub_cancel_left, List.getElem?_append_left hj]
  exact hu

theorem range_low {w w' : World} {b p : Nat} {cs : List Value} (h : w.rangeAt b p cs) (hb : Below w.heap.size w w') : w'.rangeAt b p cs := fun j u hu => by
  have hc0 := h j u hu
  rw [hb.cell (World.block_lt_of_cell? _ _ hc0)]
  exact hc0

theorem range_cell {w : World} {b p : Nat} {A : Array Value} (h : w.rangeAt b p A.toList) {i : Nat} {u : Value} (hu : A[i]? = some u) : w.cell? ⟨b, p + i, none⟩ = some u := h i u (by simpa using hu)
end Go.Proofs.Ytmbgjkghcpkoiaa

