import Derived.Test.YtjmjjjpanioifaaGRps
namespace Go.Proofs.Ytjmjjjpanioifaa
open Go.RowKit Go.Maps
set_option maxRecDepth 20000
set_option linter.unusedVariables false
set_option linter.unusedSimpArgs false

theorem box7 {w : World} {c : Nat} {a0 a1 a2 a3 a4 a5 a6 : Value} {t : TypeId} {k : Nat × Nat} (h : w.heap[c]? = some (.cells #[a0, a1, a2, a3, a4, a5, a6] t k)) :
    w.cell? ⟨c, 0, none⟩ = some a0 ∧ w.cell? ⟨c, 1, none⟩ = some a1 ∧ w.cell? ⟨c, 2, none⟩ = some a2 ∧ w.cell? ⟨c, 3, none⟩ = some a3 ∧ w.cell? ⟨c, 4, none⟩ = some a4 ∧ w.cell? ⟨c, 5, none⟩ = some a5 ∧ w.cell? ⟨c, 6, none⟩ = some a6 :=
  ⟨box_cells h 0, box_cells h 1, box_cells h 2, box_cells h 3, box_cells h 4, box_cells h 5, box_cells h 6⟩

theorem box16 {w : World} {c : Nat} {a0 a1 a2 a3 a4 a5 a6 a7 a8 a9 a10 a11 a12 a13 a14 a15 : Value} {t : TypeId} {k : Nat × Nat} (h : w.heap[c]? = some (.cells #[a0, a1, a2, a3, a4, a5, a6, a7, a8, a9, a10, a11, a12, a13, a14, a15] t k)) :
    w.cell? ⟨c, 0, none⟩ = some a0 ∧ w.cell? ⟨c, 1, none⟩ = some a1 ∧ w.cell? ⟨c, 2, none⟩ = some a2 ∧ w.cell? ⟨c, 3, none⟩ = some a3 ∧ w.cell? ⟨c, 4, none⟩ = some a4 ∧ w.cell? ⟨c, 5, none⟩ = some a5 ∧ w.cell? ⟨c, 6, none⟩ = some a6 ∧ w.cell? ⟨c, 7, none⟩ = some a7 ∧ w.cell? ⟨c, 8, none⟩ = some a8 ∧ w.cell? ⟨c, 9, none⟩ = some a9 ∧ w.cell? ⟨c, 10, none⟩ = some a10 ∧ w.cell? ⟨c, 11, none⟩ = some a11 ∧ w.cell? ⟨c, 12, none⟩ = some a12 ∧ w.cell? ⟨c, 13, none⟩ = some a13 ∧ w.cell? ⟨c, 14, none⟩ = some a14 ∧ w.cell? ⟨c, 15, none⟩ = some a15 :=
  ⟨box_cells h 0, box_cells h 1, box_cells h 2, box_cells h 3, box_cells h 4, box_cells h 5, box_cells h 6, box_cells h 7, box_cells h 8, box_cells h 9, box_cells h 10, box_cells h 11, box_cells h 12, box_cells h 13, box_cells h 14, box_cells h 15⟩

/-- The end record. -/
structure Enr where
  disk : Int
  dirDisk : Int
  here : Int
  total : Int
  dirSize : Int
  dirAt : Int
  comment : ByteArray

def Enr.cs (x : Enr) : Array Value := #[.int .i64 x.disk, .int .i64 x.dirDisk, .int .i64 x.here, .int .i64 x.total, .int .i64 x.dirSize, .int .i64 x.dirAt, .string x.comment]

def Enr.v (x : Enr) : Value := .agg x.cs

structure Enr.Ok (x : Enr) : Prop where
  disk : Ok64 x.disk
  dirDisk : Ok64 x.dirDisk
  here : Ok64 x.here
  total : Ok64 x.total
  dirSize : Ok64 x.dirSize
  dirAt : Ok64 x.dirAt
  comment : x.comment.size ≤ 140737488351232

/-- A directory record. -/
structure Cen where
  loc : Loc
  made : Int
  disk : Int
  internal : Int
  external : Int
  at' : Int
  comment : ByteArray

def Cen.cs (c : Cen) : Array Value := #[.int .i64 c.loc.need, .int .i64 c.loc.flags, .int .i64 c.loc.method, .int .i64 c.loc.clock, .int .i64 c.loc.date, .int .u32 c.loc.sum, .int .i64 c.loc.packed, .int .i64 c.loc.size, .string c.loc.name, .string c.loc.extra, .int .i64 c.made, .int .i64 c.disk, .int .i64 c.internal, .int .i64 c.external, .int .i64 c.at', .string c.comment]

def Cen.v (c : Cen) : Value := .agg c.cs

structure Cen.Ok (c : Cen) : Prop where
  loc : c.loc.Ok
  made : Ok64 c.made
  disk : Ok64 c.disk
  internal : Ok64 c.internal
  external : Ok64 c.external
  at' : Ok64 c.at'
  comment : c.comment.size ≤ 140737488351232

/-- The items of the three records. -/
def lcI (l : Loc) : List Itm := [.num l.need 2, .num l.flags 2, .num l.method 2, .num l.clock 2, .num l.date 2, .num l.sum 4, .num l.packed 4, .num l.size 4, .num l.name.size 2, .num l.extra.size 2]

def loI (l : Loc) : List Itm := .num 67324752 4 :: (lcI l ++ [.txt l.name, .txt l.extra])

def ceI (c : Cen) : List Itm := .num 33639248 4 :: .num c.made 2 :: (lcI c.loc ++ [.num c.comment.size 2, .num c.disk 2, .num c.internal 2, .num c.external 4, .num c.at' 4, .txt c.loc.name, .txt c.loc.extra, .txt c.comment])

def enI (x : Enr) : List Itm := [.num 101010256 4, .num x.disk 2, .num x.dirDisk 2, .num x.here 2, .num x.total 2, .num x.dirSize 4, .num x.dirAt 4, .num x.comment.size 2, .txt x.comment]

theorem size_fit {s : ByteArray} (h : ¬ wide (s.size : Int) 2) : s.size ≤ 65535 := by unfold wide at h; omega

theorem loI_row (l : Loc) : (rowI (loI l)).length = 30 + l.name.size + l.extra.size := by
  simp only [loI, lcI, rowI, itB, List.flatMap_cons, List.flatMap_nil, List.cons_append, List.nil_append, List.length_append, length_bytesLE, length_strL, List.length_nil]
  omega

theorem ceI_row (c : Cen) : (rowI (ceI c)).length = 46 + c.loc.name.size + c.loc.extra.size + c.comment.size := by
  simp only [ceI, lcI, rowI, itB, List.flatMap_cons, List.flatMap_nil, List.cons_append, List.nil_append, List.length_append, length_bytesLE, length_strL, List.length_nil]
  omega

theorem enI_row (x : Enr) : (rowI (enI x)).length = 22 + x.comment.size := by
  simp only [enI, rowI, itB, List.flatMap_cons, List.flatMap_nil, List.cons_append, List.nil_append, List.length_append, length_bytesLE, length_strL, List.length_nil]
  omega

theorem loI_len (l : Loc) (h : fitI (loI l)) : ((rowI (loI l)).length : Int) ≤ 196651 := by
  have h1 := size_fit (h (.num l.name.size 2) (by simp [loI, lcI]))
  have h2 := size_fit (h (.num l.extra.size 2) (by simp [loI, lcI]))
  rw [loI_row]
  omega

theorem ceI_len (c : Cen) (h : fitI (ceI c)) : ((rowI (ceI c)).length : Int) ≤ 196651 := by
  have h1 := size_fit (h (.num c.loc.name.size 2) (by simp [ceI, lcI]))
  have h2 := size_fit (h (.num c.loc.extra.size 2) (by simp [ceI, lcI]))
  have h3 := size_fit (h (.num c.comment.size 2) (by simp [ceI, lcI]))
  rw [ceI_row]
  omega

theorem enI_len (x : Enr) (h : fitI (enI x)) : ((rowI (enI x)).length : Int) ≤ 196651 := by
  have h1 := size_fit (h (.num x.comment.size 2) (by simp [enI]))
  rw [enI_row]
  omega

theorem ok_size {s : ByteArray} (h : s.size ≤ 140737488351232) : Ok64 (s.size : Int) := by unfold Ok64; omega
end Go.Proofs.Ytjmjjjpanioifaa

