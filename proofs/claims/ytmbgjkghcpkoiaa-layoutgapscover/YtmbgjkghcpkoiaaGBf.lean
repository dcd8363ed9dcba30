import Derived.Test.YtmbgjkghcpkoiaaGSt
import Derived.Deep.AppendLies
import Derived.Deep.RegionLaw
namespace Go.Proofs.Ytmbgjkghcpkoiaa
open Go.RowKit Go.Maps
set_option maxRecDepth 20000

def Role (K : Nat → Nat) (v : Value) (r : Nat) : Prop := ∀ k, v.ownBlock = some k → K k = r

/-- What is not one's own stays. -/
structure Fr (K K' : Nat → Nat) (w w' : World) : Prop where
  os : w'.os = w.os
  tape : w'.tape = w.tape
  output : w'.output = w.output
  size : w.heap.size ≤ w'.heap.size
  block : ∀ k, k < w.heap.size → K k = 0 → w'.heap[k]? = w.heap[k]?
  role : ∀ k, k < w.heap.size → K' k = K k

theorem Fr.refl (K : Nat → Nat) (w : World) : Fr K K w w := ⟨rfl, rfl, rfl, Nat.le_refl _, fun _ _ _ => rfl, fun _ _ => rfl⟩

theorem Fr.trans {K K' K'' : Nat → Nat} {a b c : World} (h : Fr K K' a b) (k : Fr K' K'' b c) : Fr K K'' a c :=
  ⟨k.os.trans h.os, k.tape.trans h.tape, k.output.trans h.output, Nat.le_trans h.size k.size,
   fun i hi h0 => (k.block i (Nat.lt_of_lt_of_le hi h.size) (by rw [h.role i hi]; exact h0)).trans (h.block i hi h0),
   fun i hi => (k.role i (Nat.lt_of_lt_of_le hi h.size)).trans (h.role i hi)⟩

theorem Fr.of_below {K : Nat → Nat} {w w' : World} (h : Below w.heap.size w w') : Fr K K w w' :=
  ⟨h.os, h.tape, h.output, h.size, fun k hk _ => h.block k hk, fun _ _ => rfl⟩

theorem Fr.below {K K' : Nat → Nat} {w w' : World} {B : Nat} (h : Fr K K' w w') (hu : ∀ k, K k ≠ 0 → B ≤ k) (hB : B ≤ w.heap.size) : Below B w w' :=
  ⟨h.os, h.tape, h.output, h.size, fun k hk => h.block k (by omega) (by
    by_cases hz : K k = 0
    · exact hz
    · have := hu k hz; omega)⟩

theorem Fr.up {K K' : Nat → Nat} {w w' : World} {B : Nat} (h : Fr K K' w w') (hu : ∀ k, K k ≠ 0 → B ≤ k) (hB : B ≤ w.heap.size) : ∀ k, K' k ≠ 0 → B ≤ k := by
  intro k hk
  by_cases hl : k < w.heap.size
  · exact hu k (by rw [← h.role k hl]; exact hk)
  · omega

theorem Fr.drewN {K K' : Nat → Nat} {w w' : World} (h : Fr K K' w w') (n : Nat) : Fr K K' w (w'.drewN n) := ⟨h.os, h.tape, h.output, h.size, h.block, h.role⟩

structure BSt where
  l : List Int
  m : Int
  e : Int

def spot : Bool → Nat
  | true => 0
  | false => 1

end Go.Proofs.Ytmbgjkghcpkoiaa

namespace Go.Proofs.Ytmbgjkghcpkoiaa
open Go.RowKit Go.Maps
set_option maxRecDepth 20000

/-- The n low bytes, the lowest first. -/
def bytesLE (v : Int) : Nat → List Int
  | 0 => []
  | n + 1 => v % 256 :: bytesLE (v / 256) n

theorem length_bytesLE (v : Int) (n : Nat) : (bytesLE v n).length = n := by
  induction n generalizing v with
  | zero => rfl
  | succ n ih => simp [bytesLE, ih]

theorem bytesLE_snoc (v : Int) (n : Nat) : bytesLE v (n + 1) = bytesLE v n ++ [v / 256 ^ n % 256] := by
  induction n generalizing v with
  | zero => simp [bytesLE]
  | succ n ih =>
    rw [bytesLE, ih, bytesLE]
    simp only [List.cons_append]
    congr 3
    rw [Int.pow_succ, Int.mul_comm, Int.ediv_ediv_of_nonneg (by omega)]

theorem byt_bytesLE (v : Int) (n : Nat) : Byt (bytesLE v n) := by
  induction n generalizing v with
  | zero => intro i; simp [bytesLE]
  | succ n ih =>
    intro i
    cases i with
    | zero => simp [bytesLE]; omega
    | succ i => simpa [bytesLE] using ih (v / 256) i

def wide (v : Int) (n : Nat) : Prop := v < 0 ∨ 256 ^ n ≤ v

instance (v : Int) (n : Nat) : Decidable (wide v n) := by unfold wide; exact inferInstance

def numSt (st : BSt) (v : Int) (n : Nat) : BSt :=
  if st.e ≠ 0 then st else if wide v n then { st with e := 21 } else if st.m - st.l.length < n then { st with e := 22 } else { st with l := st.l ++ bytesLE v n }

end Go.Proofs.Ytmbgjkghcpkoiaa

namespace Go.Proofs.Ytmbgjkghcpkoiaa
open Go.RowKit Go.Maps
set_option maxRecDepth 20000

theorem shr_run (v : Int) (k : Nat) (hk : k < 4) (w : World) : (Op.shift BinOp.shr IntKind.i64 v IntKind.i64 (IntKind.i64.wrap (8 * (k : Int)))).run Try.prog w = .ok (.int .i64 (v / 256 ^ k)) w := by
  obtain rfl | rfl | rfl | rfl : k = 0 ∨ k = 1 ∨ k = 2 ∨ k = 3 := by omega
  all_goals rw [IntKind.wrap_i64]
  all_goals simp

end Go.Proofs.Ytmbgjkghcpkoiaa

namespace Go.Proofs.Ytmbgjkghcpkoiaa
open Go.RowKit Go.Maps
set_option maxRecDepth 20000

def strL (s : ByteArray) : List Int := s.data.toList.map fun b => (b.toNat : Int)

theorem length_strL (s : ByteArray) : (strL s).length = s.size := by
  unfold strL
  rw [List.length_map, Array.length_toList]
  rfl

theorem byt_strL (s : ByteArray) : Byt (strL s) := by
  intro i
  unfold strL
  generalize s.data.toList = l
  by_cases hi : i < l.length
  · have : (l.map fun b => (b.toNat : Int)).getD i 0 = ((l[i]).toNat : Int) := by simp [List.getD, hi]
    rw [this]
    have := (l[i]).toNat_lt
    omega
  · have : (l.map fun b => (b.toNat : Int)).getD i 0 = 0 := by
      have e : (l.map fun b => (b.toNat : Int))[i]? = none := List.getElem?_eq_none (by simpa using hi)
      simp [List.getD, e]
    rw [this]; decide

theorem src_str (w : World) (s : ByteArray) : Src Try.prog 1 9 (.string s) (strL s).length ((strL s).map (Value.int .u8)) w := by
  have h := Src.ofString (P := Try.prog) w Try.underlying9 s
  rw [length_strL]
  have e : (strL s).map (Value.int .u8) = byteCells s := by
    unfold strL byteCells
    rw [List.map_map]
    rfl
  rw [e]
  exact h

def textSt (st : BSt) (s : ByteArray) : BSt :=
  if st.e ≠ 0 then st else if st.m - st.l.length < s.size then { st with e := 22 } else { st with l := st.l ++ strL s }

end Go.Proofs.Ytmbgjkghcpkoiaa

