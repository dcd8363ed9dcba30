import Derived.Test.YtmbgjkghcpkoiaaGSrw
import Derived.Test.YtmbgjkghcpkoiaaGAppL
import Derived.Laws.CopyRow
import Derived.Laws.MakeOwn
namespace Go.Proofs.Ytmbgjkghcpkoiaa
open Go.RowKit Go.Maps
set_option maxRecDepth 20000
set_option linter.unusedVariables false
set_option linter.unusedSimpArgs false

def flat (R : List (Array Value)) : List Value := R.flatMap Array.toList

theorem flat_cons (A : Array Value) (R : List (Array Value)) : flat (A :: R) = A.toList ++ flat R := by simp [flat]

theorem flat_len {n : Nat} : ∀ (R : List (Array Value)), (∀ A ∈ R, A.size = n) → (flat R).length = R.length * n
  | [], _ => by simp [flat]
  | A :: R, h => by
    rw [flat_cons, List.length_append, flat_len R (fun B hB => h B (List.mem_cons_of_mem _ hB)), Array.length_toList, h A (List.mem_cons_self ..), List.length_cons, Nat.add_mul]
    omega

theorem flat_get {n : Nat} : ∀ (R : List (Array Value)), (∀ A ∈ R, A.size = n) → ∀ (i j : Nat), i < R.length → j < n → (flat R)[i * n + j]? = (R.getD i #[]).toList[j]?
  | [], _, i, j, hi, _ => absurd hi (by simp)
  | A :: R, h, 0, j, _, hj => by
    have hA := h A (List.mem_cons_self ..)
    rw [flat_cons, Nat.zero_mul, Nat.zero_add, List.getElem?_append_left (by rw [Array.length_toList, hA]; exact hj)]
    rfl
  | A :: R, h, i + 1, j, hi, hj => by
    have hA := h A (List.mem_cons_self ..)
    rw [flat_cons, List.getElem?_append_right (by rw [Array.length_toList, hA, Nat.add_mul]; omega), Array.length_toList, hA, show (i + 1) * n + j - n = i * n + j by rw [Nat.add_mul]; omega]
    exact flat_get R (fun B hB => h B (List.mem_cons_of_mem _ hB)) i j (by simpa using hi) hj

theorem flat_one (R : List (Array Value)) (h : ∀ A ∈ R, A.all (·.oneCell') = true) : ∀ v ∈ flat R, v.oneCell' = true := by
  intro v hv
  obtain ⟨A, hA, hv2⟩ := List.mem_flatMap.1 hv
  exact (Array.all_eq_true_iff_forall_mem.1 (h A hA)) v (by simpa using hv2)

theorem run_copy_rows {P : Program} (w : World) (dT sT ty elem : TypeId) (g dCap n m : Nat) (a : Addr) (sCap : Nat) (cur : Array Value) (t : TypeId) (cs : List Value)
    (hu : P.underlying dT = some (.slice elem)) (hs : (P.info? elem).map (·.size) = some m) (hg : w.heap[g]? = some (.cells cur t (0, 0))) (hn : cs.length = n * m)
    (hsrc : ∀ j v, cs[j]? = some v → w.cell? (a.add j) = some v) (hfit : cs.length ≤ cur.size) (h1 : ∀ v ∈ cs, v.oneCell' = true) :
    (Builtin.copy_ #[dT, sT] ty #[.slice (some ⟨g, 0, none⟩) n dCap, .slice (some a) n sCap]).run P w = .ok (goInt n) (w.setRow g (cs ++ cur.toList.drop cs.length).toArray) := by
  have hl := run_loadCells_list (P := P) w a cs hsrc
  have hst := run_storeCells_at P g 0 t cs 0 cur w hg (by simpa using hfit) h1
  have hm : Nat.min n n = n := Nat.min_self n
  rw [hn] at hl
  cases hq : P.info? elem with
  | none => simp [hq] at hs
  | some i =>
    have hi : i.size = m := by simpa [hq] using hs
    simp [Builtin.copy_, run_underlying hu, Builtin.lenOf, Builtin.firstCells, sizeOf, typeInfo, hq, hi, hm, hl]
    simp at hst
    rw [hst]
    simp

theorem run_copy_zero {P : Program} (w : World) (dT sT ty elem : TypeId) (x : Addr) (ao : Option Addr) (dCap sCap : Nat) (hu : P.underlying dT = some (.slice elem)) (hs : ((P.info? elem).map (·.size)).isSome = true) :
    (Builtin.copy_ #[dT, sT] ty #[.slice (some x) 0 dCap, .slice ao 0 sCap]).run P w = .ok (goInt 0) w := by
  cases hq : P.info? elem with
  | none => simp [hq] at hs
  | some i =>
    cases ao with
    | none => simp [Builtin.copy_, run_underlying hu, Builtin.lenOf, Builtin.firstCells, sizeOf, typeInfo, hq, storeCells]
    | some a =>
      have hl := run_loadCells_list (P := P) w a [] (fun j v h => by simp at h)
      simp at hl
      simp [Builtin.copy_, run_underlying hu, Builtin.lenOf, Builtin.firstCells, sizeOf, typeInfo, hq, hl, storeCells]

theorem sr_cells {n : Nat} {w : World} {b o : Nat} {R : List (Array Value)} (hz : ∀ A ∈ R, A.size = n) (hn : 0 < n) (h : ∀ i, i < R.length → w.rangeAt b (o + i * n) (R.getD i #[]).toList) : ∀ j v, (flat R)[j]? = some v → w.cell? ((⟨b, o, none⟩ : Addr).add j) = some v := by
  intro j v hj
  have hl : j < (flat R).length := (List.getElem?_eq_some_iff.1 hj).1
  rw [flat_len R hz] at hl
  have hi : j / n < R.length := Nat.div_lt_of_lt_mul (by rw [Nat.mul_comm]; exact hl)
  have hm : j % n < n := Nat.mod_lt _ hn
  have e : j / n * n + j % n = j := Nat.div_add_mod' j n
  have hg := flat_get R hz (j / n) (j % n) hi hm
  rw [e, hj] at hg
  have := h (j / n) hi (j % n) v hg.symm
  rw [Addr.add_lit]
  rw [Nat.add_assoc, e] at this
  exact this

/-- A full row of its own is read. -/
theorem sr_full {n : Nat} {w : World} {g : Nat} {R : List (Array Value)} {t : TypeId} {X : List Value} {cap : Nat} (hz : ∀ A ∈ R, A.size = n) (hg : w.heap[g]? = some (.cells (flat R ++ X).toArray t (0, 0))) (hc : R.length ≤ cap) (hm : cap ≤ 9223372036854775807) :
    SR n w (.slice (some ⟨g, 0, none⟩) R.length cap) R := by
  refine ⟨some ⟨g, 0, none⟩, cap, rfl, hc, hm, fun _ => ⟨g, 0, rfl, (Array.getElem?_eq_some_iff.1 hg).1, fun i hi j u hu => ?_⟩⟩
  have hA : (R.getD i #[]).size = n := by
    have : R.getD i #[] ∈ R := by simp [List.getD, hi]
    exact hz _ this
  have hj : j < n := by
    have := (List.getElem?_eq_some_iff.1 hu).1
    rw [Array.length_toList, hA] at this
    exact this
  have h1 := flat_get R hz i j hi hj
  have h2 : i * n + j < (flat R).length := by
    rw [flat_len R hz]
    calc i * n + j < i * n + n := by omega
      _ = (i + 1) * n := by rw [Nat.add_mul]; omega
      _ ≤ R.length * n := Nat.mul_le_mul_right _ hi
  simp only [World.cell?, hg, Nat.zero_add]
  simp only [List.getElem?_toArray, List.getElem?_append_left h2, h1]
  exact hu

theorem infoC : (Try.prog.info? 30).map (fun i => (i.zero, i.size, i.bytes)) = some (some (.agg #[.int .i64 0, .int .i64 0, .int .i64 0, .int .i64 0, .int .i64 0, .int .u32 0, .int .i64 0, .int .i64 0, .string ⟨#[]⟩, .string ⟨#[]⟩, .int .i64 0, .int .i64 0, .int .i64 0, .int .i64 0, .int .i64 0, .string ⟨#[]⟩]), 16, 152) := by kernel_rfl
end Go.Proofs.Ytmbgjkghcpkoiaa

