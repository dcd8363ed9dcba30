import Derived.Test.YthlbmpmbbdaboaaWr2
import Derived.Test.YthlbmpmbbdaboaaWalk1
namespace Go.Proofs.Ythlbmpmbbdaboaa
open Go.RowKit Go.Maps
set_option maxRecDepth 20000

theorem zeroCells_byte (n : Nat) : (Builtin.zeroCells #[Value.int .u8 0] n) = (List.replicate n (Value.int .u8 0)).toArray := by
  have e : ∀ k : Nat, [Value.int IntKind.u8 0][k % 1]?.getD default = Value.int .u8 0 := fun k => by simp [Nat.mod_one]
  apply Array.ext'
  simp [Builtin.zeroCells, e, List.map_const']

set_option linter.unusedSimpArgs false in
/-- append of zeros onto a full slice: a new block. -/
theorem run_app_zeros (w : World) (ty : TypeId) (v : Value) (n : Nat) (xs : List Value) (hv : (v = .slice none 0 0 ∧ n = 0 ∧ xs = []) ∨ ∃ g, v = .slice (some ⟨g, 0, none⟩) n n ∧ w.heap[g]? = some (.cells xs.toArray 5 (0, 0)) ∧ xs.length = n) (m : Nat) (hm : 0 < m) (hb : n + m ≤ 140737488355328) :
    ∃ C w', (Builtin.append_ #[73, 3] ty #[v, .int .i64 m]).run Try.prog w = .ok (.slice (some ⟨w.heap.size, 0, none⟩) (n + m) C) w' ∧ n + m ≤ C ∧ C ≤ maxLen ∧ (∃ zs : List Value, w'.heap[w.heap.size]? = some (.cells (xs ++ zs).toArray 5 (0, 0)) ∧ xs.length + zs.length = C) ∧ Below w.heap.size w w' := by
  obtain ⟨i, hi, hz, hsize, hby⟩ := info_parts info5
  have ht := Try.underlying73
  have hti := Try.underlying3
  have hwr : IntKind.i64.wrap (m : Int) = m := by rw [IntKind.wrap_i64]; omega
  have hneg : ¬ ((m : Int) < 0) := by omega
  have hbig : ¬ (281474976710656 < (m : Int)) := by omega
  have hm0 : m ≠ 0 := by omega
  have hge := fun old => grownCap_ge w (n + m) old 5
  have hcm := fun old => grownCap_le_maxLen w (n + m) old 5 (by unfold maxLen; omega)
  have has : ∀ W : World, (asInt (Value.int .i64 m)).run Try.prog W = .ok (m : Int) W := fun _ => rfl
  have hcl : (Value.int .u8 0).cells = #[Value.int .u8 0] := rfl
  have grown : ∀ old : Nat, xs.length = n →
      (∃ zs : List Value, (w.drew.alloc (.cells (xs.toArray ++ (List.replicate m (Value.int .u8 0)).toArray ++ (List.replicate (grownCap w (n + m) old 5 - (n + m)) (Value.int .u8 0)).toArray) 5)).heap[w.heap.size]? = some (.cells (xs ++ zs).toArray 5 (0, 0)) ∧ xs.length + zs.length = grownCap w (n + m) old 5) ∧
      Below w.heap.size w (w.drew.alloc (.cells (xs.toArray ++ (List.replicate m (Value.int .u8 0)).toArray ++ (List.replicate (grownCap w (n + m) old 5 - (n + m)) (Value.int .u8 0)).toArray) 5)) := by
    intro old hxl
    have h1 := hge old
    refine ⟨⟨List.replicate m (Value.int .u8 0) ++ List.replicate (grownCap w (n + m) old 5 - (n + m)) (Value.int .u8 0), ?_, ?_⟩, (Below.refl _ _).drew.alloc (Nat.le_refl _) _⟩
    · refine (heap_alloc_new w.drew _).trans ?_
      simp
    · simp; omega
  rcases hv with ⟨rfl, rfl, rfl⟩ | ⟨g, rfl, hg, hxl⟩
  · have h48 : ¬ (281474976710656 < Builtin.nextslicecap m 0) := by rw [nextslicecap_zero hm]; omega
    have hgr := grown 0 rfl
    have h1 := hge 0
    simp only [Nat.zero_add, List.nil_append] at hgr h1 ⊢
    refine ⟨_, _, ?_, h1, by simpa using hcm 0, hgr.1, hgr.2⟩
    have hle : ¬ ((m : Int) ≤ 0) := by omega
    simp [Builtin.append_, run_underlying ht, run_underlying hti, has, hcl, hle, sizeOf, typeInfo, zeroValue, hi, hz, hsize, hby, hwr, hneg, hbig, hm0, h48, zeroCells_byte, Question.forced, run_firstCells_none, newRow, grownCap]
    intro h
    omega
  · have h48 : ¬ (281474976710656 < Builtin.nextslicecap (n + m) n) := by have := growslice_fits (need := n + m) (old := n) (bytes := 1) (by omega) (by omega); omega
    have holds : ∀ j u, xs[j]? = some u → w.cell? ((⟨g, 0, none⟩ : Addr).add j) = some u := fun j u hj => by
      rw [Addr.add_lit]
      unfold World.cell?
      simp only [hg, Nat.zero_add]
      simpa using hj
    have hfo := run_firstCells_some (P := Try.prog) w.drew 1 n ⟨g, 0, none⟩ n n xs (by omega) (by simpa using holds)
    have h63' : ¬ (9223372036854775807 < (n : Int) + (m : Int)) := by omega
    have hroom : ¬ n + m ≤ n := by omega
    have hgr := grown n hxl
    refine ⟨_, _, ?_, hge n, hcm n, hgr.1, hgr.2⟩
    simp [Builtin.append_, run_underlying ht, run_underlying hti, has, hcl, sizeOf, typeInfo, zeroValue, hi, hz, hsize, hby, hwr, hneg, hbig, hm0, hroom, h48, h63', zeroCells_byte, Question.forced, hfo, newRow, grownCap]

theorem wpList_app_zeros {w : World} {ops : Array Oper} {rest : List Oper} {o : Oper} {a : Act} {Q : Exit → Act → World → Prop} (hgd : o.guard = none) (s x : Operand)
    (ho : o.op = .call { callee := .builtin .append, args := #[s, x], argTypes := #[73, 3] }) (v : Value) (n : Nat) (xs : List Value) (hs : a.eval s = v) (hv : (v = .slice none 0 0 ∧ n = 0 ∧ xs = []) ∨ ∃ g, v = .slice (some ⟨g, 0, none⟩) n n ∧ w.heap[g]? = some (.cells xs.toArray 5 (0, 0)) ∧ xs.length = n) (m : Nat) (M : Int) (hx : a.eval x = .int .i64 M) (hM : M = m) (hm : 0 < m) (hb : n + m ≤ 140737488355328)
    (h : ∀ C w', n + m ≤ C → C ≤ maxLen → (∃ zs : List Value, w'.heap[w.heap.size]? = some (.cells (xs ++ zs).toArray 5 (0, 0)) ∧ xs.length + zs.length = C) → Below w.heap.size w w' → wpList Try.prog ops Q rest (a.put o.dst (.slice (some ⟨w.heap.size, 0, none⟩) (n + m) C)) w') :
    wpList Try.prog ops Q (o :: rest) a w := by
  refine wpList_plain hgd fun K hK => ?_
  subst hM
  obtain ⟨C, w', hr, h1, h2, h3, h4⟩ := run_app_zeros w o.type v n xs hv m hm hb
  unfold Oper.wp
  simp [execOp, ho, resolve, invoke, builtin, hs, hx, hr, Result.andThen]
  exact hK _ _ (h C w' h1 h2 h3 h4)

end Go.Proofs.Ythlbmpmbbdaboaa
