import Derived.Test.YtpmgnpfpnkmmbaaGreatDoorG40Wkn
import Derived.Deep.RegionLaw
namespace Go.Proofs.YtpmgnpfpnkmmbaaGreatDoor
open Go.RowKit Go.Maps
set_option maxRecDepth 20000
set_option linter.unusedVariables false

theorem infoPcq : (Tryz.prog.info? 54).map (fun i => (i.zero, i.size, i.bytes)) = some (some (.agg #[.int .i64 0, .bool false, .int .i64 0, .int .i64 0, .int .i64 0, .int .i64 0]), 6, 48) := by kernel_rfl

/-- append of a block, as a step of a region that draws its order. -/
theorem stepRowq {w : World} {ops : Array Oper} {o : Oper} {a : Act} {K : Act → World → Prop} {Q : Exit → Act → World → Prop} {E : Prop} (hgd : o.guard = none) (s x : Operand)
    (ho : o.op = .call { callee := .builtin .append, args := #[s, x], argTypes := #[24, 24] })
    (base : Nat) (v : Value) (R : List (Array Value)) (r : Array Value) (B c n m : Nat) (fr : Nat × Nat) (hs : a.eval s = v) (hown : ORp 54 6 w base v R)
    (hx : a.eval x = .slice (some ⟨B, 0, none⟩) 1 c) (hB : w.heap[B]? = some (.cells r 54 fr)) (hr : r.size = 6) (h1 : ∀ u ∈ r.toList, u.oneCell' = true)
    (hlen : R.length ≤ 268435456) (hm : m = R.length + 1) (hbase : base ≤ w.heap.size)
    (h : ∀ g cap w', ORp 54 6 w' base (.slice (some ⟨g, 0, none⟩) m cap) (R ++ [r]) → w.grownBy w' v.ownBlock → (v.ownBlock = some g ∨ g = w.heap.size) → K (a.put o.dst (.slice (some ⟨g, 0, none⟩) m cap)) w') :
    if Region.wanted o (yielded ops a.tmps) = true then Oper.wp Tryz.prog o a w K Q else E := by
  subst hm
  obtain ⟨i0, hi0, hz0, hz1, hz2⟩ := info_parts infoPcq
  have hw : Region.wanted o (yielded ops a.tmps) = true := by simp [Region.wanted, hgd]
  rw [if_pos hw]
  refine wp_append_lies _ s x 24 ho base 54 i0 _ 6 48 Tryz.underlying24 hi0 hz0 hz1 hz2 rfl (by omega) v R.length (flr R) hs hown.2 ⟨B, 0, none⟩ 1 c r.toList hx (by rw [Array.length_toList, hr, Nat.one_mul]) (World.news_of_block hB) h1 (by omega) (by unfold maxLen; omega) (by omega) hbase _ rfl fun g cap w' g1 g2 g4 _ => h g cap w' ⟨?_, ?_⟩ g2 g4
  · intro q hq
    rcases List.mem_append.1 hq with hq | hq
    · exact hown.1 q hq
    · rw [List.mem_singleton.1 hq]; exact hr
  · rw [List.length_append, flr_app]
    simpa [flr] using g1

/-- A call that may be given up, as a step of a region that draws its order. -/
theorem step_callP {P : Program} {ops : Array Oper} {o : Oper} {a : Act} {w : World} {K : Act → World → Prop} {Q : Exit → Act → World → Prop} {E : Prop} (hgd : o.guard = none) (x : Operand) (t : TypeId) (f : FuncId)
    (ho : o.op = .call { callee := .value (.func f), args := #[x], argTypes := #[t] }) (hcall : ∀ args w, (callFunc f args).run P w = .ok (.enter f args) w) (v : Value) (hx : a.eval x = v) {R : Value → World → Prop} {R' : List PanicEntry → World → Prop}
    (hc : Calls P f #[v] w fun e w' => (∃ u, e = .returned u ∧ R u w') ∨ ∃ ch, e = .panicked ch ∧ R' ch w') (hp : ∀ ch w', R' ch w' → Q (.panic ch) a w') (h : ∀ v w', R v w' → K (a.put o.dst v) w') :
    if Region.wanted o (yielded ops a.tmps) = true then Oper.wp P o a w K Q else E := by
  have hw : Region.wanted o (yielded ops a.tmps) = true := by simp [Region.wanted, hgd]
  rw [if_pos hw]
  have hrun : (execOp a.eval o).run P w = .ok (.enter f #[v]) w := by
    obtain ⟨dst, op, type, pos, after, guard⟩ := o
    simp only [] at ho
    subst ho
    rw [execOp_call_go, hcall]
    simp [hx]
  unfold Oper.wp
  rw [hrun, Oper.upon_enter]
  refine hc.mono fun e w'' hh => ?_
  rcases hh with ⟨v, rfl, hr⟩ | ⟨ch, rfl, hr⟩
  · exact h _ _ hr
  · exact hp _ _ hr
end Go.Proofs.YtpmgnpfpnkmmbaaGreatDoor

