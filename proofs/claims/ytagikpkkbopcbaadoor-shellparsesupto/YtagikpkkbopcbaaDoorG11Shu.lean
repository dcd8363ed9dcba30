import Derived.Test.YtagikpkkbopcbaaDoorG10Sht
namespace Go.Proofs.YtagikpkkbopcbaaDoor
open Go.RowKit Go.Maps
set_option maxRecDepth 20000
set_option linter.unusedVariables false
set_option linter.unusedSimpArgs false

theorem sfx_alone (s : ByteArray) (a k : Nat) (h : a + k ≤ s.size) : alone (sfx s a) k ↔ alone s (a + k) := by
  unfold alone
  have es := sfx_size s a
  by_cases c : a + k < s.size
  · have e := sfx_at s a k c
    rw [e, es]
    have q : (k < s.size - a) = (a + k < s.size) := by apply propext; omega
    rw [q]
  · have q1 : ¬ k < (sfx s a).size := by omega
    constructor
    · intro _ z; exact c z.1
    · intro _ z; exact q1 z.1

def Wans (a : Nat) (o : Option (ByteArray × Nat)) (e : Ending) : Prop :=
  (o = none ∧ ∃ x, e = .returned (.tuple #[.string x, .int .i64 0])) ∨ (∃ wd k, o = some (wd, k) ∧ e = .returned (.tuple #[.string wd, .int .i64 ((k : Int) - (a : Int))]))

set_option maxHeartbeats 4000000 in
theorem wordAhead_any (s : ByteArray) (a : Nat) (w : World) (ha : a < s.size) (hs : s.size ≤ 1048576) (hb : bI s a ≠ 32) (h : Esy w) : Calls Tryd.prog 7 #[.string (s.extract a s.size)] w fun e w' => (∃ o, Wd s a o ∧ Wans a o e) ∧ Below w.heap.size w w' := by
  have es := sfx_size s a
  have e0 := sfx_at s a 0 (by omega)
  rw [Nat.add_zero] at e0
  have x := fun wx => run_ix (sfx s a) 0 (by omega) 0 rfl wx
  rw [e0] at x
  have HQ := hide (quotedWord_any (sfx s a) w (by omega) (by omega) h)
  have HBW := hide (bareWord_any (sfx s a) w (by omega))
  have HQA : Hid (bI s a = 34 → ∀ r e, Qt (sfx s a) 1 [] r → Qans (sfx s a) r e → ∃ o, Wd s a o ∧ Wans a o e) := fun c r e q1 q2 => by
    have q3 := q1.shift (by omega)
    rcases q2 with ⟨rfl, rfl⟩ | ⟨v, k, rfl, q2⟩
    · exact ⟨none, .noq c q3, .inl ⟨rfl, _, rfl⟩⟩
    · have hk := q1.ends_in _ _ rfl
      rcases q2 with ⟨q4, rfl⟩ | ⟨q4, rfl⟩
      · refine ⟨_, .qt c q3 ((sfx_alone s a k (by omega)).1 q4), .inr ⟨_, _, rfl, ?_⟩⟩
        have : (((a + k : Nat) : Int)) - (a : Int) = (k : Int) := by omega
        rw [this]
      · exact ⟨none, .nol c q3 (fun z => q4 ((sfx_alone s a k (by omega)).2 z)), .inl ⟨rfl, _, rfl⟩⟩
  have HBA : Hid (bI s a ≠ 34 → ∀ k e, Bare (sfx s a) 0 k → ((alone (sfx s a) k ∧ e = .returned (.tuple #[.string ((sfx s a).extract 0 k), .int .i64 (k : Int)])) ∨ (¬ alone (sfx s a) k ∧ e = .returned (.tuple #[.string ⟨#[]⟩, .int .i64 0]))) → ∃ o, Wd s a o ∧ Wans a o e) := fun c k e q1 q2 => by
    have q3 := q1.shift (by omega)
    rw [Nat.add_zero] at q3
    have hk := q1.le
    rcases q2 with ⟨q4, rfl⟩ | ⟨q4, rfl⟩
    · have q5 := (sfx_alone s a k (by omega)).1 q4
      have hk0 : a + k ≠ a := fun z => by
        have : k = 0 := by omega
        subst this
        rw [Nat.add_zero] at q5
        exact q5 ⟨ha, hb⟩
      refine ⟨_, .br c q3 hk0 q5, .inr ⟨_, _, rfl, ?_⟩⟩
      rw [sfx_ext s a 0 k (by omega), Nat.add_zero]
      have : (((a + k : Nat) : Int)) - (a : Int) = (k : Int) := by omega
      rw [this]
    · exact ⟨none, .nob c q3 (.inr (fun z => q4 ((sfx_alone s a k (by omega)).2 z))), .inl ⟨rfl, _, rfl⟩⟩
  obtain ⟨b, HB⟩ : ∃ b, Hid (bI s a = b) := ⟨_, rfl⟩
  rw [HB.out] at x HQA HBA
  have hsz : 0 < (sfx s a).size := by omega
  rw [show s.extract a s.size = sfx s a from rfl]
  obtain ⟨t, ht⟩ : ∃ t, sfx s a = t := ⟨_, rfl⟩
  rw [ht] at x HQ HBW HQA HBA hsz ⊢
  clear ht es e0 h HB
  by_cases c : b = 34
  · have HQ1 := hide (HQA.out c)
    subst c
    clear HQA HBA HBW
    go_enter Tryd.func7, Tryd.ntmps7
    go_wp2_with fail
    refine HQ.out.mono ?_
    rintro e w1 ⟨⟨r, q1, q2⟩, hb1⟩
    have hans := HQ1.out r e q1 q2
    have HF := hide (And.intro hans hb1)
    rcases q2 with ⟨_, rfl⟩ | ⟨v, k, _, ⟨_, rfl⟩ | ⟨_, rfl⟩⟩
    all_goals
      clear hans hb1 q1 HQ1 HQ
      go_wp2
      go_ret2
      exact HF.out
  · have c' : (b == 34) = false := by simpa using c
    have HQ1 := hide (HBA.out c)
    clear HQA HBA HQ
    go_enter Tryd.func7, Tryd.ntmps7
    go_wp2_with fail
    refine HBW.out.mono ?_
    rintro e w1 ⟨⟨k, q1, q2⟩, hw1⟩
    have hans := HQ1.out k e q1 q2
    have HF : Hid ((∃ o, Wd s a o ∧ Wans a o e) ∧ Below w.heap.size w w1) := ⟨hans, by rw [hw1]; exact Below.refl _ _⟩
    rcases q2 with ⟨_, rfl⟩ | ⟨_, rfl⟩
    all_goals
      clear hans hw1 q1 HQ1 HBW
      go_wp2
      go_ret2
      exact HF.out

def OT (w : World) (base : Nat) (v : Value) (ws : List ByteArray) : Prop := w.ownsRow base 9 1 v ws.length (ws.map Value.string)

theorem OT.lt {w : World} {base : Nat} {v : Value} {ws : List ByteArray} (h : OT w base v ws) : ∀ k, v.ownBlock = some k → base ≤ k ∧ k < w.heap.size := World.ownsRow.lt h

theorem OT.shape {w : World} {base : Nat} {v : Value} {ws : List ByteArray} (h : OT w base v ws) : ∃ a c, v = .slice a ws.length c := by
  rcases h.2 with ⟨rfl, h0⟩ | ⟨g, cap, cur, rfl, _⟩
  · exact ⟨none, 0, by rw [h0]⟩
  · exact ⟨_, _, rfl⟩

theorem OT.move {w w' : World} {base : Nat} {v : Value} {ws : List ByteArray} (h : OT w base v ws) (hb : ∀ k, v.ownBlock = some k → w'.heap[k]? = w.heap[k]?) : OT w' base v ws := by
  refine ⟨h.1, ?_⟩
  rcases h.2 with h0 | ⟨g, cap, cur, rfl, h1, h2, h3⟩
  · exact .inl h0
  · exact .inr ⟨g, cap, cur, rfl, h1, (hb g rfl).trans h2, h3⟩

theorem OT.below {w w' : World} {base B : Nat} {v : Value} {ws : List ByteArray} (h : OT w base v ws) (hb : Below B w w') (hB : w.heap.size ≤ B) : OT w' base v ws := h.move fun k hk => hb.block k (Nat.lt_of_lt_of_le (h.lt k hk).2 hB)

theorem OT.alloc {w : World} {base : Nat} {v : Value} {ws : List ByteArray} (h : OT w base v ws) (o : Obj) : OT (w.alloc o) base v ws := h.move fun k hk => Below.heap_alloc w o k (h.lt k hk).2

theorem wpList_strs {w : World} {ops : Array Oper} {rest : List Oper} {o : Oper} {a : Act} {Q : Exit → Act → World → Prop} (hgd : o.guard = none) (s x : Operand)
    (ho : o.op = .call { callee := .builtin .append, args := #[s, x], argTypes := #[22, 22] }) (base : Nat) (v : Value) (ws : List ByteArray) (hv : a.eval s = v) (hown : OT w base v ws) (ad : Addr) (c : Nat) (u : ByteArray) (hx : a.eval x = .slice (some ad) 1 c) (hu : w.cell? ad = some (.string u))
    (hb : ws.length ≤ 1048576) (hbase : base ≤ w.heap.size)
    (h : ∀ v' w', OT w' base v' (ws ++ [u]) → w.grownBy w' v.ownBlock → wpList Tryd.prog ops Q rest (a.put o.dst v') w') : wpList Tryd.prog ops Q (o :: rest) a w := by
  refine wpList_plain hgd fun K hK => ?_
  obtain ⟨i, hi⟩ : ∃ i, Tryd.prog.info? 9 = some i := ⟨_, rfl⟩
  have hi2 : (Tryd.prog.info? 9).map (fun i => (i.zero, i.size, i.bytes)) = some (some (.string ⟨#[]⟩), 1, 16) := by kernel_rfl
  rw [hi] at hi2
  simp only [Option.map_some, Option.some.injEq, Prod.mk.injEq] at hi2
  obtain ⟨z1, z2, z3⟩ := hi2
  obtain ⟨v', w', hr, h2, hg, _, hl⟩ := run_append_own_at (P := Tryd.prog) w base 22 o.type 9 i (.string ⟨#[]⟩) 1 16 Tryd.underlying22 hi z1 z2 z3 rfl (by omega) v ws.length (ws.map Value.string) hown ad 1 c [.string u] rfl (fun j u' hj => by
    rcases j with _ | j
    · simp at hj
      subst hj
      rw [show ad.add 0 = ad from by unfold Addr.add; cases ad; rename_i b of k; cases k <;> rfl]
      exact hu
    · simp at hj) (fun u' hu' => by rw [List.mem_singleton.1 hu']; rfl) (by unfold maxLen; omega) (by omega) hbase
  unfold Oper.wp
  simp [execOp, ho, resolve, invoke, builtin, hv, hx, hr, Result.andThen]
  refine hK _ _ (h v' w' ?_ hg)
  unfold OT
  rw [List.length_append, List.map_append]
  exact h2
end Go.Proofs.YtagikpkkbopcbaaDoor

