import Derived.Test.YtdpoggapenjjfaaGreatDoorG40Bkj
namespace Go.Proofs.YtdpoggapenjjfaaGreatDoor
open Go.RowKit Go.Maps
set_option maxRecDepth 20000
set_option linter.unusedVariables false

theorem run_appl_nil {P : Program} (w : World) (base : Nat) (t ty e : TypeId) (i : TypeInfo) (sz : Nat) (ht : P.underlying t = some (.slice e)) (hi : P.info? e = some i) (v : Value) (n : Nat) (xs : List Value) (hown : w.ownsRow base e sz v n xs) (c : Nat) :
    (Builtin.append_ #[t, t] ty #[v, .slice none 0 c]).run P w = .ok v w := by
  have f0 := fun w' : World => run_firstCells_none (P := P) w' i.size 0 0 c
  rcases hown.2 with ⟨rfl, h0⟩ | ⟨g, cap, cur, rfl, _, hg, hnc, _, _, _⟩
  · simp [Builtin.append_, run_underlying ht, sizeOf, typeInfo, hi, f0, Builtin.lenOf]
  · simp [Builtin.append_, run_underlying ht, sizeOf, typeInfo, hi, f0, Builtin.lenOf, hnc, Addr.add_lit, storeCells]

theorem run_appL (w : World) (base B2 : Nat) (ty : TypeId) (v xv : Value) (us us2 : List Value) (hown : OLs w base v us) (hsrc : OLs w B2 xv us2) (h1 : ∀ u ∈ us2, u.oneCell' = true) (hlen : us.length + us2.length ≤ 1000000000) (hbase : base ≤ w.heap.size) :
    ∃ v' w', (Builtin.append_ #[34, 34] ty #[v, xv]).run Tryz.prog w = .ok v' w' ∧ OLs w' base v' (us ++ us2) ∧ w.grownBy w' v.ownBlock ∧ (v'.ownBlock = v.ownBlock ∨ v'.ownBlock = some w.heap.size) := by
  obtain ⟨i0, hi0, hz0, hz1, hz2⟩ := info_parts info28
  rcases hsrc.2 with ⟨rfl, h0⟩ | ⟨g, cap, cur, rfl, _, _, _, _, _, _⟩
  · have : us2 = [] := List.eq_nil_of_length_eq_zero h0
    subst this
    rw [List.append_nil]
    exact ⟨v, w, run_appl_nil w base 34 ty 22 i0 1 Tryz.underlying34 hi0 v us.length us hown 0, hown, World.grownBy.refl _ _, .inl rfl⟩
  · obtain ⟨v', w', hr, ho, hg, -, hat⟩ := run_append_own_at (P := Tryz.prog) w base 34 ty 22 i0 _ 1 24 Tryz.underlying34 hi0 hz0 hz1 hz2 rfl (by omega) v us.length us hown ⟨g, 0, none⟩ us2.length cap us2 (by rw [Nat.mul_one]) (World.ownsRow.cells hsrc (g := g) rfl) h1 (by unfold maxLen; omega) (by omega) hbase
    refine ⟨v', w', hr, ?_, hg, hat⟩
    unfold OLs
    rw [List.length_append]
    exact ho

theorem stepLs {w : World} {ops : Array Oper} {o : Oper} {a : Act} {K : Act → World → Prop} {Q : Exit → Act → World → Prop} {E : Prop} (hw : Region.wanted o (yielded ops a.tmps) = true) (s x : Operand)
    (ho : o.op = .call { callee := .builtin .append, args := #[s, x], argTypes := #[34, 34] }) (base B2 : Nat) (v xv : Value) (us us2 : List Value) (hs : a.eval s = v) (hx : a.eval x = xv) (hown : OLs w base v us) (hsrc : OLs w B2 xv us2) (h1 : ∀ u ∈ us2, u.oneCell' = true) (hlen : us.length + us2.length ≤ 1000000000) (hbase : base ≤ w.heap.size)
    (h : ∀ v' w', OLs w' base v' (us ++ us2) → w.grownBy w' v.ownBlock → (v'.ownBlock = v.ownBlock ∨ v'.ownBlock = some w.heap.size) → K (a.put o.dst v') w') :
    if Region.wanted o (yielded ops a.tmps) = true then Oper.wp Tryz.prog o a w K Q else E := by
  rw [if_pos hw]
  obtain ⟨v', w', hr, h2, h3, h4⟩ := run_appL w base B2 o.type v xv us us2 hown hsrc h1 hlen hbase
  unfold Oper.wp
  simp [execOp, ho, resolve, invoke, builtin, hs, hx, hr, Result.andThen]
  exact h v' w' h2 h3 h4

def lsJ (c1 c2 : Nat → List Int) (us1 us2 : List Value) : List (Value × List Int) := (us1.mapIdx fun j u => (u, c1 j)) ++ (us2.mapIdx fun j u => (u, c2 j))

theorem lsJ_len (c1 c2 : Nat → List Int) (us1 us2 : List Value) : (lsJ c1 c2 us1 us2).length = us1.length + us2.length := by simp [lsJ]

theorem lsJ_at {c1 c2 : Nat → List Int} {us1 us2 : List Value} {j : Nat} {p : Value × List Int} (h : (lsJ c1 c2 us1 us2)[j]? = some p) : (us1 ++ us2)[j]? = some p.1 ∧ ((us1[j]? = some p.1 ∧ p.2 = c1 j ∧ j < us1.length) ∨ (us1.length ≤ j ∧ us2[j - us1.length]? = some p.1 ∧ p.2 = c2 (j - us1.length))) := by
  unfold lsJ at h
  have hl : (us1.mapIdx fun j u => (u, c1 j)).length = us1.length := by simp
  rcases Nat.lt_or_ge j us1.length with q | q
  · rw [List.getElem?_append_left (by rw [hl]; exact q), List.getElem?_mapIdx] at h
    rw [List.getElem?_append_left q]
    cases hu : us1[j]? with
    | none => rw [hu] at h; simp at h
    | some u => rw [hu] at h; simp at h; subst h; exact ⟨rfl, .inl ⟨rfl, rfl, q⟩⟩
  · rw [List.getElem?_append_right (by rw [hl]; exact q), hl, List.getElem?_mapIdx] at h
    rw [List.getElem?_append_right q]
    cases hu : us2[j - us1.length]? with
    | none => rw [hu] at h; simp at h
    | some u => rw [hu] at h; simp at h; subst h; exact ⟨rfl, .inr ⟨q, rfl, rfl⟩⟩

theorem lists_join {c1 c2 : Nat → List Int} {B1 B2 n c : Nat} {w w5 : World} {S1 S2 : Nat → Prop} {vr1 vr2 : Value} {us1 us2 : List Value} {a : Option Addr} (h1 : Vr c1 B1 w S1 vr1 us1) (h2 : Vr c2 B2 w S2 vr2 us2) (hlow : ∀ (j : Nat) (u : Value) (b : Nat), us1[j]? = some u → u.ownBlock = some b → b < B2) (hr1 : ∀ b, vr1.ownBlock = some b → b < B2)
    (hg : w.grownBy w5 vr1.ownBlock) (hrow : OLs w5 B1 (.slice a n c) (us1 ++ us2)) (hat : (Value.slice a n c).ownBlock = vr1.ownBlock ∨ (Value.slice a n c).ownBlock = some w.heap.size) (hfew : us1.length + us2.length ≤ 500000000) (hl1 : ∀ j, (c1 j).length ≤ 100000000000000) (hl2 : ∀ j, (c2 j).length ≤ 100000000000000) :
    ∃ gR, Lists w5 0 (lsJ c1 c2 us1 us2) gR ∧ (lsJ c1 c2 us1 us2 ≠ [] → a = some ⟨gR, 0, none⟩) ∧ n = (lsJ c1 c2 us1 us2).length := by
  have hz := hg.size
  obtain ⟨a', c', e, -, -, hpos⟩ := hrow.shape
  simp only [Value.slice.injEq] at e
  obtain ⟨rfl, hn, rfl⟩ := e
  have hbu1 : ∀ (j : Nat) (u : Value) (b : Nat), us1[j]? = some u → u.ownBlock = some b → b < w.heap.size ∧ vr1.ownBlock ≠ some b := fun j u b q1 q2 => ⟨((h1.ob j u q1).lt b q2).2, (h1.uS j u b q1 q2).2⟩
  have hbu2 : ∀ (j : Nat) (u : Value) (b : Nat), us2[j]? = some u → u.ownBlock = some b → b < w.heap.size ∧ vr1.ownBlock ≠ some b ∧ B2 ≤ b := fun j u b q1 q2 => by
    have l := (h2.ob j u q1).lt b q2
    exact ⟨l.2, fun e => by have := hr1 b e; omega, l.1⟩
  obtain ⟨gR, hgR⟩ : ∃ gR, (lsJ c1 c2 us1 us2 ≠ [] → a = some ⟨gR, 0, none⟩) := by
    by_cases h0 : 0 < (us1 ++ us2).length
    · obtain ⟨g, hg⟩ := hpos h0
      exact ⟨g, fun _ => hg⟩
    · refine ⟨0, fun hne => ?_⟩
      exfalso
      apply hne
      apply List.eq_nil_of_length_eq_zero
      rw [lsJ_len]
      rw [List.length_append] at h0
      omega
  refine ⟨gR, ⟨fun j p hp => ?_, fun i j p q hp hq hij b hb => ?_, fun j p hp => ?_, fun p hp => ?_, ?_, fun p hp => ?_, Nat.zero_le _⟩, hgR, by rw [hn, lsJ_len, List.length_append]⟩
  · obtain ⟨-, ⟨q1, q2, q3⟩ | ⟨q1, q2, q3⟩⟩ := lsJ_at hp
    · rw [q2]
      exact ((h1.ob j _ q1).move fun b hb => hg.block b (hbu1 j _ b q1 hb).1 (fun e => (hbu1 j _ b q1 hb).2 e.symm)).base (Nat.zero_le _)
    · rw [q3]
      exact ((h2.ob _ _ q2).move fun b hb => hg.block b (hbu2 _ _ b q2 hb).1 (fun e => (hbu2 _ _ b q2 hb).2.1 e.symm)).base (Nat.zero_le _)
  · obtain ⟨-, ⟨q1, q2, q3⟩ | ⟨q1, q2, q3⟩⟩ := lsJ_at hp <;> obtain ⟨-, ⟨r1, r2, r3⟩ | ⟨r1, r2, r3⟩⟩ := lsJ_at hq
    · exact h1.sep i j _ _ b q1 r1 hij hb
    · intro e
      have := hlow i _ b q1 hb
      have := (hbu2 _ _ b r2 e).2.2
      omega
    · intro e
      have := hlow j _ b r1 e
      have := (hbu2 _ _ b q2 hb).2.2
      omega
    · exact h2.sep _ _ _ _ b q2 r2 (by omega) hb
  · obtain ⟨q0, -⟩ := lsJ_at hp
    have ha := hgR (fun e => by rw [e] at hp; simp at hp)
    subst ha
    exact hrow.cell q0
  · obtain ⟨j, hj⟩ := List.getElem?_of_mem hp
    have ha := hgR (fun e => by rw [e] at hp; simp at hp)
    subst ha
    obtain ⟨-, ⟨q1, q2, q3⟩ | ⟨q1, q2, q3⟩⟩ := lsJ_at hj
    · intro e
      have l := hbu1 j _ gR q1 e
      rcases hat with h | h
      · exact l.2 (h.symm.trans rfl)
      · simp [Value.ownBlock] at h; omega
    · intro e
      have l := hbu2 _ _ gR q2 e
      rcases hat with h | h
      · exact l.2.1 (h.symm.trans rfl)
      · simp [Value.ownBlock] at h; omega
  · rw [lsJ_len]; exact hfew
  · obtain ⟨j, hj⟩ := List.getElem?_of_mem hp
    obtain ⟨-, ⟨q1, q2, q3⟩ | ⟨q1, q2, q3⟩⟩ := lsJ_at hj
    · rw [q2]; exact hl1 _
    · rw [q3]; exact hl2 _
end Go.Proofs.YtdpoggapenjjfaaGreatDoor

