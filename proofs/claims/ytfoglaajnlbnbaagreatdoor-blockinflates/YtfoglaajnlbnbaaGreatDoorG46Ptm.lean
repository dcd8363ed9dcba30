import Derived.Test.YtfoglaajnlbnbaaGreatDoorG45Lse
import Derived.Test.YtfoglaajnlbnbaaGreatDoorG05Pks
import Derived.Maps.AppendAt
namespace Go.Proofs.YtfoglaajnlbnbaaGreatDoor
open Go.RowKit Go.Maps
set_option maxRecDepth 20000
set_option linter.unusedVariables false
set_option linter.unusedSimpArgs false

/-! Parts in memory. -/
def SG (w : World) (sz : Nat) (x : Value) (m : Nat) (news : List Value) : Prop :=
  (∃ a c, x = .slice (some a) m c ∧ news.length = m * sz ∧ (∀ j u, news[j]? = some u → w.cell? (a.add j) = some u) ∧ ∀ u ∈ news, u.oneCell' = true) ∨ (∃ c, x = .slice none 0 c ∧ m = 0 ∧ news = [])

theorem run_app_nil {P : Program} (w : World) (base : Nat) (t ty e : TypeId) (i : TypeInfo) (sz : Nat) (ht : P.underlying t = some (.slice e)) (hi : P.info? e = some i) (v : Value) (n : Nat) (xs : List Value) (hown : w.ownsRow base e sz v n xs) (c : Nat) :
    (Builtin.append_ #[t, t] ty #[v, .slice none 0 c]).run P w = .ok v w := by
  have f0 := fun w' : World => run_firstCells_none (P := P) w' i.size 0 0 c
  rcases hown.2 with ⟨rfl, h0⟩ | ⟨g, cap, cur, rfl, _, hg, hnc, _, _, _⟩
  · simp [Builtin.append_, run_underlying ht, sizeOf, typeInfo, hi, f0, Builtin.lenOf]
  · simp [Builtin.append_, run_underlying ht, sizeOf, typeInfo, hi, f0, Builtin.lenOf, hnc, Addr.add_lit, storeCells]

theorem run_appG {P : Program} (w : World) (base : Nat) (t ty e : TypeId) (i : TypeInfo) (z : Value) (sz bytes : Nat) (ht : P.underlying t = some (.slice e)) (hi : P.info? e = some i) (hz : i.zero = some z) (hs : i.size = sz) (hby : i.bytes = bytes) (hzs : z.cells.size = sz) (hsz : 0 < sz)
    (v x : Value) (n m : Nat) (xs news : List Value) (hown : w.ownsRow base e sz v n xs) (hx : SG w sz x m news) (h63 : n + m ≤ 1000000000) (hb : (n + m) * bytes ≤ 140737488355328) (hbase : base ≤ w.heap.size) :
    ∃ v' w', (Builtin.append_ #[t, t] ty #[v, x]).run P w = .ok v' w' ∧ w'.ownsRow base e sz v' (n + m) (xs ++ news) ∧ w.grownBy w' v.ownBlock := by
  rcases hx with ⟨a, c, rfl, h1, h2, h3⟩ | ⟨c, rfl, rfl, rfl⟩
  · obtain ⟨v', w', hr, ho, hg, -⟩ := run_append_own_at (P := P) w base t ty e i z sz bytes ht hi hz hs hby hzs hsz v n xs hown a m c news h1 h2 h3 (by unfold maxLen; omega) hb hbase
    exact ⟨v', w', hr, ho, hg⟩
  · exact ⟨v, w, run_app_nil w base t ty e i sz ht hi v n xs hown c, by simpa using hown, World.grownBy.refl _ _⟩

theorem wpList_appG {w : World} {ops : Array Oper} {rest : List Oper} {o : Oper} {a : Act} {Q : Exit → Act → World → Prop} (hgd : o.guard = none) (s x : Operand) (t : TypeId)
    (ho : o.op = .call { callee := .builtin .append, args := #[s, x], argTypes := #[t, t] }) (base : Nat) (e : TypeId) (z : Value) (sz bytes : Nat) (ht : Tryz.prog.underlying t = some (.slice e)) (hi : (Tryz.prog.info? e).map (fun i => (i.zero, i.size, i.bytes)) = some (some z, sz, bytes)) (hzs : z.cells.size = sz) (hsz : 0 < sz)
    (v xv : Value) (n m : Nat) (xs news : List Value) (hv : a.eval s = v) (hown : w.ownsRow base e sz v n xs) (hx : a.eval x = xv) (hsrc : SG w sz xv m news) (h63 : n + m ≤ 1000000000) (hb : (n + m) * bytes ≤ 140737488355328) (hbase : base ≤ w.heap.size)
    (h : ∀ v' w', w'.ownsRow base e sz v' (n + m) (xs ++ news) → w.grownBy w' v.ownBlock → wpList Tryz.prog ops Q rest (a.put o.dst v') w') : wpList Tryz.prog ops Q (o :: rest) a w := by
  refine wpList_plain hgd fun K hK => ?_
  obtain ⟨i, hi0, hz0, hz1, hz2⟩ := info_parts hi
  obtain ⟨v', w', hr, h2, h3⟩ := run_appG (P := Tryz.prog) w base t o.type e i z sz bytes ht hi0 hz0 hz1 hz2 hzs hsz v xv n m xs news hown hsrc h63 hb hbase
  unfold Oper.wp
  simp [execOp, ho, resolve, invoke, builtin, hv, hx, hr, Result.andThen]
  exact hK _ _ (h v' w' h2 h3)

abbrev Pt := Value × List Tk × Int

def csP (p : Pt) : List Value := [p.1, .int .i64 p.2.2]
def flP (ps : List Pt) : List Value := ps.flatMap csP

theorem flP_len (ps : List Pt) : (flP ps).length = ps.length * 2 := by
  induction ps with
  | nil => rfl
  | cons a r ih => unfold flP at ih ⊢; rw [List.flatMap_cons, List.length_append, ih]; simp [csP]; omega

theorem flP_app (ps qs : List Pt) : flP (ps ++ qs) = flP ps ++ flP qs := by simp [flP]

theorem flP_get {ps : List Pt} {i : Nat} {p : Pt} (h : ps[i]? = some p) : (flP ps)[i * 2]? = some p.1 ∧ (flP ps)[i * 2 + 1]? = some (.int .i64 p.2.2) := by
  induction ps generalizing i with
  | nil => simp at h
  | cons a r ih =>
    cases i with
    | zero => simp at h; subst h; exact ⟨rfl, rfl⟩
    | succ i =>
      have := ih (i := i) (by simpa using h)
      have e : flP (a :: r) = a.1 :: .int .i64 a.2.2 :: flP r := rfl
      rw [e, show (i + 1) * 2 = i * 2 + 1 + 1 by omega, show i * 2 + 1 + 1 + 1 = (i * 2 + 1) + 1 + 1 by omega]
      simp only [List.getElem?_cons_succ]
      exact this

def SP (w : World) (x : Value) (ps : List Pt) : Prop := SG w 2 x ps.length (flP ps) ∧ ∀ p ∈ ps, SK w p.1 p.2.1 ∧ (∀ t ∈ p.2.1, Bt t) ∧ p.2.1.length ≤ 5864062014800

def OP (w : World) (base : Nat) (v : Value) (ps : List Pt) : Prop := w.ownsRow base 25 2 v ps.length (flP ps)

theorem infoPart : (Tryz.prog.info? 25).map (fun i => (i.zero, i.size, i.bytes)) = some (some (.agg #[.slice none 0 0, .int .i64 0]), 2, 32) := by kernel_rfl

theorem OP.lt {w : World} {base : Nat} {v : Value} {ps : List Pt} (h : OP w base v ps) : ∀ k, v.ownBlock = some k → base ≤ k ∧ k < w.heap.size := World.ownsRow.lt h

theorem OP.move {w w' : World} {base : Nat} {v : Value} {ps : List Pt} (h : OP w base v ps) (hb : ∀ k, v.ownBlock = some k → w'.heap[k]? = w.heap[k]?) : OP w' base v ps := by
  refine ⟨h.1, ?_⟩
  rcases h.2 with h0 | ⟨g, cap, cur, rfl, h1, h2, h3⟩
  · exact .inl h0
  · exact .inr ⟨g, cap, cur, rfl, h1, (hb g rfl).trans h2, h3⟩

theorem OP.below {w w' : World} {base B : Nat} {v : Value} {ps : List Pt} (h : OP w base v ps) (hb : Below B w w') (hB : w.heap.size ≤ B) : OP w' base v ps := h.move fun k hk => hb.block k (Nat.lt_of_lt_of_le (h.lt k hk).2 hB)

theorem OP.at {w : World} {base g n c : Nat} {ps : List Pt} (h : OP w base (.slice (some ⟨g, 0, none⟩) n c) ps) {i : Nat} {p : Pt} (hi : ps[i]? = some p) : w.cell? ⟨g, i * 2, none⟩ = some p.1 ∧ w.cell? ⟨g, i * 2 + 1, none⟩ = some (.int .i64 p.2.2) := by
  have hc := @World.ownsRow.cells _ _ _ _ _ _ _ h
  obtain ⟨e1, e2⟩ := flP_get hi
  have a1 := hc (g := g) rfl _ _ e1
  have a2 := hc (g := g) rfl _ _ e2
  rw [Addr.add_lit, Nat.zero_add] at a1 a2
  exact ⟨a1, a2⟩

theorem SK.sg {w : World} {v : Value} {R : List Tk} (h : SK w v R) : SG w 3 v R.length (fr3 R) := by
  obtain ⟨ao, cap, rfl, h1, h2, h3, h4⟩ := h
  cases ao with
  | none =>
    have := h3 rfl
    have hR : R = [] := List.eq_nil_of_length_eq_zero (by omega)
    subst hR
    exact .inr ⟨cap, rfl, rfl, rfl⟩
  | some a =>
    refine .inl ⟨a, cap, rfl, fr3_len R, fun j u hu => ?_, fr3_one R⟩
    have hj : j < R.length * 3 := by rw [← fr3_len R]; exact (List.getElem?_eq_some_iff.1 hu).1
    obtain ⟨c0, c1, c2⟩ := h4 a rfl (j / 3) (by omega)
    obtain ⟨d0, d1, d2⟩ := fr3_get (R := R) (i := j / 3) (by omega)
    have hm : j = j / 3 * 3 ∨ j = j / 3 * 3 + 1 ∨ j = j / 3 * 3 + 2 := by omega
    rcases hm with e | e | e
    · rw [e] at hu ⊢; rw [d0] at hu; cases hu; exact c0
    · rw [e] at hu ⊢; rw [d1] at hu; cases hu; exact c1
    · rw [e] at hu ⊢; rw [d2] at hu; cases hu; exact c2
end Go.Proofs.YtfoglaajnlbnbaaGreatDoor

