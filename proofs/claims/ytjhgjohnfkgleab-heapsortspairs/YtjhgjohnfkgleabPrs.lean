import Derived.Test.YtjhgjohnfkgleabLw
import Derived.Test.YtjhgjohnfkgleabOpenN
import Derived.Laws.StructEq
namespace Go.Proofs.Ytjhgjohnfkgleab
open Go.RowKit Go.Maps
set_option maxRecDepth 20000

structure Pr where
  name : ByteArray
  n : Int

instance : Inhabited Pr := ⟨⟨ByteArray.empty, 0⟩⟩

def cellsP (x : Pr) : List Value := [.string x.name, .int .i64 x.n]

def flatP (xs : List Pr) : List Value := xs.flatMap cellsP

def pp (xs : List Pr) (i : Nat) : Pr := xs.getD i default

theorem flatP_length (xs : List Pr) : (flatP xs).length = xs.length * 2 := by
  induction xs with
  | nil => rfl
  | cons a r ih => unfold flatP at ih ⊢; rw [List.flatMap_cons, List.length_append, ih]; simp [cellsP]; omega

theorem flatP_snoc (xs : List Pr) (x : Pr) : flatP (xs ++ [x]) = flatP xs ++ cellsP x := by simp [flatP]

theorem pp_get {xs : List Pr} {i : Nat} (h : i < xs.length) : xs[i]? = some (pp xs i) := by unfold pp; simp [h]

theorem flatP_get : ∀ {xs : List Pr} {i : Nat} {x : Pr}, xs[i]? = some x → ∀ j, j < 2 → (flatP xs)[i * 2 + j]? = (cellsP x)[j]?
  | a :: r, 0, x, h, j, hj => by
    simp only [List.getElem?_cons_zero, Option.some.injEq] at h
    subst h
    unfold flatP
    rw [List.flatMap_cons, List.getElem?_append_left (by simp [cellsP]; omega)]
    simp
  | a :: r, i + 1, x, h, j, hj => by
    simp only [List.getElem?_cons_succ] at h
    have ih := flatP_get (xs := r) h j hj
    unfold flatP at ih ⊢
    rw [List.flatMap_cons, List.getElem?_append_right (by simp [cellsP]; omega)]
    rw [show (i + 1) * 2 + j - (cellsP a).length = i * 2 + j by simp [cellsP]; omega]
    exact ih

theorem flatP_one {xs : List Pr} : ∀ u ∈ flatP xs, u.oneCell' = true := by
  intro u hu
  obtain ⟨x, _, hx⟩ := List.mem_flatMap.1 hu
  rcases List.mem_cons.1 hx with rfl | hx
  · rfl
  · rw [List.mem_singleton.1 hx]; rfl

/-- A slice of pairs that is read. -/
def SP (w : World) (v : Value) (l : List Pr) : Prop :=
  ∃ ao cap, v = .slice ao l.length cap ∧ l.length ≤ cap ∧ cap ≤ maxLen ∧ (ao = none → cap = 0) ∧ ∀ x, ao = some x → ∀ j u, (flatP l)[j]? = some u → w.cell? (x.add j) = some u

def OP (w : World) (base : Nat) (v : Value) (l : List Pr) : Prop := w.ownsRow base 52 2 v l.length (flatP l)

theorem SP.len {w : World} {v : Value} {l : List Pr} (h : SP w v l) : ∃ a c, v = .slice a l.length c := by
  obtain ⟨a, c, rfl, _⟩ := h
  exact ⟨a, c, rfl⟩

theorem SP.below {w w' : World} {v : Value} {l : List Pr} (h : SP w v l) (hb : Below w.heap.size w w') : SP w' v l := by
  obtain ⟨ao, cap, rfl, h1, h2, h3, h4⟩ := h
  exact ⟨ao, cap, rfl, h1, h2, h3, fun x hx j u hj => (hb.cell (World.block_lt_of_cell? _ _ (h4 x hx j u hj))).trans (h4 x hx j u hj)⟩

theorem SP.drewN {w : World} {v : Value} {l : List Pr} (h : SP w v l) (n : Nat) : SP (w.drewN n) v l := h.below (below_drewN (Below.refl _ _) n)

theorem OP.sp {w : World} {base : Nat} {v : Value} {l : List Pr} (h : OP w base v l) : SP w v l := by
  have hc := @World.ownsRow.cells _ _ _ _ _ _ _ h
  rcases h.2 with ⟨rfl, h0⟩ | ⟨g, cap, cur, rfl, _, _, h3, h4, _, _⟩
  · obtain rfl : l = [] := List.eq_nil_of_length_eq_zero h0
    exact ⟨none, 0, rfl, Nat.le_refl _, Nat.zero_le _, fun _ => rfl, fun x hx => by cases hx⟩
  · refine ⟨some ⟨g, 0, none⟩, cap, rfl, h3, h4, (fun e => by cases e), fun x hx j u hj => ?_⟩
    cases hx
    exact hc (g := g) rfl j u hj

theorem SP.nth {w : World} {ao : Option Addr} {cap n : Nat} {l : List Pr} (h : SP w (.slice ao n cap) l) {k : Nat} (hk : k < l.length) : ∃ b o, ao = some ⟨b, o, none⟩ ∧ w.cell? ⟨b, o + k * 2, none⟩ = some (.string (pp l k).name) ∧ w.cell? ⟨b, o + k * 2 + 1, none⟩ = some (.int .i64 (pp l k).n) := by
  obtain ⟨a, c, e, h1, h2, h3, h4⟩ := h
  simp only [Value.slice.injEq] at e
  obtain ⟨rfl, rfl, rfl⟩ := e
  cases ao with
  | none => have := h3 rfl; omega
  | some x =>
    have q : ∀ j, j < 2 → ∀ u, (cellsP (pp l k))[j]? = some u → w.cell? (x.add (k * 2 + j)) = some u := fun j hj u hu => h4 x rfl _ u ((flatP_get (pp_get hk) j hj).trans hu)
    have z : ∃ u, w.cell? (x.add 0) = some u := by
      have : (flatP l)[0]? = some ((flatP l)[0]'(by rw [flatP_length]; omega)) := List.getElem?_eq_getElem _
      exact ⟨_, h4 x rfl 0 _ this⟩
    obtain ⟨u, hu⟩ := z
    obtain ⟨b, o, rfl⟩ := addr_lit hu
    have q0 := q 0 (by omega) _ rfl
    have q1 := q 1 (by omega) _ rfl
    rw [Addr.add_lit] at q0 q1
    exact ⟨b, o, rfl, by simpa using q0, by simpa [Nat.add_assoc] using q1⟩

theorem infoPair : (Try.prog.info? 52).map (fun i => (i.zero, i.size, i.bytes)) = some (some (.agg #[.string ByteArray.empty, .int .i64 0]), 2, 24) := by kernel_rfl

theorem run_copy_pairs {P : Program} (w : World) (dT sT ty elem : TypeId) (g dCap n : Nat) (a : Addr) (sCap : Nat) (cur : Array Value) (t : TypeId) (cs : List Value)
    (hu : P.underlying dT = some (.slice elem)) (hs : (P.info? elem).map (·.size) = some 2) (hg : w.heap[g]? = some (.cells cur t (0, 0))) (hn : cs.length = n * 2)
    (hsrc : ∀ j v, cs[j]? = some v → w.cell? (a.add j) = some v) (hfit : cs.length ≤ cur.size) (h1 : ∀ v ∈ cs, v.oneCell' = true) :
    (Builtin.copy_ #[dT, sT] ty #[.slice (some ⟨g, 0, none⟩) n dCap, .slice (some a) n sCap]).run P w = .ok (goInt n) (w.setRow g (cs ++ cur.toList.drop cs.length).toArray) := by
  have hl := run_loadCells_list (P := P) w a cs hsrc
  have hst := run_storeCells_at P g 0 t cs 0 cur w hg (by simpa using hfit) h1
  have hm : Nat.min n n = n := Nat.min_self n
  rw [hn] at hl
  cases hq : P.info? elem with
  | none => simp [hq] at hs
  | some i =>
    have hi : i.size = 2 := by simpa [hq] using hs
    simp [Builtin.copy_, run_underlying hu, Builtin.lenOf, Builtin.firstCells, sizeOf, typeInfo, hq, hi, hm, hl]
    simp at hst
    rw [hst]
    simp

theorem wpList_copyP {w : World} {ops : Array Oper} {rest : List Oper} {o : Oper} {a : Act} {Q : Exit → Act → World → Prop} (hgd : o.guard = none) (d s : Operand)
    (ho : o.op = .call { callee := .builtin .copy, args := #[d, s], argTypes := #[48, 48] }) (g n dCap : Nat) (v : Value) (l : List Pr) (hd : a.eval d = .slice (some ⟨g, 0, none⟩) l.length dCap) (hs : a.eval s = v) (hsp : SP w v l)
    (cur : Array Value) (hg : w.heap[g]? = some (.cells cur 52 (0, 0))) (hc : cur.size = l.length * 2) (hn : n = l.length)
    (h : ∀ w', w'.heap[g]? = some (.cells (flatP l).toArray 52 (0, 0)) → (∀ k, k ≠ g → w'.heap[k]? = w.heap[k]?) → w'.heap.size = w.heap.size → w'.os = w.os → w'.tape = w.tape → w'.output = w.output → wpList Try.prog ops Q rest (a.put o.dst (goInt n)) w') :
    wpList Try.prog ops Q (o :: rest) a w := by
  subst hn
  have hsz : (Try.prog.info? 52).map (·.size) = some 2 := by kernel_rfl
  refine wpList_plain hgd fun K hK => ?_
  obtain ⟨ao, cap, rfl, h1, h2, h3, h4⟩ := hsp
  unfold Oper.wp
  cases ao with
  | none =>
    have h0 := h3 rfl
    obtain rfl : l = [] := List.eq_nil_of_length_eq_zero (by omega)
    subst h0
    have hr : (Builtin.copy_ #[48, 48] o.type #[.slice (some ⟨g, 0, none⟩) 0 dCap, .slice none 0 0]).run Try.prog w = .ok (goInt 0) w := run_copy_nil (P := Try.prog) w 48 48 o.type 52 ⟨g, 0, none⟩ 0 dCap Try.underlying48 (by rw [hsz]; rfl)
    simp [execOp, ho, resolve, invoke, builtin, hd, hs, hr, Result.andThen]
    refine hK _ _ (h w ?_ (fun _ _ => rfl) rfl rfl rfl rfl)
    rw [hg]
    have : cur = #[] := Array.eq_empty_of_size_eq_zero (by simpa using hc)
    rw [this]; rfl
  | some x =>
    have hr := run_copy_pairs (P := Try.prog) w 48 48 o.type 52 g dCap l.length x cap cur 52 (flatP l) Try.underlying48 hsz hg (flatP_length l) (h4 x rfl) (by rw [flatP_length, hc]; exact Nat.le_refl _) flatP_one
    simp [execOp, ho, resolve, invoke, builtin, hd, hs, hr, Result.andThen]
    refine hK _ _ (h _ ?_ (fun k hk => setRow_other w g k _ hk) (by simp [World.setRow]) rfl rfl rfl)
    rw [setRow_heap w g cur _ 52 _ hg]
    have : cur.toList.drop (flatP l).length = [] := List.drop_eq_nil_of_le (by rw [flatP_length]; simp [hc])
    rw [this, List.append_nil]

end Go.Proofs.Ytjhgjohnfkgleab
