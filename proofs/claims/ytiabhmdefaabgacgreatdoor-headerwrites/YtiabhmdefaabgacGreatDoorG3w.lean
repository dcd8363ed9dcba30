import Derived.Test.YtiabhmdefaabgacGreatDoorG3a
import Derived.Handy
import Derived.Test.YtiabhmdefaabgacGreatDoorG3b
namespace Go.Proofs.YtiabhmdefaabgacGreatDoor
open Go.RowKit Go.Maps
set_option maxRecDepth 20000

/-- An object whose first cell is a list of bytes of its own. -/
structure WV (T : Nat) (rest : List Value) (w : World) (K : Nat → Nat) (g : Nat) (v : Value) (d : List Int) : Prop where
  s : w.heap[g]? = some (.cells (v :: rest).toArray T (0, 0))
  kg : K g = 1
  o : OB w 0 v d
  kv : ∀ k, v.ownBlock = some k → K k = 2
  sup : ∀ k, K k ≠ 0 → k < w.heap.size

theorem WV.lt {T : Nat} {rest : List Value} {w : World} {K : Nat → Nat} {g : Nat} {v : Value} {d : List Int} (h : WV T rest w K g v d) : g < w.heap.size := (Array.getElem?_eq_some_iff.1 h.s).1

theorem WV.ng {T : Nat} {rest : List Value} {w : World} {K : Nat → Nat} {g : Nat} {v : Value} {d : List Int} (h : WV T rest w K g v d) : v.ownBlock ≠ some g := fun e => by
  have := h.kv g e
  rw [h.kg] at this
  omega

theorem WV.cell {T : Nat} {rest : List Value} {w : World} {K : Nat → Nat} {g : Nat} {v : Value} {d : List Int} (h : WV T rest w K g v d) (i : Nat) : w.cell? ⟨g, i, none⟩ = (v :: rest)[i]? := by
  simp [World.cell?, h.s]

theorem WV.free {T : Nat} {rest : List Value} {w : World} {K : Nat → Nat} {g : Nat} {v : Value} {d : List Int} (h : WV T rest w K g v d) : ∀ o, w.frozen? ⟨g, o, none⟩ = false := fun o => by
  simp [World.frozen?, h.s]

theorem WV.far {T : Nat} {rest : List Value} {w w' : World} {K : Nat → Nat} {g : Nat} {v : Value} {d : List Int} (h : WV T rest w K g v d) (hsz : w.heap.size ≤ w'.heap.size) (hb : ∀ k, K k ≠ 0 → w'.heap[k]? = w.heap[k]?) : WV T rest w' K g v d :=
  ⟨(hb g (by rw [h.kg]; omega)).trans h.s, h.kg, h.o.move fun k hk => hb k (by rw [h.kv k hk]; omega), h.kv, fun k hk => Nat.lt_of_lt_of_le (h.sup k hk) hsz⟩

theorem WV.below {T : Nat} {rest : List Value} {w w' : World} {K : Nat → Nat} {g : Nat} {v : Value} {d : List Int} (h : WV T rest w K g v d) (hb : Below w.heap.size w w') : WV T rest w' K g v d := h.far hb.size fun k hk => hb.block k (h.sup k hk)

theorem WV.drewN {T : Nat} {rest : List Value} {w : World} {K : Nat → Nat} {g : Nat} {v : Value} {d : List Int} (h : WV T rest w K g v d) (n : Nat) : WV T rest (w.drewN n) K g v d := h.far (Nat.le_refl _) (fun _ _ => rfl)

theorem WV.block {T : Nat} {rest : List Value} {w w' : World} {K : Nat → Nat} {g : Nat} {v : Value} {d : List Int} (h : WV T rest w K g v d) {rest' : List Value} (hs : w'.heap[g]? = some (.cells (v :: rest').toArray T (0, 0))) (hz : w'.heap.size = w.heap.size) (hk : ∀ k, k ≠ g → w'.heap[k]? = w.heap[k]?) : WV T rest' w' K g v d :=
  ⟨hs, h.kg, h.o.move fun k hk' => hk k fun e => h.ng (by rw [← e]; exact hk'), h.kv, fun k hk' => by rw [hz]; exact h.sup k hk'⟩

theorem WV.fr {T : Nat} {rest : List Value} {w w' : World} {K : Nat → Nat} {g : Nat} {v : Value} {d : List Int} (h : WV T rest w K g v d) (h1 : w'.os = w.os) (h2 : w'.tape = w.tape) (h3 : w'.output = w.output) (hz : w'.heap.size = w.heap.size) (hk : ∀ k, k ≠ g → w'.heap[k]? = w.heap[k]?) : Fr K K w w' :=
  ⟨h1, h2, h3, by rw [hz]; exact Nat.le_refl _, fun k _ h0 => hk k fun e => by rw [e, h.kg] at h0; omega, fun _ _ => rfl⟩

/-- Another cell of the object is written. -/
theorem WV.set {T : Nat} {rest : List Value} {w : World} {K : Nat → Nat} {g : Nat} {v : Value} {d : List Int} (h : WV T rest w K g v d) (i : Nat) (u : Value) : WV T (rest.set i u) (w.setCell ⟨g, i + 1, none⟩ u) K g v d ∧ Fr K K w (w.setCell ⟨g, i + 1, none⟩ u) := by
  have hk := setCell_others w g (i + 1) u
  refine ⟨h.block ?_ (size_setCell _ _ _) hk, h.fr rfl rfl rfl (size_setCell _ _ _) hk⟩
  rw [heap_setCell_at u h.s]
  congr 2
  simp

/-- The bytes come to lie in a row that the append made or wrote. -/
theorem WV.put {T : Nat} {rest : List Value} {w w1 : World} {K : Nat → Nat} {g : Nat} {v v' : Value} {d d' : List Int} (h : WV T rest w K g v d) (hg : w.grownBy w1 v.ownBlock) (ho : OB w1 0 v' d') (hat : v'.ownBlock = v.ownBlock ∨ ∀ k, v'.ownBlock = some k → w.heap.size ≤ k) :
    ∃ K', WV T rest (w1.setCell ⟨g, 0, none⟩ v') K' g v' d' ∧ Fr K K' w (w1.setCell ⟨g, 0, none⟩ v') := by
  have hgl := h.lt
  have hng : v'.ownBlock ≠ some g := fun e => by
    rcases hat with h1 | h1
    · exact h.ng (h1 ▸ e)
    · have := h1 g e; omega
  refine ⟨fun k => if v'.ownBlock = some k then 2 else K k, ⟨?_, ?_, ?_, ?_, ?_⟩, ⟨hg.os, hg.tape, hg.output, by rw [size_setCell]; exact hg.size, fun k hk h0 => ?_, fun k hk => ?_⟩⟩
  · rw [heap_setCell_at v' ((hg.block g hgl (fun e => h.ng e.symm)).trans h.s)]
    congr 2
  · simp [hng, h.kg]
  · exact ho.move fun k hk => setCell_others w1 g _ _ k (fun e => hng (by rw [← e]; exact hk))
  · intro k hk; simp [hk]
  · intro k hk
    rw [size_setCell]
    by_cases e : v'.ownBlock = some k
    · exact (ho.lt k e).2
    · simp [e] at hk
      exact Nat.lt_of_lt_of_le (h.sup k hk) hg.size
  · have e1 : k ≠ g := fun e => by rw [e, h.kg] at h0; omega
    have e2 : v.ownBlock ≠ some k := fun e => by rw [h.kv k e] at h0; omega
    exact (setCell_others w1 g _ _ k e1).trans (hg.block k hk (fun e => e2 e.symm))
  · by_cases e : v'.ownBlock = some k
    · simp only [e, if_true]
      rcases hat with h1 | h1
      · exact (h.kv k (h1 ▸ e)).symm
      · have := h1 k e; omega
    · simp only [e, if_false]

/-- What stood in the first bytes of the row, and in other blocks, stands there still. -/
structure Stays (g : Nat) (w w' : World) (v : Value) (n : Nat) (v' : Value) (n' : Nat) : Prop where
  c : ∀ b i, b < w.heap.size → b ≠ g → (v.ownBlock = some b → i < n) → w'.cell? ⟨b, i, none⟩ = w.cell? ⟨b, i, none⟩
  at' : v'.ownBlock = v.ownBlock ∨ ∀ k, v'.ownBlock = some k → w.heap.size ≤ k
  le : n ≤ n'
  sz : w.heap.size ≤ w'.heap.size

theorem Stays.refl (g : Nat) (w : World) (v : Value) (n : Nat) : Stays g w w v n v n := ⟨fun _ _ _ _ _ => rfl, .inl rfl, Nat.le_refl _, Nat.le_refl _⟩

theorem Stays.trans {g : Nat} {a b c : World} {v1 v2 v3 : Value} {n1 n2 n3 : Nat} (h : Stays g a b v1 n1 v2 n2) (k : Stays g b c v2 n2 v3 n3) : Stays g a c v1 n1 v3 n3 := by
  refine ⟨fun x i hx hg hi => (k.c x i (Nat.lt_of_lt_of_le hx h.sz) hg (fun e => ?_)).trans (h.c x i hx hg hi), ?_, Nat.le_trans h.le k.le, Nat.le_trans h.sz k.sz⟩
  · rcases h.at' with e1 | e1
    · exact Nat.lt_of_lt_of_le (hi (by rw [← e1]; exact e)) h.le
    · have := e1 x e; omega
  · rcases k.at' with e1 | e1
    · rw [e1]; exact h.at'
    · exact .inr fun x hx => Nat.le_trans h.sz (e1 x hx)

theorem u64_or {r x : Int} {h n : Nat} (r0 : 0 ≤ r) (r1 : r < 2 ^ h) (x0 : 0 ≤ x) (x1 : x < 2 ^ n) (hn : h + n ≤ 63) : bits .or .u64 r (x * 2 ^ h) = r + x * 2 ^ h ∧ 0 ≤ x * 2 ^ h ∧ x * 2 ^ h < 2 ^ 63 ∧ r + x * 2 ^ h < 2 ^ (h + n) := by
  have hp := pow_pos h
  have hx0 : 0 ≤ x * 2 ^ h := Int.mul_nonneg x0 (by omega)
  have e : (2 : Int) ^ (h + n) = 2 ^ n * 2 ^ h := by rw [Nat.add_comm, Int.pow_add]
  have hx1 : x * 2 ^ h ≤ 2 ^ (h + n) - 2 ^ h := by
    rw [e]
    have := Int.mul_le_mul_of_nonneg_right (show x ≤ 2 ^ n - 1 by omega) (Int.le_of_lt hp)
    rw [Int.sub_mul] at this
    omega
  have h63 : (2 : Int) ^ (h + n) ≤ 2 ^ 63 := pow_le hn
  refine ⟨?_, hx0, by omega, by omega⟩
  have comm : bits .or .u64 r (x * 2 ^ h) = bits .or .u64 (x * 2 ^ h) r := by
    simp only [bits]
    rw [BitVec.or_comm]
  rw [comm, bits_join .u64 63 (by decide) (fun n a b => by rw [IntKind.wrap_u64]; omega) h (x * 2 ^ h) r hx0 (by simp) (by omega) r0 r1 (by omega)]
  omega

/-- The program's writer: whole bytes d, the bits r of a number h behind them. -/
def WW (w : World) (K : Nat → Nat) (g : Nat) (v : Value) (d : List Int) (r : Int) (h : Nat) : Prop := WV 56 [.int .u64 r, .int .i64 h] w K g v d

/-- append of bytes, as one step of a region that draws. -/
theorem step_app {ops : Array Oper} {o : Oper} {a : Act} {w : World} {Kk : Act → World → Prop} {Q : Exit → Act → World → Prop} {E : Prop}
    (hg : o.guard = none) (s x : Operand) (hop : o.op = Op.call { callee := Callee.builtin Builtin.append, args := #[s, x], argTypes := #[36, 36] })
    (v xv : Value) (l news : List Int) (hs : a.eval s = v) (hx : a.eval x = xv) (hown : OB w 0 v l) (hsrc : Src Tryz.prog 1 36 xv news.length (news.map (Value.int .u8)) w) (hne : news ≠ []) (hb : l.length + news.length ≤ 140737488355328)
    (hK : ∀ g cap w', OB w' 0 (.slice (some ⟨g, 0, none⟩) (l.length + news.length) cap) (l ++ news) → Grew w w' v (.slice (some ⟨g, 0, none⟩) (l.length + news.length) cap) → Kk (a.put o.dst (.slice (some ⟨g, 0, none⟩) (l.length + news.length) cap)) w') :
    if Region.wanted o (yielded ops a.tmps) = true then Oper.wp Tryz.prog o a w Kk Q else E := by
  have hw : Region.wanted o (yielded ops a.tmps) = true := by simp [Region.wanted, hg]
  rw [if_pos hw]
  obtain ⟨v', w', hr, h2, h3⟩ := run_app w 0 36 o.type v xv l news hown hsrc hb (Nat.zero_le _)
  have hn : 0 < news.length := List.length_pos_iff.2 hne
  obtain ⟨g, cap, rfl, _, _⟩ := World.ownsRow.form h2 (by rw [List.length_append]; omega)
  rw [List.length_append] at h2 h3 hr
  unfold Oper.wp
  simp [execOp, hop, resolve, invoke, builtin, hs, hx, hr, Result.andThen]
  refine hK g cap w' ?_ h3
  exact h2

theorem OB.get {w : World} {base : Nat} {v : Value} {l : List Int} (h : OB w base v l) {b : Nat} (hv : v.ownBlock = some b) {i : Nat} (hi : i < l.length) : w.cell? ⟨b, i, none⟩ = some (.int .u8 (l.getD i 0)) := by
  have hc := @World.ownsRow.cells _ _ _ _ _ _ _ h
  rcases h.2 with ⟨rfl, _⟩ | ⟨g, cap, cur, rfl, _⟩
  · simp [Value.ownBlock] at hv
  · simp [Value.ownBlock] at hv
    subst hv
    have := hc (g := g) rfl i (.int .u8 (l.getD i 0)) (by simp [hi])
    rw [Addr.add_lit] at this
    simpa using this

theorem Grew.stays {w w' : World} {v v' : Value} {d news : List Int} (h : Grew w w' v v') (ho : OB w 0 v d) (ho' : OB w' 0 v' (d ++ news)) {b i : Nat} (hb : b < w.heap.size) (hi : v.ownBlock = some b → i < d.length) : w'.cell? ⟨b, i, none⟩ = w.cell? ⟨b, i, none⟩ := by
  rcases h with ⟨_, rfl⟩ | ⟨_, hbel⟩ | ⟨he, _, hg⟩
  · rfl
  · exact World.cell?_of_block (hbel.block b hb)
  · by_cases e : v.ownBlock = some b
    · rw [ho.get e (hi e), ho'.get (he.trans e) (by rw [List.length_append]; have := hi e; omega)]
      simp only [List.getD, List.getElem?_append_left (hi e)]
    · exact World.cell?_of_block (hg.block b hb (fun x => e x.symm))

/-- A row of bits that is being put. -/
structure Half (row d : List Int) (R : Int) (h : Nat) : Prop where
  e : row = unpack d ++ bts R h
  b : Byt d
  r0 : 0 ≤ R
  r1 : R < 2 ^ h

theorem Half.step {row d : List Int} {R : Int} {h : Nat} (k : Half row d R h) (h8 : 8 ≤ h) : Half row (d ++ [R % 256]) (R / 256) (h - 8) := by
  obtain ⟨e, b, r0, r1⟩ := k
  refine ⟨?_, byt_append b (byt_one (by omega) (by omega)), by omega, ?_⟩
  · rw [e, unpack_append, unpack_one, List.append_assoc]
    congr 1
    have := bts_split R 8 (h - 8)
    rw [show 8 + (h - 8) = h by omega] at this
    rw [this, ← bts_mod R 8]
    rfl
  · have e2 : (2 : Int) ^ h = 2 ^ (h - 8) * 256 := by
      conv => lhs; rw [show h = (h - 8) + 8 by omega, Int.pow_add]
      rfl
    rw [e2] at r1
    exact Int.ediv_lt_of_lt_mul (by omega) r1

def putRel (w : World) (K : Nat → Nat) (g : Nat) (v : Value) (n : Nat) (row : List Int) (m : Nat) (wr : World) : Prop :=
  ∃ K1 v1 d1 R h, WW wr K1 g v1 d1 R h ∧ Half row d1 R h ∧ h ≤ 40 ∧ Fr K K1 w wr ∧ Stays g w wr v n v1 d1.length ∧ 8 * d1.length + h = m

theorem SB.heap {w w' : World} {v : Value} {l : List Int} (h : SB w v l) (e : w'.heap = w.heap) : SB w' v l :=
  h.move fun a u ha _ => by rw [World.cell?_of_block (w := w) (by rw [e])]; exact ha

theorem built_sb (w : World) (cs : List Int) (hm : cs.length ≤ maxLen) : SB (w.alloc (.cells (cs.map (Value.int .u8)).toArray 5)) (.slice (some ⟨w.heap.size, 0, none⟩) cs.length cs.length) cs := by
  refine ⟨_, _, rfl, Nat.le_refl _, hm, (fun h => by cases h), fun x hx i hi => ?_⟩
  cases hx
  rw [Addr.add_lit]
  have e := heap_alloc_new w (.cells (cs.map (Value.int .u8)).toArray 5)
  unfold World.cell?
  simp only [e]
  simp [hi]

theorem WW.next {wr W w6 : World} {K1 : Nat → Nat} {g : Nat} {v1 v' : Value} {d1 : List Int} {q R R' : Int} {h : Nat} {o : Obj} (HW : WW wr K1 g v1 d1 R h) (hW : W.heap = (wr.alloc o).heap) (h1 : W.os = wr.os) (h2 : W.tape = wr.tape) (h3 : W.output = wr.output) (ho : OB w6 0 v' (d1 ++ [q])) (hg : Grew W w6 v1 v') (x' : Int) (h' : Nat) (hx : x' = h') :
    ∃ K', WW (((w6.setCell ⟨g, 0, none⟩ v').setCell ⟨g, 1, none⟩ (.int .u64 R')).setCell ⟨g, 2, none⟩ (.int .i64 x')) K' g v' (d1 ++ [q]) R' h' ∧ Fr K1 K' wr (((w6.setCell ⟨g, 0, none⟩ v').setCell ⟨g, 1, none⟩ (.int .u64 R')).setCell ⟨g, 2, none⟩ (.int .i64 x')) ∧
      Stays g wr (((w6.setCell ⟨g, 0, none⟩ v').setCell ⟨g, 1, none⟩ (.int .u64 R')).setCell ⟨g, 2, none⟩ (.int .i64 x')) v1 d1.length v' (d1 ++ [q]).length := by
  subst hx
  have hgr : wr.grownBy W v1.ownBlock := ⟨h1, h2, h3, by rw [hW, size_alloc']; omega, fun k hk _ => by rw [hW]; exact Below.heap_alloc _ _ k hk⟩
  have hat : v'.ownBlock = v1.ownBlock ∨ ∀ k, v'.ownBlock = some k → wr.heap.size ≤ k := by
    rcases hg.at with e | e
    · exact .inr (fun k hk => by rw [e, hW, size_alloc'] at hk; cases hk; omega)
    · exact .inl e
  obtain ⟨K', a1, a2⟩ := HW.put (hgr.trans hg.by) ho hat
  obtain ⟨b1, b2⟩ := a1.set 0 (.int .u64 R')
  obtain ⟨c1, c2⟩ := b1.set 1 (.int .i64 h')
  refine ⟨K', c1, (a2.trans b2).trans c2, fun b i hb hbg hi => ?_, hat, by rw [List.length_append]; omega, ((a2.trans b2).trans c2).size⟩
  have e1 : (((w6.setCell ⟨g, 0, none⟩ v').setCell ⟨g, 1, none⟩ (.int .u64 R')).setCell ⟨g, 2, none⟩ (.int .i64 (h' : Int))).heap[b]? = w6.heap[b]? := (setCell_others _ g 2 _ b hbg).trans ((setCell_others _ g 1 _ b hbg).trans (setCell_others _ g 0 _ b hbg))
  rw [World.cell?_of_block e1, hg.stays (OB.move (w := wr) HW.o fun k hk => by rw [hW]; exact Below.heap_alloc _ _ k (HW.o.lt k hk).2) ho (by rw [hW, size_alloc']; omega) hi]
  exact World.cell?_of_block (by rw [hW]; exact Below.heap_alloc _ _ b hb)

set_option linter.unusedSimpArgs false in
set_option maxHeartbeats 4000000 in
theorem put_any {w : World} {K : Nat → Nat} {g : Nat} {v : Value} {d : List Int} {r : Int} {h : Nat} {row : List Int} (H0 : WW w K g v d r h) (L : Lies row d r h) (x : Int) (n : Nat) (x0 : 0 ≤ x) (x1 : x < 2 ^ n) (hn : n ≤ 32) (hd : d.length ≤ 140737488351232) :
    Calls Tryz.prog 27 #[.pointer (some ⟨g, 0, none⟩), .int .u64 x, .int .i64 n] w fun e w' => e = .returned (.tuple #[]) ∧ ∃ K' v' d' r' h', WW w' K' g v' d' r' h' ∧ Lies (row ++ bts x n) d' r' h' ∧ Fr K K' w w' ∧ Stays g w w' v d.length v' d'.length := by
  have H := hide H0
  have c0 : w.cell? ⟨g, 0, none⟩ = some v := H0.cell 0
  have c1 : w.cell? ⟨g, 1, none⟩ = some (.int .u64 r) := H0.cell 1
  have c2 : w.cell? ⟨g, 2, none⟩ = some (.int .i64 h) := H0.cell 2
  have hfz := H0.free
  obtain ⟨a, c, rfl⟩ := H0.o.shape
  have hh := L.h8
  obtain ⟨hor, hx0, hx1, hx2⟩ := u64_or L.r0 L.r1 x0 x1 (by omega)
  have hw : IntKind.u64.wrap (x * 2 ^ h) = x * 2 ^ h := by rw [IntKind.wrap_u64]; omega
  have HL := hide L
  clear H0 L x0 x1
  go_enter Tryz.func27, Tryz.ntmps27
  go_wp2
  go_region
  have HST : Hid (putRel w K g (.slice a d.length c) d.length (row ++ bts x n) (8 * d.length + (h + n)) ((w.setCell ⟨g, 1, none⟩ (.int .u64 (r + x * 2 ^ h))).setCell ⟨g, 2, none⟩ (.int .i64 ((h : Int) + n))).drew) := by
    obtain ⟨h1, f1⟩ := H.out.set 0 (.int .u64 (r + x * 2 ^ h))
    obtain ⟨h2, f2⟩ := h1.set 1 (.int .i64 ((h : Int) + n))
    have hL := HL.out
    have hp := pow_pos h
    refine ⟨K, .slice a d.length c, d, r + x * 2 ^ h, h + n, ?_, ⟨?_, hL.b, by have := hL.r0; omega, hx2⟩, by omega, ((f1.trans f2).drewN 1), ⟨fun b i hb hbg hi => ?_, .inl rfl, Nat.le_refl _, ((f1.trans f2).drewN 1).size⟩, rfl⟩
    · exact h2.drewN 1
    · rw [bts_join hL.r0 hL.r1, ← List.append_assoc, ← hL.e]
    · have e : ((w.setCell ⟨g, 1, none⟩ (.int .u64 (r + x * 2 ^ h))).setCell ⟨g, 2, none⟩ (.int .i64 ((h : Int) + n))).drew.heap[b]? = w.heap[b]? := (setCell_others _ g 2 _ b hbg).trans (setCell_others _ g 1 _ b hbg)
      exact World.cell?_of_block e
  have hm : d.length + 5 ≤ 140737488355328 := by omega
  obtain ⟨tr, HTR⟩ : ∃ tr, Hid (tr = row ++ bts x n) := ⟨_, rfl⟩
  rw [← HTR.out] at HST
  obtain ⟨M, HM⟩ : ∃ M, Hid (M = 8 * d.length + (h + n)) := ⟨_, rfl⟩
  rw [← HM.out] at HST
  have hM : M ≤ 8 * d.length + 40 := by rw [HM.out]; omega
  go_wp2
  clear hor hx0 hx1 hx2 hw c0 c1 c2 hfz
  go_loopw [] (fun wr => Hid (putRel w K g (.slice a d.length c) d.length tr M wr)) (fun wr => (intOf ((wr.cell? ⟨g, 2, none⟩).getD undef)).toNat)
  case atStart => exact HST
  case round =>
    clear HST
    obtain ⟨K1, v1, d1, R, hh1, hW, hHf, h40, hF, hS, hMM⟩ := hrel.out
    have hdl := hS.le
    clear hrel
    have HW := hide hW
    have HHf := hide hHf
    have HF := hide hF
    have HS := hide hS
    have c0 : wr.cell? ⟨g, 0, none⟩ = some v1 := hW.cell 0
    have c1 : wr.cell? ⟨g, 1, none⟩ = some (.int .u64 R) := hW.cell 1
    have c2 : wr.cell? ⟨g, 2, none⟩ = some (.int .i64 hh1) := hW.cell 2
    have hfz := hW.free
    have hgl := hW.lt
    obtain ⟨a1, p1, rfl⟩ := hW.o.shape
    clear hW hHf hF hS
    by_cases h8 : 8 ≤ hh1
    · have h8' : (8 : Int) ≤ hh1 := by omega
      obtain ⟨q, HQ⟩ : ∃ q, Hid (q = R % 256) := ⟨_, rfl⟩
      have hq : IntKind.u8.wrap R = q := by rw [IntKind.wrap_u8, HQ.out]
      have HK1 : Hid ((wr.alloc (.cells #[.int .u8 q] 5)).cell? ⟨g, 0, none⟩ = some (.slice a1 d1.length p1)) := by show _ = _; rw [((Below.refl wr.heap.size wr).alloc (Nat.le_refl _) _).cell hgl]; exact c0
      have k1 := HK1.out
      have HROW : Hid (∀ W : World, W.heap = (wr.alloc (.cells #[.int .u8 q] 5)).heap → OB W 0 (.slice a1 d1.length p1) d1) := fun W hW => OB.move (w := wr) HW.out.o fun x hx => by rw [hW]; exact Below.heap_alloc _ _ x (HW.out.o.lt x hx).2
      have HSRC : Hid (∀ W : World, W.heap = (wr.alloc (.cells #[.int .u8 q] 5)).heap → Src Tryz.prog 1 36 (.slice (some ⟨wr.heap.size, 0, none⟩) 1 1) ([q] : List Int).length (([q] : List Int).map (Value.int .u8)) W) := fun W hW => ((built_sb wr [q] (by unfold maxLen; simp)).heap hW).src
      have HLEN : Hid (d1.length + ([q] : List Int).length ≤ 140737488355328) := by show _ ≤ _; simp; omega
      have HG6 : Hid (∀ (W w6 : World) (u : Value), W.heap = (wr.alloc (.cells #[.int .u8 q] 5)).heap → Grew W w6 (.slice a1 d1.length p1) u → (w6.cell? ⟨g, 0, none⟩ = some (.slice a1 d1.length p1) ∧ w6.cell? ⟨g, 1, none⟩ = some (.int .u64 R) ∧ w6.cell? ⟨g, 2, none⟩ = some (.int .i64 hh1)) ∧ ∀ o, w6.frozen? ⟨g, o, none⟩ = false) := fun W w6 u hW hg => by
        have e1 : w6.heap[g]? = wr.heap[g]? := (hg.by.block g (by rw [hW, size_alloc']; omega) (fun e => HW.out.ng e.symm)).trans (by rw [hW]; exact Below.heap_alloc _ _ g hgl)
        have e2 := e1.trans HW.out.s
        exact ⟨⟨by simp [World.cell?, e2], by simp [World.cell?, e2], by simp [World.cell?, e2]⟩, fun o => by simp [World.frozen?, e2]⟩
      go_wp2
      go_region_law (refine step_app (by rfl) _ _ (by rfl) (.slice a1 d1.length p1) (.slice (some ⟨wr.heap.size, 0, none⟩) 1 1) d1 [q] (by simp [Act.eval, Act.put]) (by simp [Act.eval, Act.put]) (HROW.out _ (by rfl)) (HSRC.out _ (by rfl)) (by simp) HLEN.out ?_; intro gg cap6 w6 hown6 hgrow6; obtain ⟨⟨t0, t1, t2⟩, tf⟩ := HG6.out _ w6 _ (by rfl) hgrow6; have HALL := hide (And.intro hown6 hgrow6); clear hown6 hgrow6)
      all_goals
        have HN : Hid (putRel w K g (.slice a d.length c) d.length tr M (((w6.setCell ⟨g, 0, none⟩ (.slice (some ⟨gg, 0, none⟩) (d1.length + 1) cap6)).setCell ⟨g, 1, none⟩ (.int .u64 (R / 256))).setCell ⟨g, 2, none⟩ (.int .i64 ((hh1 : Int) - 8)))) := by
          obtain ⟨K', a1, a2, a3⟩ := HW.out.next (R' := R / 256) (by rfl) (by rfl) (by rfl) (by rfl) HALL.out.1 HALL.out.2 ((hh1 : Int) - 8) (hh1 - 8) (by omega)
          have hst := HHf.out.step h8
          rw [← HQ.out] at hst
          exact ⟨K', _, d1 ++ [q], R / 256, hh1 - 8, a1, hst, by omega, HF.out.trans a2, HS.out.trans a3, by rw [List.length_append]; simp only [List.length_singleton]; omega⟩
        have HMS : Hid ((intOf (((((w6.setCell ⟨g, 0, none⟩ (.slice (some ⟨gg, 0, none⟩) (d1.length + 1) cap6)).setCell ⟨g, 1, none⟩ (.int .u64 (R / 256))).setCell ⟨g, 2, none⟩ (.int .i64 ((hh1 : Int) - 8))).cell? ⟨g, 2, none⟩).getD undef)).toNat < (intOf ((wr.cell? ⟨g, 2, none⟩).getD undef)).toNat) := by
          obtain ⟨K', a1, a2, a3⟩ := HW.out.next (R' := R / 256) (by rfl) (by rfl) (by rfl) (by rfl) HALL.out.1 HALL.out.2 ((hh1 : Int) - 8) (hh1 - 8) (by omega)
          have hc2 := a1.cell 2
          simp only [List.length_cons, List.length_nil, Nat.zero_add] at hc2
          show _ < _
          rw [hc2, c2]
          simp [intOf]
          omega
        clear HALL HROW HSRC HG6 HK1 k1 c0 c1 c2
        go_wp2
        go_roundw
        case rel => exact HN
        case measure => exact HMS.out
    · have h8' : (hh1 : Int) < 8 := by omega
      have HFIN : Hid (∃ K' v' d' r' h', WW wr K' g v' d' r' h' ∧ Lies (row ++ bts x n) d' r' h' ∧ Fr K K' w wr ∧ Stays g w wr (.slice a d.length c) d.length v' d'.length) := ⟨K1, _, d1, R, hh1, HW.out, ⟨by rw [← HTR.out]; exact HHf.out.e, HHf.out.b, HHf.out.r0, HHf.out.r1, by omega⟩, HF.out, HS.out⟩
      clear c0 c1 hfz
      go_wp2
      (try simp only [Exit.inBlock, Exit.then]); refine bodyPost_end (results_none rfl _ _ _) rfl ?_
      exact ⟨rfl, HFIN.out⟩
end Go.Proofs.YtiabhmdefaabgacGreatDoor

namespace Go.Proofs.YtiabhmdefaabgacGreatDoor
open Go.RowKit Go.Maps
set_option maxRecDepth 20000

/-- The program's writer, with its row of bits. -/
def Wp (w : World) (K : Nat → Nat) (g : Nat) (row : List Int) : Prop := ∃ v d r h, WW w K g v d r h ∧ Lies row d r h ∧ row.length ≤ 268435456

theorem Wp.bit {w : World} {K : Nat → Nat} {g : Nat} {row : List Int} (h : Wp w K g row) : Bit row := by
  obtain ⟨_, _, _, _, _, h, _⟩ := h
  exact h.bit

theorem Wp.top {w : World} {K : Nat → Nat} {g : Nat} {row : List Int} (h : Wp w K g row) : row.length ≤ 268435456 := by
  obtain ⟨_, _, _, _, _, _, h⟩ := h
  exact h

theorem Wp.far {w w' : World} {K : Nat → Nat} {g : Nat} {row : List Int} (h : Wp w K g row) (hsz : w.heap.size ≤ w'.heap.size) (hb : ∀ k, K k ≠ 0 → w'.heap[k]? = w.heap[k]?) : Wp w' K g row := by
  obtain ⟨v, d, r, n, h1, h2, h3⟩ := h
  exact ⟨v, d, r, n, h1.far hsz hb, h2, h3⟩

theorem Wp.drewN {w : World} {K : Nat → Nat} {g : Nat} {row : List Int} (h : Wp w K g row) (n : Nat) : Wp (w.drewN n) K g row := h.far (Nat.le_refl _) (fun _ _ => rfl)

theorem Wp.sup {w : World} {K : Nat → Nat} {g : Nat} {row : List Int} (h : Wp w K g row) : ∀ k, K k ≠ 0 → k < w.heap.size := by
  obtain ⟨_, _, _, _, h, _⟩ := h
  exact h.sup

theorem wlen_any {w : World} {K : Nat → Nat} {g : Nat} {row : List Int} (h : Wp w K g row) :
    Calls Tryz.prog 10 #[.pointer (some ⟨g, 0, none⟩)] w fun e w' => e = .returned (.int .i64 row.length) ∧ ∃ n, w' = w.drewN n := by
  obtain ⟨v, d, r, n, h1, h2, h3⟩ := h
  have c0 : w.cell? ⟨g, 0, none⟩ = some v := h1.cell 0
  have c2 : w.cell? ⟨g, 2, none⟩ = some (.int .i64 n) := h1.cell 2
  obtain ⟨a, c, rfl⟩ := h1.o.shape
  have hl := h2.len
  have hd : d.length ≤ 33554432 := by omega
  have hn := h2.h8
  have HL : Hid ((row.length : Int) = 8 * d.length + n) := by show _ = _; omega
  clear h1 h2 hl h3
  rw [HL.out]
  go_enter Tryz.func10, Tryz.ntmps10
  go_wp2
  go_quiet (fail)
  go_wp2
  go_ret
  exact ⟨rfl, _, rfl⟩

theorem room_any {w : World} {K : Nat → Nat} {g : Nat} {row : List Int} (h : Wp w K g row) :
    Calls Tryz.prog 26 #[.pointer (some ⟨g, 0, none⟩)] w fun e w' => e = .returned (.int .i64 (268435456 - (row.length : Int))) ∧ ∃ n, w' = w.drewN n := by
  have H := hide h
  have ht := h.top
  clear h
  go_enter Tryz.func26, Tryz.ntmps26
  go_wp2_with fail
  refine (wlen_any H.out).mono ?_
  rintro e w' ⟨rfl, n, rfl⟩
  go_wp2
  go_ret
  exact ⟨rfl, n, rfl⟩

def putOk (row : List Int) (v n : Int) : Prop := Fit v n ∧ (row.length : Int) + n ≤ 268435456
instance (row : List Int) (v n : Int) : Decidable (putOk row v n) := by unfold putOk; exact inferInstance
def putE (row : List Int) (v n : Int) : Int := if putOk row v n then 0 else 1
def putRow (row : List Int) (v n : Int) : List Int := if putOk row v n then row ++ bts v n.toNat else row

theorem wput_any {w : World} {K : Nat → Nat} {g : Nat} {row : List Int} (h : Wp w K g row) (v n : Int) (hv : 0 ≤ v) (hv1 : v < 4294967296) :
    Calls Tryz.prog 17 #[.pointer (some ⟨g, 0, none⟩), .int .u32 v, .int .i64 n] w fun e w' => e = .returned (.int .i64 (putE row v n)) ∧ ∃ K', Wp w' K' g (putRow row v n) ∧ Fr K K' w w' := by
  have H := hide h
  have ht := h.top
  clear h
  by_cases hf : Fit v n
  case neg =>
    have HE : Hid (putE row v n = 1 ∧ putRow row v n = row) := ⟨if_neg fun h => hf h.1, if_neg fun h => hf h.1⟩
    have HD : Hid (decide (Fit v n) = false) := decide_eq_false hf
    clear hf
    go_enter Tryz.func17, Tryz.ntmps17
    go_wp2_with fail
    refine (fits_any v n hv hv1 _).mono ?_
    rintro e w' ⟨rfl, rfl⟩
    rw [HD.out]
    go_wp2
    go_ret
    rw [HE.out.1, HE.out.2]
    exact ⟨rfl, K, H.out, Fr.refl _ _⟩
  case pos =>
  have HD : Hid (decide (Fit v n) = true) := decide_eq_true hf
  obtain ⟨⟨n0, n1⟩, hf2⟩ := id hf
  by_cases hr : (row.length : Int) + n ≤ 268435456
  case neg =>
    have HE : Hid (putE row v n = 1 ∧ putRow row v n = row) := ⟨if_neg fun h => hr h.2, if_neg fun h => hr h.2⟩
    clear hf hf2
    go_enter Tryz.func17, Tryz.ntmps17
    go_wp2_with fail
    refine (fits_any v n hv hv1 _).mono ?_
    rintro e w' ⟨rfl, rfl⟩
    rw [HD.out]
    go_wp2_with fail
    refine (room_any H.out).mono ?_
    rintro e w1 ⟨rfl, q, rfl⟩
    go_wp2
    go_ret
    rw [HE.out.1, HE.out.2]
    exact ⟨rfl, K, H.out.drewN _, (Fr.refl _ _).drewN _⟩
  case pos =>
    have HE : Hid (putE row v n = 0 ∧ putRow row v n = row ++ bts v n.toNat) := ⟨if_pos ⟨hf, hr⟩, if_pos ⟨hf, hr⟩⟩
    clear hf
    obtain ⟨m, rfl⟩ : ∃ m : Nat, n = m := ⟨n.toNat, by omega⟩
    have HV : Hid (v < 2 ^ m) := by show _ < _; simpa using hf2
    clear hf2
    go_enter Tryz.func17, Tryz.ntmps17
    go_wp2_with fail
    refine (fits_any v m hv hv1 _).mono ?_
    rintro e w' ⟨rfl, rfl⟩
    rw [HD.out]
    go_wp2_with fail
    refine (room_any H.out).mono ?_
    rintro e w1 ⟨rfl, q, rfl⟩
    obtain ⟨u, d, r, k, a1, a2, a3⟩ := H.out
    have hl := a2.len
    have hdl : d.length ≤ 140737488351232 := by omega
    have HA1 := hide (a1.drewN q)
    have HA2 := hide a2
    clear a1 a2 hl
    go_wp2_with fail
    refine (put_any (v := u) HA1.out HA2.out v m hv HV.out (by omega) hdl).mono ?_
    rintro e w2 ⟨rfl, K', v', d', r', h', b1, b2, b3, _⟩
    have HF : Hid (∃ K', Wp w2 K' g (putRow row v m) ∧ Fr K K' w' w2) := by
      refine ⟨K', ⟨v', d', r', h', b1, ?_, ?_⟩, ((Fr.refl _ _).drewN q).trans b3⟩
      · rw [HE.out.2]; exact b2
      · rw [HE.out.2, List.length_append, length_bts]; simp only [Int.toNat_natCast]; omega
    clear b1 b2 b3
    go_wp2
    go_ret
    rw [HE.out.1]
    exact ⟨rfl, HF.out⟩

def alignRow (row : List Int) : List Int := pad row

theorem top_pad {row : List Int} (h : row.length ≤ 268435456) : (pad row).length ≤ 268435456 := by
  rw [length_pad]; omega

/-- A writer just made. -/
def MadeW (w : World) (e : Ending) (w' : World) : Prop := ∃ g K, e = .returned (.pointer (some ⟨g, 0, none⟩)) ∧ Wp w' K g [] ∧ (∀ k, K k ≠ 0 → w.heap.size ≤ k) ∧ Below w.heap.size w w'

theorem newWriter_any (w : World) : Calls Tryz.prog 15 #[] w fun e w' => MadeW w e w' := by
  go_enter Tryz.func15, Tryz.ntmps15
  go_wp2
  go_ret
  refine ⟨_, fun k => if k = w.heap.size then 1 else 0, rfl, ⟨.slice none 0 0, [], 0, 0, ⟨heap_alloc_new w _, by simp, World.ownsRow_nil _ _ _ _, (fun k hk => by simp [Value.ownBlock] at hk), fun k hk => ?_⟩, lies_nil, by simp⟩, fun k hk => ?_, (Below.refl _ _).alloc (Nat.le_refl _) _⟩
  · by_cases e : k = w.heap.size
    · rw [e, size_alloc']; omega
    · simp [e] at hk
  · by_cases e : k = w.heap.size
    · omega
    · simp [e] at hk
end Go.Proofs.YtiabhmdefaabgacGreatDoor

namespace Go.Proofs.YtiabhmdefaabgacGreatDoor
open Go.RowKit Go.Maps
set_option maxRecDepth 20000

/-- The bytes of the writer: new memory. -/
theorem wbytes_any {w : World} {K : Nat → Nat} {g : Nat} {row : List Int} (h : Wp w K g row) :
    Calls Tryz.prog 13 #[.pointer (some ⟨g, 0, none⟩)] w fun e w' => ∃ a c, e = .returned (.slice a (pack row).length c) ∧ OB w' w.heap.size (.slice a (pack row).length c) (pack row) ∧ Below w.heap.size w w' := by
  obtain ⟨v, d, r, n, h1, h2, h3⟩ := h
  have c0 : w.cell? ⟨g, 0, none⟩ = some v := h1.cell 0
  have c1 : w.cell? ⟨g, 1, none⟩ = some (.int .u64 r) := h1.cell 1
  have c2 : w.cell? ⟨g, 2, none⟩ = some (.int .i64 n) := h1.cell 2
  obtain ⟨a, c, rfl⟩ := h1.o.shape
  have hl := h2.len
  have hn := h2.h8
  have hd : d.length ≤ 33554432 := by omega
  have hgl := h1.lt
  have HA1 := hide h1
  have HA2 := hide h2
  obtain ⟨T, HT⟩ : ∃ T, Hid (T = pack row) := ⟨_, rfl⟩
  rw [← HT.out]
  have HT2 : Hid (T = d ++ tail r n) := HT.out.trans h2.pack
  clear h1 h2 hl
  go_enter Tryz.func13, Tryz.ntmps13
  go_wp2_with (at_make; refine wpList_mk rfl _ _ rfl _ _ _ _ 0 (d.length + 1) rfl rfl rfl (by first | rfl | (simp; done)) (by omega) (by omega) ?_)
  intro w1 hg hb1
  have ho : OB w1 w.heap.size (.slice (some ⟨w.heap.size, 0, none⟩) 0 (d.length + 1)) [] := ⟨by simp, .inr ⟨w.heap.size, d.length + 1, _, rfl, Nat.le_refl _, hg, by simp, by unfold maxLen; omega, by simp, by simp⟩⟩
  have HO := hide ho
  have HB1 := hide hb1
  have HSRC : Hid (SB w1 (.slice a d.length c) d) := HA1.out.o.sb.below hb1
  have k0 : w1.cell? ⟨g, 0, none⟩ = some (.slice a d.length c) := (hb1.cell hgl).trans c0
  have hw1 : w.heap.size ≤ w1.heap.size := hb1.size
  clear ho hg hb1
  go_wp2_with (at_builtin; refine wpList_app rfl _ _ 36 rfl w.heap.size _ _ [] d rfl HO.out rfl HSRC.out.src (by simp; omega) hw1 ?_)
  intro v2 w2 ho2 hgr2
  have ho2' : OB w2 w.heap.size v2 d := ho2
  have hb2 : Below w.heap.size w w2 := HB1.out.grown hgr2.by hw1 (fun k hk => by simp [Value.ownBlock] at hk; omega)
  have k1 : w2.cell? ⟨g, 1, none⟩ = some (.int .u64 r) := (hb2.cell hgl).trans c1
  have k2 : w2.cell? ⟨g, 2, none⟩ = some (.int .i64 n) := (hb2.cell hgl).trans c2
  have hw2 := hb2.size
  have HO2 := hide ho2'
  have HB2 := hide hb2
  obtain ⟨a2, p2, rfl⟩ := ho2'.shape
  clear ho2 ho2' hgr2 hb2 HO HSRC k0
  by_cases h0 : n = 0
  · subst h0
    have HTd : Hid (T = d) := by show _ = _; rw [HT2.out]; simp [tail]
    go_wp2
    go_ret
    rw [HTd.out]
    exact ⟨_, _, rfl, HO2.out, HB2.out⟩
  · have h0' : (0 : Int) < n := by omega
    have hr := pow_lt256 hn HA2.out.r1
    have hr0 := HA2.out.r0
    have hrw : IntKind.u8.wrap r = r := by rw [IntKind.wrap_u8]; omega
    have HTd : Hid (T = d ++ [r]) := by show _ = _; rw [HT2.out]; simp [tail, h0]
    have HALC : Hid (OB (w2.alloc (.cells #[.int .u8 r] 5)) w.heap.size (.slice a2 d.length p2) d) := HO2.out.alloc _
    have HSR : Hid (Src Tryz.prog 1 36 (.slice (some ⟨w2.heap.size, 0, none⟩) 1 1) ([r] : List Int).length (([r] : List Int).map (Value.int .u8)) (w2.alloc (.cells #[.int .u8 r] 5))) := (built_sb w2 [r] (by unfold maxLen; simp)).src
    go_wp2_with (at_builtin; refine wpList_app rfl _ _ 36 rfl w.heap.size _ _ d [r] rfl HALC.out rfl HSR.out (by simp; omega) (by simp; omega) ?_)
    intro v3 w3 ho3 hgr3
    have hb3 : Below w.heap.size w w3 := (HB2.out.alloc hw2 _).grown hgr3.by (by simp; omega) (fun k hk => by have := HO2.out.lt k hk; omega)
    obtain ⟨a3, p3, rfl⟩ := ho3.shape
    have HO3 := hide ho3
    have HB3 := hide hb3
    clear ho3 hgr3 hb3
    go_wp2
    go_ret
    rw [HTd.out]
    exact ⟨_, _, rfl, HO3.out, HB3.out⟩

theorem zeroCells_byte (n : Nat) : (Builtin.zeroCells #[Value.int .u8 0] n) = (List.replicate n (Value.int .u8 0)).toArray := by
  have e : ∀ k : Nat, [Value.int IntKind.u8 0][k % 1]?.getD default = Value.int .u8 0 := fun k => by simp [Nat.mod_one]
  apply Array.ext'
  simp [Builtin.zeroCells, e, List.map_const']

set_option linter.unusedSimpArgs false in
/-- append of zeros onto a full slice: a new block. -/
theorem run_app_zeros (w : World) (ty : TypeId) (v : Value) (n : Nat) (xs : List Value) (hv : (v = .slice none 0 0 ∧ n = 0 ∧ xs = []) ∨ ∃ g, v = .slice (some ⟨g, 0, none⟩) n n ∧ w.heap[g]? = some (.cells xs.toArray 5 (0, 0)) ∧ xs.length = n) (m : Nat) (hm : 0 < m) (hb : n + m ≤ 140737488355328) :
    ∃ C w', (Builtin.append_ #[36, 3] ty #[v, .int .i64 m]).run Tryz.prog w = .ok (.slice (some ⟨w.heap.size, 0, none⟩) (n + m) C) w' ∧ n + m ≤ C ∧ C ≤ maxLen ∧ (∃ zs : List Value, w'.heap[w.heap.size]? = some (.cells (xs ++ zs).toArray 5 (0, 0)) ∧ xs.length + zs.length = C) ∧ Below w.heap.size w w' := by
  obtain ⟨i, hi, hz, hsize, hby⟩ := info_parts info5
  have ht := Tryz.underlying36
  have hti := Tryz.underlying3
  have hwr : IntKind.i64.wrap (m : Int) = m := by rw [IntKind.wrap_i64]; omega
  have hneg : ¬ ((m : Int) < 0) := by omega
  have hbig : ¬ (281474976710656 < (m : Int)) := by omega
  have hm0 : m ≠ 0 := by omega
  have hge := fun old => grownCap_ge w (n + m) old 5
  have hcm := fun old => grownCap_le_maxLen w (n + m) old 5 (by unfold maxLen; omega)
  have has : ∀ W : World, (asInt (Value.int .i64 m)).run Tryz.prog W = .ok (m : Int) W := fun _ => rfl
  have hcl : (Value.int .u8 0).cells = #[Value.int .u8 0] := rfl
  have grown : ∀ old : Nat, xs.length = n →
      (∃ zs : List Value, (w.drew.alloc (.cells (xs.toArray ++ (List.replicate m (Value.int .u8 0)).toArray ++ (List.replicate (grownCap w (n + m) old 5 - (n + m)) (Value.int .u8 0)).toArray) 5)).heap[w.heap.size]? = some (.cells (xs ++ zs).toArray 5 (0, 0)) ∧ xs.length + zs.length = grownCap w (n + m) old 5) ∧
      Below w.heap.size w (w.drew.alloc (.cells (xs.toArray ++ (List.replicate m (Value.int .u8 0)).toArray ++ (List.replicate (grownCap w (n + m) old 5 - (n + m)) (Value.int .u8 0)).toArray) 5)) := by
    intro old hxl
    have h1 := hge old
    refine ⟨⟨List.replicate m (Value.int .u8 0) ++ List.replicate (grownCap w (n + m) old 5 - (n + m)) (Value.int .u8 0), ?_, ?_⟩, (Below.refl _ _).drew.alloc (Nat.le_refl _) _⟩
    · refine (heap_alloc_new w.drew _).trans ?_
      simp
    · simp; omega
  rcases hv with ⟨rfl, rfl, rfl⟩ | ⟨g, rfl, hg, hxl⟩
  · have h48 : ¬ (281474976710656 < Builtin.nextslicecap m 0) := by rw [nextslicecap_zero hm]; omega
    have hgr := grown 0 rfl
    have h1 := hge 0
    simp only [Nat.zero_add, List.nil_append] at hgr h1 ⊢
    refine ⟨_, _, ?_, h1, by simpa using hcm 0, hgr.1, hgr.2⟩
    have hle : ¬ ((m : Int) ≤ 0) := by omega
    simp [Builtin.append_, run_underlying ht, run_underlying hti, has, hcl, hle, sizeOf, typeInfo, zeroValue, hi, hz, hsize, hby, hwr, hneg, hbig, hm0, h48, zeroCells_byte, Question.forced, run_firstCells_none, newRow, grownCap]
    intro h
    omega
  · have h48 : ¬ (281474976710656 < Builtin.nextslicecap (n + m) n) := by have := growslice_fits (need := n + m) (old := n) (bytes := 1) (by omega) (by omega); omega
    have holds : ∀ j u, xs[j]? = some u → w.cell? ((⟨g, 0, none⟩ : Addr).add j) = some u := fun j u hj => by
      rw [Addr.add_lit]
      unfold World.cell?
      simp only [hg, Nat.zero_add]
      simpa using hj
    have hfo := run_firstCells_some (P := Tryz.prog) w.drew 1 n ⟨g, 0, none⟩ n n xs (by omega) (by simpa using holds)
    have h63' : ¬ (9223372036854775807 < (n : Int) + (m : Int)) := by omega
    have hroom : ¬ n + m ≤ n := by omega
    have hgr := grown n hxl
    refine ⟨_, _, ?_, hge n, hcm n, hgr.1, hgr.2⟩
    simp [Builtin.append_, run_underlying ht, run_underlying hti, has, hcl, sizeOf, typeInfo, zeroValue, hi, hz, hsize, hby, hwr, hneg, hbig, hm0, hroom, h48, h63', zeroCells_byte, Question.forced, hfo, newRow, grownCap]

theorem wpList_app_zeros {w : World} {ops : Array Oper} {rest : List Oper} {o : Oper} {a : Act} {Q : Exit → Act → World → Prop} (hgd : o.guard = none) (s x : Operand)
    (ho : o.op = .call { callee := .builtin .append, args := #[s, x], argTypes := #[36, 3] }) (v : Value) (n : Nat) (xs : List Value) (hs : a.eval s = v) (hv : (v = .slice none 0 0 ∧ n = 0 ∧ xs = []) ∨ ∃ g, v = .slice (some ⟨g, 0, none⟩) n n ∧ w.heap[g]? = some (.cells xs.toArray 5 (0, 0)) ∧ xs.length = n) (m : Nat) (M : Int) (hx : a.eval x = .int .i64 M) (hM : M = m) (hm : 0 < m) (hb : n + m ≤ 140737488355328)
    (h : ∀ C w', n + m ≤ C → C ≤ maxLen → (∃ zs : List Value, w'.heap[w.heap.size]? = some (.cells (xs ++ zs).toArray 5 (0, 0)) ∧ xs.length + zs.length = C) → Below w.heap.size w w' → wpList Tryz.prog ops Q rest (a.put o.dst (.slice (some ⟨w.heap.size, 0, none⟩) (n + m) C)) w') :
    wpList Tryz.prog ops Q (o :: rest) a w := by
  refine wpList_plain hgd fun K hK => ?_
  subst hM
  obtain ⟨C, w', hr, h1, h2, h3, h4⟩ := run_app_zeros w o.type v n xs hv m hm hb
  unfold Oper.wp
  simp [execOp, ho, resolve, invoke, builtin, hs, hx, hr, Result.andThen]
  exact hK _ _ (h C w' h1 h2 h3 h4)

theorem grow_any (v : Value) (d : List Int) (n : Nat) (w : World) (h : OB w 0 v d) (hd : d.length ≤ 33554432) (hn : n ≤ 33554432) :
    Calls Tryz.prog 62 #[v, .int .i64 n] w fun e w' => ∃ a c, e = .returned (.slice a d.length c) ∧ OB w' 0 (.slice a d.length c) d ∧ Grew w w' v (.slice a d.length c) := by
  have H := hide h
  rcases h.2 with ⟨rfl, h0⟩ | ⟨g, cap, cur, rfl, k1, k2, k3, k4, k5, k6⟩
  · have e : d = [] := List.eq_nil_of_length_eq_zero h0
    subst e
    clear h
    by_cases hn0 : n = 0
    · subst hn0
      go_enter Tryz.func62, Tryz.ntmps62
      go_wp2
      go_ret
      exact ⟨none, 0, rfl, H.out, .inl ⟨rfl, rfl⟩⟩
    · have hnp : (0 : Int) < n := by omega
      go_enter Tryz.func62, Tryz.ntmps62
      go_wp2_with (at_builtin; refine wpList_app_zeros rfl _ _ rfl _ 0 [] rfl (.inl ⟨rfl, rfl, rfl⟩) n _ rfl (by first | rfl | (simp; done)) (by omega) (by omega) ?_)
      intro C w1 h1 h2 zs h3 h5 h4
      have HO : Hid (OB w1 0 (.slice (some ⟨w.heap.size, 0, none⟩) 0 C) []) := ⟨by simp, .inr ⟨w.heap.size, C, _, rfl, Nat.zero_le _, h3, Nat.zero_le _, h2, by simp at h5 ⊢; omega, by simp⟩⟩
      have HB := hide h4
      unfold maxLen at h2
      clear h3 h4 h5
      go_wp2
      go_ret
      exact ⟨_, _, rfl, HO.out, .inr (.inl ⟨rfl, HB.out⟩)⟩
  · have K2 := hide k2
    have K5 : Hid (cur.toList.length = cap) := by show _ = _; rw [Array.length_toList]; omega
    have K6 : Hid (cur.toList.take d.length = d.map (Value.int .u8)) := by show _ = _; simpa using k6
    unfold maxLen at k4
    clear k2 k5 k6 h
    by_cases hroom : d.length + n ≤ cap
    · go_enter Tryz.func62, Tryz.ntmps62
      go_wp2
      go_ret
      exact ⟨_, _, rfl, H.out, .inl ⟨rfl, rfl⟩⟩
    · obtain ⟨m, hm⟩ : ∃ m : Nat, d.length + n = cap + m := ⟨d.length + n - cap, by omega⟩
      have hm0 : 0 < m := by omega
      have hmi : (n : Int) - ((cap : Int) - d.length) = m := by omega
      have HV : Hid (∃ g', (Value.slice (some ⟨g, 0, none⟩) cap cap) = .slice (some ⟨g', 0, none⟩) cap cap ∧ w.heap[g']? = some (.cells cur.toList.toArray 5 (0, 0)) ∧ cur.toList.length = cap) := ⟨g, rfl, by simpa using K2.out, K5.out⟩
      have HMI := hide hmi
      clear hmi
      go_enter Tryz.func62, Tryz.ntmps62
      go_wp2_with (at_builtin; refine wpList_app_zeros rfl _ _ rfl _ cap cur.toList rfl (.inr HV.out) m _ rfl HMI.out hm0 (by omega) ?_)
      intro C w1 h1 h2 zs h3 h5 h4
      have HO : Hid (OB w1 0 (.slice (some ⟨w.heap.size, 0, none⟩) d.length C) d) := by
        have hcl := K5.out
        refine ⟨by simp, .inr ⟨w.heap.size, C, _, rfl, Nat.zero_le _, h3, by omega, h2, by simp at h5 ⊢; omega, ?_⟩⟩
        rw [Nat.mul_one, List.toList_toArray, List.take_append_of_le_length (by omega)]
        exact K6.out
      have HB := hide h4
      unfold maxLen at h2
      have hC : (d.length : Int) ≤ C := by omega
      clear h3 h4 h5
      go_wp2
      go_ret
      exact ⟨_, _, rfl, HO.out, .inr (.inl ⟨rfl, HB.out⟩)⟩
end Go.Proofs.YtiabhmdefaabgacGreatDoor

