import Derived.Test.YtlleajegfeilfaaGWcp
import Derived.Test.YtlleajegfeilfaaGFrm
namespace Go.Proofs.Ytlleajegfeilfaa
open Go.RowKit Go.Maps
set_option maxRecDepth 20000
set_option linter.unusedVariables false
set_option linter.unusedSimpArgs false

theorem Grew.by {w w' : World} {v v' : Value} (h : Grew w w' v v') : w.grownBy w' v.ownBlock := by
  rcases h with ⟨_, rfl⟩ | ⟨_, hb⟩ | ⟨_, _, hg⟩
  · exact World.grownBy.refl _ _
  · exact ⟨hb.os, hb.tape, hb.output, hb.size, fun k hk _ => hb.block k hk⟩
  · exact hg

theorem Grew.at {w w' : World} {v v' : Value} (h : Grew w w' v v') : v'.ownBlock = some w.heap.size ∨ v'.ownBlock = v.ownBlock := by
  rcases h with ⟨rfl, _⟩ | ⟨h, _⟩ | ⟨h, _⟩
  · exact .inr rfl
  · exact .inl h
  · exact .inr h

theorem built_src (w : World) (cs : List Int) : Src Try.prog 1 27 (.slice (some ⟨w.heap.size, 0, none⟩) cs.length cs.length) cs.length (cs.map (Value.int .u8)) (w.alloc (.cells (cs.map (Value.int .u8)).toArray 5)) := by
  refine Src.ofSlice _ Try.underlying27 _ _ _ _ (by simp) (fun j u hj => ?_) (fun u hu => by obtain ⟨n, _, rfl⟩ := List.mem_map.1 hu; rfl)
  have e := heap_alloc_new w (.cells (cs.map (Value.int .u8)).toArray 5)
  rw [Addr.add_lit]
  unfold World.cell?
  simp only [e, Nat.zero_add]
  simpa using hj

theorem OB.alloc {w : World} {base : Nat} {v : Value} {l : List Int} (h : OB w base v l) (o : Obj) : OB (w.alloc o) base v l := h.move fun k hk => Below.heap_alloc w o k (h.lt k hk).2

def marks4 : List Int := [192, 193, 194, 195]

theorem framed_any (v : Value) (l : List Int) (w : World) (h : SB w v l) (hr : l.length ≤ 140737488351232) :
    Calls Try.prog 9 #[v] w fun e w' => ∃ g c, e = .returned (.slice (some ⟨g, 0, none⟩) (l.length + 4) c) ∧ OB w' w.heap.size (.slice (some ⟨g, 0, none⟩) (l.length + 4) c) (l ++ marks4) ∧ Below w.heap.size w w' := by
  obtain ⟨ao, cap, rfl, hlc, hcm, hnil, hcell⟩ := h
  unfold maxLen at hcm
  go_enter Try.func9, Try.ntmps9
  go_wp2_with (at_make; refine wpList_mk rfl _ _ rfl _ _ _ _ l.length (l.length + 4) rfl rfl rfl (by first | rfl | (simp; done)) (by omega) (by omega) ?_)
  intro w1 hg hb1
  have Hg := hide hg
  clear hg
  have HN : Hid (ao = none → cap = 0) := hnil
  have HC : Hid (∀ x, ao = some x → ∀ i, i < l.length → w.cell? (x.add i) = some (.int .u8 (l.getD i 0))) := hcell
  clear hnil hcell
  obtain ⟨cs, hcs⟩ : ∃ cs, cs = l.map (Value.int .u8) := ⟨_, rfl⟩
  have HS : Hid (cs = l.map (Value.int .u8)) := hcs
  clear hcs
  have C1 : Hid (cs.length = Nat.min l.length l.length) := by show _ = _; rw [HS.out]; simp
  have C2 : Hid (0 < cs.length → (some (⟨w.heap.size, 0, none⟩ : Addr)) = some ⟨w.heap.size, 0, none⟩ ∧ ∃ ad, ao = some ad ∧ ∀ j v, cs[j]? = some v → w1.cell? (ad.add j) = some v) := by
    intro hp
    refine ⟨rfl, ?_⟩
    rw [HS.out, List.length_map] at hp
    cases ao with
    | none => have := HN.out rfl; omega
    | some x =>
      refine ⟨x, rfl, fun j u hj => ?_⟩
      rw [HS.out] at hj
      obtain ⟨hjl, rfl⟩ := List.getElem?_eq_some_iff.1 hj
      have hjl' : j < l.length := by simpa using hjl
      have hc := HC.out x rfl j hjl'
      rw [hb1.cell (by have := World.block_lt_of_cell? _ _ hc; exact this), hc]
      simp [hjl']
  have C3 : Hid (0 + cs.length ≤ (List.replicate (l.length + 4) (Value.int .u8 0)).length) := by show _ ≤ _; rw [HS.out]; simp
  have C4 : Hid (∀ v ∈ cs, v.oneCell' = true) := by rw [HS.out]; intro u hu; obtain ⟨n, _, rfl⟩ := List.mem_map.1 hu; rfl
  go_wp2_with (refine wpList_copy_splice rfl _ _ 27 27 rfl 5 Try.underlying27 sizeByte _ _ _ _ _ _ rfl rfl w.heap.size 0 (List.replicate (l.length + 4) (Value.int .u8 0)) 5 Hg.out cs C1.out C2.out C3.out C4.out w.heap.size w hb1 (Nat.le_refl _) ?_)
  intro w2 HG2 hb2
  have HF : Hid (OB w2 w.heap.size (.slice (some ⟨w.heap.size, 0, none⟩) l.length (l.length + 4)) l) := by
    have hg := HG2.out
    rw [splice_front _ _ _ _ (by rw [HS.out]; simp), HS.out] at hg
    exact ⟨by simp, .inr ⟨w.heap.size, l.length + 4, _, rfl, Nat.le_refl _, hg, by omega, by unfold maxLen; omega, by simp, by simp⟩⟩
  have HB2 := hide hb2
  clear C1 C2 C3 C4 HS HN HC Hg HG2 hb1 hb2
  go_wp2_with (at_builtin; refine wpList_app rfl _ _ 27 rfl w.heap.size _ _ l marks4 rfl (HF.out.alloc _) rfl (built_src w2 marks4) (by show _ + 4 ≤ _; omega) (by have := HB2.out.size; simp; omega) ?_)
  intro v' w3 ho hgr
  rcases ho.2 with ⟨_, hx⟩ | ⟨g, c, cur, rfl, k1, k2, k3, k4, k5, k6⟩
  · simp [marks4] at hx
  have e4 : (l ++ marks4).length = l.length + 4 := by simp [marks4]
  rw [e4] at ho
  rw [e4]
  have HO := hide ho
  have HB3 : Hid (Below w.heap.size w w3) := (HB2.out.alloc HB2.out.size _).grown hgr.by (by have := HB2.out.size; simp; omega) (fun k hk => by simp [Value.ownBlock] at hk; omega)
  clear ho hgr k2 k6 k5 k3
  go_wp2
  go_ret
  exact ⟨g, c, rfl, HO.out, HB3.out⟩

theorem SB.cellsAt {w : World} {g o n c : Nat} {l : List Int} (h : SB w (.slice (some ⟨g, o, none⟩) n c) l) : ∀ i, i < l.length → w.cell? ⟨g, o + i, none⟩ = some (.int .u8 (l.getD i 0)) := by
  obtain ⟨ao, cap, he, h1, h2, h3, h4⟩ := h
  simp only [Value.slice.injEq] at he
  intro i hi
  have := h4 ⟨g, o, none⟩ he.1.symm i hi
  rwa [Addr.add_lit] at this

theorem whole_any (v2 : Value) (g c : Nat) (l : List Int) (w : World) (h1 : SB w (.slice (some ⟨g, 0, none⟩) (l.length + 4) c) (l ++ marks4)) (h2 : SB w v2 l) (hr : l.length ≤ 140737488351232) :
    Calls Try.prog 15 #[.slice (some ⟨g, 0, none⟩) (l.length + 4) c, v2] w fun e w' => e = .returned (.bool true) ∧ ∃ n, w' = w.drewN n := by
  have hcl : ∀ i, i < l.length + 4 → w.cell? ⟨g, i, none⟩ = some (.int .u8 ((l ++ marks4).getD i 0)) := fun i hi => by
    have := h1.cellsAt i (by simp [marks4]; omega)
    rwa [Nat.zero_add] at this
  have m0 : w.cell? ⟨g, l.length, none⟩ = some (.int .u8 192) := by rw [hcl l.length (by omega)]; simp [marks4]
  have m1 : w.cell? ⟨g, l.length + 1, none⟩ = some (.int .u8 193) := by rw [hcl (l.length + 1) (by omega)]; simp [marks4]
  have m2 : w.cell? ⟨g, l.length + 2, none⟩ = some (.int .u8 194) := by rw [hcl (l.length + 2) (by omega)]; simp [marks4]
  have m3 : w.cell? ⟨g, l.length + 3, none⟩ = some (.int .u8 195) := by rw [hcl (l.length + 3) (by omega)]; simp [marks4]
  have HCL : Hid (∀ i, i < l.length → w.cell? ⟨g, i, none⟩ = some (.int .u8 (l.getD i 0))) := fun i hi => by
    rw [hcl i (by omega)]; simp [hi, List.getElem?_append_left]
  have H2 := hide h2
  obtain ⟨ao, cap, rfl, hlc, hcm, _⟩ := h2
  unfold maxLen at hcm
  clear hcl h1
  go_enter Try.func15, Try.ntmps15
  go_wp2
  go_loopw [6] (fun i wr => ∃ k n : Nat, k ≤ l.length ∧ i = .int .i64 k ∧ wr = w.drewN n) (fun i _ => l.length - (intOf i).toNat)
  case atStart => exact ⟨0, 0, Nat.zero_le _, rfl, rfl⟩
  case round =>
    obtain ⟨k, n, hk, rfl, rfl⟩ := hrel
    by_cases hlt : k < l.length
    · obtain ⟨x, hx, hcell⟩ : ∃ x : Addr, ao = some x ∧ ∀ i, i < l.length → w.cell? (x.add i) = some (.int .u8 (l.getD i 0)) := by
        obtain ⟨ao', cap', he, a1, a2, a3, a4⟩ := H2.out
        simp only [Value.slice.injEq] at he
        obtain ⟨rfl, _, rfl⟩ := he
        cases ao with
        | none => have := a3 rfl; omega
        | some x => exact ⟨x, rfl, a4 x rfl⟩
      subst hx
      obtain ⟨b, o, rfl⟩ := addr_lit (hcell 0 (by omega))
      obtain ⟨y, c1, c2⟩ : ∃ y, w.cell? ⟨g, k, none⟩ = some (.int .u8 y) ∧ w.cell? ⟨b, o + k, none⟩ = some (.int .u8 y) := ⟨_, HCL.out k hlt, by have := hcell k hlt; rwa [Addr.add_lit] at this⟩
      clear hcell
      go_wp2
      go_quiet (fail)
      go_wp2
      go_roundw
      case rel => exact ⟨k + 1, _, by omega, by go_num, rfl⟩
      case measure => simp [intOf]; omega
    · go_wp2
      go_ret
      exact ⟨rfl, _, rfl⟩

/-- A framed write: where it begins, the block and the room of its bytes and marks, the bytes. -/
structure Fe where
  at' : Int
  g : Nat
  c : Nat
  l : List Int
def Fe.dv (e : Fe) : Value := .slice (some ⟨e.g, 0, none⟩) e.l.length e.c
def Fe.fv (e : Fe) : Value := .slice (some ⟨e.g, 0, none⟩) (e.l.length + 4) e.c
def Fe.cs (e : Fe) : Array Value := #[.int .i64 e.at', e.dv]
def Fe.ls (e : Fe) : Array Value := #[e.fv]
def Fe.we (e : Fe) : We := ⟨e.at', e.dv, e.l⟩
def fe0 : Fe := ⟨0, 0, 0, []⟩

structure FW (w : World) (base : Nat) (v1 v2 : Value) (R : List Fe) : Prop where
  o1 : OR 29 2 w base v1 (R.map Fe.cs)
  o2 : OR 27 1 w base v2 (R.map Fe.ls)
  ne : ∀ k, v1.ownBlock = some k → v2.ownBlock ≠ some k
  el : ∀ e ∈ R, OB w base e.fv (e.l ++ marks4) ∧ v1.ownBlock ≠ some e.g ∧ v2.ownBlock ≠ some e.g

theorem OR.grown {T n : Nat} {w w' : World} {base : Nat} {v : Value} {R : List (Array Value)} {row : Option Nat} (h : OR T n w base v R) (hg : w.grownBy w' row) (hne : ∀ k, v.ownBlock = some k → row ≠ some k) : OR T n w' base v R :=
  h.move fun k hk => hg.block k (h.lt k hk).2 (fun e => hne k hk e.symm)
theorem OB.grown {w w' : World} {base : Nat} {v : Value} {l : List Int} {row : Option Nat} (h : OB w base v l) (hg : w.grownBy w' row) (hne : ∀ k, v.ownBlock = some k → row ≠ some k) : OB w' base v l :=
  h.move fun k hk => hg.block k (h.lt k hk).2 (fun e => hne k hk e.symm)

theorem fe_len (e : Fe) : (e.l ++ marks4).length = e.l.length + 4 := by simp [marks4]
theorem OB.front {w : World} {base : Nat} {e : Fe} (h : OB w base e.fv (e.l ++ marks4)) : SB w e.dv e.l := by
  obtain ⟨ao, cap, he, h1, h2, h3, h4⟩ := h.sb
  rw [fe_len] at he h1
  simp only [Fe.fv, Value.slice.injEq] at he
  obtain ⟨rfl, -, rfl⟩ := he
  refine ⟨_, _, rfl, by omega, h2, (fun q => nomatch q), fun x hx i hi => ?_⟩
  have := h4 x hx i (by rw [fe_len]; omega)
  rw [this]
  simp [hi, List.getElem?_append_left]

theorem FW.sw {w : World} {base : Nat} {v1 v2 : Value} {R : List Fe} (h : FW w base v1 v2 R) : SW w v1 (R.map Fe.we) := by
  refine ⟨?_, fun e he => ?_⟩
  · have := h.o1.sr
    rw [List.map_map]
    exact this
  · obtain ⟨f, hf, rfl⟩ := List.mem_map.1 he
    exact (h.el f hf).1.front

theorem FW.below {w w' : World} {base : Nat} {v1 v2 : Value} {R : List Fe} (h : FW w base v1 v2 R) (hb : Below w.heap.size w w') : FW w' base v1 v2 R :=
  ⟨h.o1.below hb (Nat.le_refl _), h.o2.below hb (Nat.le_refl _), h.ne, fun e he => ⟨(h.el e he).1.below hb (Nat.le_refl _), (h.el e he).2⟩⟩

/-- One write more, framed. -/
theorem FW.step {base : Nat} {wr w2 w3 w4 : World} {v1 v2 x1 x2 : Value} {R : List Fe} {e : Fe} {p1 p2 : Obj} (h : FW wr base v1 v2 R) (hbase : base ≤ wr.heap.size) (hb2 : Below wr.heap.size wr w2) (ho2 : OB w2 wr.heap.size e.fv (e.l ++ marks4))
    (q1 : OR 29 2 w3 base x1 (R.map Fe.cs ++ [e.cs])) (g1 : (w2.alloc p1).grownBy w3 v1.ownBlock) (a1 : x1.ownBlock = v1.ownBlock ∨ x1.ownBlock = some (w2.alloc p1).heap.size)
    (q2 : OR 27 1 w4 base x2 (R.map Fe.ls ++ [e.ls])) (g2 : (w3.alloc p2).grownBy w4 v2.ownBlock) (a2 : x2.ownBlock = v2.ownBlock ∨ x2.ownBlock = some (w3.alloc p2).heap.size) : FW w4 base x1 x2 (R ++ [e]) := by
  have s2 := hb2.size
  have s3 : w2.heap.size + 1 ≤ w3.heap.size := by have := g1.size; rw [size_alloc'] at this; exact this
  have l1 := h.o1.lt
  have l2 := h.o2.lt
  have le := ho2.lt e.g rfl
  rw [size_alloc'] at a1 a2
  have m1 : ∀ k, x1.ownBlock = some k → base ≤ k ∧ k < w3.heap.size := q1.lt
  have x1v2 : ∀ k, x1.ownBlock = some k → v2.ownBlock ≠ some k := fun k hk e2 => by
    rcases a1 with a | a
    · rw [a] at hk; exact h.ne k hk e2
    · rw [a] at hk; have := Option.some.inj hk; have := (l2 k e2).2; omega
  have x1x2 : ∀ k, x1.ownBlock = some k → x2.ownBlock ≠ some k := fun k hk e2 => by
    rcases a2 with a | a
    · rw [a] at e2; exact x1v2 k hk e2
    · rw [a] at e2; have := Option.some.inj e2; have := (m1 k hk).2; omega
  have far : ∀ k, k < w2.heap.size → v1.ownBlock ≠ some k → v2.ownBlock ≠ some k → w4.heap[k]? = w2.heap[k]? ∧ x1.ownBlock ≠ some k ∧ x2.ownBlock ≠ some k := fun k hk n1 n2 => by
    refine ⟨?_, fun e1 => ?_, fun e2 => ?_⟩
    · rw [g2.block k (by rw [size_alloc']; omega) (fun e => n2 e.symm), Below.heap_alloc w3 p2 k (by omega), g1.block k (by rw [size_alloc']; omega) (fun e => n1 e.symm), Below.heap_alloc w2 p1 k hk]
    · rcases a1 with a | a
      · rw [a] at e1; exact n1 e1
      · rw [a] at e1; have := Option.some.inj e1; omega
    · rcases a2 with a | a
      · rw [a] at e2; exact n2 e2
      · rw [a] at e2; have := Option.some.inj e2; omega
  refine ⟨?_, by rw [List.map_append]; exact q2, x1x2, fun f hf => ?_⟩
  · rw [List.map_append]
    exact (q1.alloc p2).grown g2 (fun k hk => x1v2 k hk)
  · rcases List.mem_append.1 hf with hf | hf
    · obtain ⟨k1, k2, k3⟩ := h.el f hf
      have kl := k1.lt f.g rfl
      have := far f.g (by omega) k2 k3
      refine ⟨k1.move fun k hk => ?_, this.2⟩
      obtain rfl : f.g = k := by simpa [Fe.fv, Value.ownBlock] using hk
      rw [this.1]
      exact hb2.block _ kl.2
    · obtain rfl := List.mem_singleton.1 hf
      have n1 : v1.ownBlock ≠ some f.g := fun q => by have := (l1 _ q).2; omega
      have n2 : v2.ownBlock ≠ some f.g := fun q => by have := (l2 _ q).2; omega
      have := far f.g le.2 n1 n2
      refine ⟨(ho2.move fun k hk => ?_).base hbase, this.2⟩
      obtain rfl : f.g = k := by simpa [Fe.fv, Value.ownBlock] using hk
      exact this.1
theorem infoB : (Try.prog.info? 27).map (fun i => (i.zero, i.size, i.bytes)) = some (some (.slice none 0 0), 1, 24) := by kernel_rfl
end Go.Proofs.Ytlleajegfeilfaa

