import Derived.Test.YthjgabncifghaabAppL
import Derived.Test.YthjgabncifghaabStep
namespace Go.Proofs.Ythjgabncifghaab
open Go.RowKit Go.Maps
set_option maxRecDepth 20000

theorem wpList_mk {w : World} {ops : Array Oper} {rest : List Oper} {o : Oper} {a : Act} {Q : Exit → Act → World → Prop} (hg : o.guard = none) (l c : Operand) (hop : o.op = Op.makeSlice 28 l c)
    (kl kc : IntKind) (L C : Int) (n m : Nat) (hl : a.eval l = .int kl L) (hc : a.eval c = .int kc C) (hL : L = (n : Int)) (hC : C = (m : Int)) (hnm : n ≤ m) (b2 : m ≤ 140737488355328)
    (hK : ∀ w', w'.heap[w.heap.size]? = some (.cells (List.replicate m (Value.int .u8 0)).toArray 5 (0, 0)) → Below w.heap.size w w' → wpList Try.prog ops Q rest (a.put o.dst (.slice (some ⟨w.heap.size, 0, none⟩) n m)) w') :
    wpList Try.prog ops Q (o :: rest) a w := by
  obtain ⟨i0, hi, hz0, hz1, hz2⟩ := info_parts info5
  refine wpList_plain hg fun K hK' => ?_
  have hr := run_make (P := Try.prog) w 28 5 i0 (.int .u8 0) Try.underlying28 hi hz0 kl kc (n : Int) (m : Int) (by omega) (by omega) (by rw [hz2]; omega) (by omega)
  subst hL hC
  unfold Oper.wp
  simp [execOp, hop, hl, hc, hr, Result.andThen]
  refine hK' _ _ (hK _ ?_ ((Below.refl _ _).alloc (Nat.le_refl _) _))
  rw [heap_alloc_new, hz1, Nat.mul_one]
  have e : (madeCells (Value.int .u8 0).cells m) = (List.replicate m (Value.int .u8 0)).toArray := by
    apply Array.ext'
    exact madeBytes m
  rw [e]

theorem splice_front {α : Type} (cs : List α) (n m : Nat) (z : α) (h : cs.length = n) : splice (List.replicate (n + m) z) 0 cs = cs ++ List.replicate m z := by
  simp [splice, h]

/-- A new list with room behind it. -/
theorem copied_any (v : Value) (l : List Int) (w : World) (h : SB w v l) (hr : l.length ≤ 140737488351232) :
    Calls Try.prog 37 #[v] w fun e w' => e = .returned (.slice (some ⟨w.heap.size, 0, none⟩) l.length (l.length + 8)) ∧ OB w' w.heap.size (.slice (some ⟨w.heap.size, 0, none⟩) l.length (l.length + 8)) l ∧ Below w.heap.size w w' := by
  obtain ⟨ao, cap, rfl, hlc, hcm, hnil, hcell⟩ := h
  unfold maxLen at hcm
  go_enter Try.func37, Try.ntmps37
  go_wp2_with (at_make; refine wpList_mk rfl _ _ rfl _ _ _ _ l.length (l.length + 8) rfl rfl rfl (by first | rfl | (simp; done)) (by omega) (by omega) ?_)
  intro w1 hg hb1
  have Hg := hide hg
  clear hg
  have HN : Hid (ao = none → cap = 0) := hnil
  have HC : Hid (∀ x, ao = some x → ∀ i, i < l.length → w.cell? (x.add i) = some (.int .u8 (l.getD i 0))) := hcell
  clear hnil hcell
  obtain ⟨cs, hcs⟩ : ∃ cs, cs = l.map (Value.int .u8) := ⟨_, rfl⟩
  have HS : Hid (cs = l.map (Value.int .u8)) := hcs
  clear hcs
  have C1 : Hid (cs.length = Nat.min l.length l.length) := by show _ = _; rw [HS.out]; simp
  have C2 : Hid (0 < cs.length → (some (⟨w.heap.size, 0, none⟩ : Addr)) = some ⟨w.heap.size, 0, none⟩ ∧ ∃ ad, ao = some ad ∧ ∀ j v, cs[j]? = some v → w1.cell? (ad.add j) = some v) := by
    intro hp
    refine ⟨rfl, ?_⟩
    rw [HS.out, List.length_map] at hp
    cases ao with
    | none => have := HN.out rfl; omega
    | some x =>
      refine ⟨x, rfl, fun j u hj => ?_⟩
      rw [HS.out] at hj
      obtain ⟨hjl, rfl⟩ := List.getElem?_eq_some_iff.1 hj
      have hjl' : j < l.length := by simpa using hjl
      have hc := HC.out x rfl j hjl'
      rw [hb1.cell (by have := World.block_lt_of_cell? _ _ hc; exact this), hc]
      simp [hjl']
  have C3 : Hid (0 + cs.length ≤ (List.replicate (l.length + 8) (Value.int .u8 0)).length) := by show _ ≤ _; rw [HS.out]; simp
  have C4 : Hid (∀ v ∈ cs, v.oneCell' = true) := by rw [HS.out]; intro u hu; obtain ⟨n, _, rfl⟩ := List.mem_map.1 hu; rfl
  go_wp2_with (refine wpList_copy_splice rfl _ _ 28 28 rfl 5 Try.underlying28 sizeByte _ _ _ _ _ _ rfl rfl w.heap.size 0 (List.replicate (l.length + 8) (Value.int .u8 0)) 5 Hg.out cs C1.out C2.out C3.out C4.out w.heap.size w hb1 (Nat.le_refl _) ?_)
  intro w2 HG2 hb2
  have hfin : OB w2 w.heap.size (.slice (some ⟨w.heap.size, 0, none⟩) l.length (l.length + 8)) l := by
    have hg := HG2.out
    rw [splice_front _ _ _ _ (by rw [HS.out]; simp), HS.out] at hg
    exact ⟨by simp, .inr ⟨w.heap.size, l.length + 8, _, rfl, Nat.le_refl _, hg, by omega, by unfold maxLen; omega, by simp, by simp⟩⟩
  have HF := hfin
  go_wp2
  go_ret
  exact ⟨rfl, HF, hb2⟩

/-- A cursor just made. -/
structure Raw (T : Nat) (w : World) (A g : Nat) (v : Value) (l : List Int) : Prop where
  s : S3 T w g v (.int .i64 0) (.int .i64 0)
  d : DS w v l
  a : A ≤ g
  b : ∀ k, v.ownBlock = some k → A ≤ k ∧ k < g

theorem OB.ds {w : World} {base : Nat} {v : Value} {l : List Int} (h : OB w base v l) : DS w v l := by
  have hc := @World.ownsRow.cells _ _ _ _ _ _ _ h
  rcases h.2 with ⟨rfl, h0⟩ | ⟨g, cap, cur, rfl, _, _, h3, h4, _, _⟩
  · exact .inl ⟨rfl, List.eq_nil_of_length_eq_zero h0⟩
  · refine .inr ⟨g, cap, rfl, h3, h4, fun i hi => ?_⟩
    have := hc (g := g) rfl i (.int .u8 (l.getD i 0)) (by simp [hi])
    rw [Addr.add_lit] at this
    simpa using this

theorem Raw.below {T : Nat} {w w' : World} {A g : Nat} {v : Value} {l : List Int} (h : Raw T w A g v l) (hb : Below w.heap.size w w') : Raw T w' A g v l :=
  ⟨(hb.block g h.s.lt).trans h.s, h.d.move (fun k hk => hb.block k (Nat.lt_trans (h.b k hk).2 h.s.lt)), h.a, h.b⟩

theorem newCursor_any (v : Value) (l : List Int) (w : World) (h : SB w v l) (hr : l.length ≤ 140737488351232) :
    Calls Try.prog 12 #[v] w fun e w' => ∃ g u, e = .returned (.pointer (some ⟨g, 0, none⟩)) ∧ Raw 68 w' w.heap.size g u l ∧ Below w.heap.size w w' := by
  have HS := hide h
  clear h
  go_enter Try.func12, Try.ntmps12
  go_wp2_with fail
  refine (slicesClone_any v l w HS.out hr).mono ?_
  rintro e w1 ⟨a, c, rfl, ho, hb⟩
  have HO := hide ho
  have HB := hide hb
  clear ho hb
  go_wp2
  go_ret
  have hsz := HB.out.size
  refine ⟨_, _, rfl, ⟨heap_alloc_new _ _, (HO.out.ds.move fun k hk => Below.heap_alloc _ _ k (HO.out.lt k hk).2), hsz, fun k hk => HO.out.lt k hk⟩, HB.out.trans ((Below.refl _ _).alloc hsz _)⟩

theorem rnewCursor_any (v : Value) (l : List Int) (w : World) (h : SB w v l) (hr : l.length ≤ 140737488351232) :
    Calls Try.prog 38 #[v] w fun e w' => ∃ g u, e = .returned (.pointer (some ⟨g, 0, none⟩)) ∧ Raw 76 w' w.heap.size g u l ∧ Below w.heap.size w w' := by
  have HS := hide h
  have O0 : Hid (OB w w.heap.size (.slice none 0 0) []) := World.ownsRow_nil _ _ _ _
  clear h
  go_enter Try.func38, Try.ntmps38
  go_wp2_with (at_builtin; refine wpList_app rfl _ _ 28 rfl w.heap.size _ v [] l rfl O0.out rfl HS.out.src (by simp; omega) (Nat.le_refl _) ?_)
  intro u w1 ho hgr
  have ho' : OB w1 w.heap.size u l := ho
  have hb : Below w.heap.size w w1 := by
    rcases hgr with ⟨_, rfl⟩ | ⟨_, hb⟩ | ⟨_, _, hg⟩
    · exact Below.refl _ _
    · exact hb
    · exact (Below.refl _ _).grown hg (Nat.le_refl _) (fun k hk => by cases hk)
  obtain ⟨au, cu, rfl⟩ := ho'.shape
  have HO := hide ho'
  have HB := hide hb
  clear ho ho' hb hgr
  go_wp2
  go_ret
  have hsz := HB.out.size
  refine ⟨_, _, rfl, ⟨heap_alloc_new _ _, (HO.out.ds.move fun k hk => Below.heap_alloc _ _ k (HO.out.lt k hk).2), hsz, fun k hk => HO.out.lt k hk⟩, HB.out.trans ((Below.refl _ _).alloc hsz _)⟩
end Go.Proofs.Ythjgabncifghaab
