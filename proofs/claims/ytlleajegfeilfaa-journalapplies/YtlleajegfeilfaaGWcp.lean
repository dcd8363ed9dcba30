import Derived.Test.YtlleajegfeilfaaGWbs
namespace Go.Proofs.Ytlleajegfeilfaa
open Go.RowKit Go.Maps
set_option maxRecDepth 20000
set_option linter.unusedVariables false
set_option linter.unusedSimpArgs false

theorem wpList_mk {w : World} {ops : Array Oper} {rest : List Oper} {o : Oper} {a : Act} {Q : Exit → Act → World → Prop} (hg : o.guard = none) (l c : Operand) (hop : o.op = Op.makeSlice 27 l c)
    (kl kc : IntKind) (L C : Int) (n m : Nat) (hl : a.eval l = .int kl L) (hc : a.eval c = .int kc C) (hL : L = (n : Int)) (hC : C = (m : Int)) (hnm : n ≤ m) (b2 : m ≤ 140737488355328)
    (hK : ∀ w', w'.heap[w.heap.size]? = some (.cells (List.replicate m (Value.int .u8 0)).toArray 5 (0, 0)) → Below w.heap.size w w' → wpList Try.prog ops Q rest (a.put o.dst (.slice (some ⟨w.heap.size, 0, none⟩) n m)) w') :
    wpList Try.prog ops Q (o :: rest) a w := by
  obtain ⟨i0, hi, hz0, hz1, hz2⟩ := info_parts info5
  refine wpList_plain hg fun K hK' => ?_
  have hr := run_make (P := Try.prog) w 27 5 i0 (.int .u8 0) Try.underlying27 hi hz0 kl kc (n : Int) (m : Int) (by omega) (by omega) (by rw [hz2]; omega) (by omega)
  subst hL hC
  unfold Oper.wp
  simp [execOp, hop, hl, hc, hr, Result.andThen]
  refine hK' _ _ (hK _ ?_ ((Below.refl _ _).alloc (Nat.le_refl _) _))
  rw [heap_alloc_new, hz1, Nat.mul_one]
  have e : (madeCells (Value.int .u8 0).cells m) = (List.replicate m (Value.int .u8 0)).toArray := by
    apply Array.ext'
    exact madeBytes m
  rw [e]

theorem splice_front {α : Type} (cs : List α) (n m : Nat) (z : α) (h : cs.length = n) : splice (List.replicate (n + m) z) 0 cs = cs ++ List.replicate m z := by
  simp [splice, h]

/-- A new list with room behind it. -/
theorem copied_any (v : Value) (l : List Int) (w : World) (h : SB w v l) (hr : l.length ≤ 140737488351232) :
    Calls Try.prog 24 #[v] w fun e w' => e = .returned (.slice (some ⟨w.heap.size, 0, none⟩) l.length (l.length + 8)) ∧ OB w' w.heap.size (.slice (some ⟨w.heap.size, 0, none⟩) l.length (l.length + 8)) l ∧ Below w.heap.size w w' := by
  obtain ⟨ao, cap, rfl, hlc, hcm, hnil, hcell⟩ := h
  unfold maxLen at hcm
  go_enter Try.func24, Try.ntmps24
  go_wp2_with (at_make; refine wpList_mk rfl _ _ rfl _ _ _ _ l.length (l.length + 8) rfl rfl rfl (by first | rfl | (simp; done)) (by omega) (by omega) ?_)
  intro w1 hg hb1
  have Hg := hide hg
  clear hg
  have HN : Hid (ao = none → cap = 0) := hnil
  have HC : Hid (∀ x, ao = some x → ∀ i, i < l.length → w.cell? (x.add i) = some (.int .u8 (l.getD i 0))) := hcell
  clear hnil hcell
  obtain ⟨cs, hcs⟩ : ∃ cs, cs = l.map (Value.int .u8) := ⟨_, rfl⟩
  have HS : Hid (cs = l.map (Value.int .u8)) := hcs
  clear hcs
  have C1 : Hid (cs.length = Nat.min l.length l.length) := by show _ = _; rw [HS.out]; simp
  have C2 : Hid (0 < cs.length → (some (⟨w.heap.size, 0, none⟩ : Addr)) = some ⟨w.heap.size, 0, none⟩ ∧ ∃ ad, ao = some ad ∧ ∀ j v, cs[j]? = some v → w1.cell? (ad.add j) = some v) := by
    intro hp
    refine ⟨rfl, ?_⟩
    rw [HS.out, List.length_map] at hp
    cases ao with
    | none => have := HN.out rfl; omega
    | some x =>
      refine ⟨x, rfl, fun j u hj => ?_⟩
      rw [HS.out] at hj
      obtain ⟨hjl, rfl⟩ := List.getElem?_eq_some_iff.1 hj
      have hjl' : j < l.length := by simpa using hjl
      have hc := HC.out x rfl j hjl'
      rw [hb1.cell (by have := World.block_lt_of_cell? _ _ hc; exact this), hc]
      simp [hjl']
  have C3 : Hid (0 + cs.length ≤ (List.replicate (l.length + 8) (Value.int .u8 0)).length) := by show _ ≤ _; rw [HS.out]; simp
  have C4 : Hid (∀ v ∈ cs, v.oneCell' = true) := by rw [HS.out]; intro u hu; obtain ⟨n, _, rfl⟩ := List.mem_map.1 hu; rfl
  go_wp2_with (refine wpList_copy_splice rfl _ _ 27 27 rfl 5 Try.underlying27 sizeByte _ _ _ _ _ _ rfl rfl w.heap.size 0 (List.replicate (l.length + 8) (Value.int .u8 0)) 5 Hg.out cs C1.out C2.out C3.out C4.out w.heap.size w hb1 (Nat.le_refl _) ?_)
  intro w2 HG2 hb2
  have hfin : OB w2 w.heap.size (.slice (some ⟨w.heap.size, 0, none⟩) l.length (l.length + 8)) l := by
    have hg := HG2.out
    rw [splice_front _ _ _ _ (by rw [HS.out]; simp), HS.out] at hg
    exact ⟨by simp, .inr ⟨w.heap.size, l.length + 8, _, rfl, Nat.le_refl _, hg, by omega, by unfold maxLen; omega, by simp, by simp⟩⟩
  have HF := hfin
  go_wp2
  go_ret
  exact ⟨rfl, HF, hb2⟩

theorem infoW : (Try.prog.info? 29).map (fun i => (i.zero, i.size, i.bytes)) = some (some (.agg #[.int .i64 0, .slice none 0 0]), 2, 32) := by kernel_rfl

/-- Writes of one's own: the row, and each list. -/
def OW (w : World) (base : Nat) (v : Value) (R : List We) : Prop := OR 29 2 w base v (R.map We.cs) ∧ ∀ e ∈ R, OB w base e.dv e.l ∧ ∀ k, e.dv.ownBlock = some k → v.ownBlock ≠ some k

theorem OW.sw {w : World} {base : Nat} {v : Value} {R : List We} (h : OW w base v R) : SW w v R := ⟨h.1.sr, fun e he => (h.2 e he).1.sb⟩

def sml (R : List We) : Prop := R.length ≤ 4398046510976 ∧ ∀ e ∈ R, e.l.length ≤ 140737488351232

theorem far_two {w2 w3 : World} {o : Obj} {v : Value} {b p q : Nat} {x y : Value} (hg : (w2.alloc o).grownBy w3 v.ownBlock) (hb : b < w2.heap.size) (hne : v.ownBlock ≠ some b) (hc : (w2.alloc o).cell? ⟨b, p, none⟩ = some x ∧ (w2.alloc o).cell? ⟨b, q, none⟩ = some y) : w3.cell? ⟨b, p, none⟩ = some x ∧ w3.cell? ⟨b, q, none⟩ = some y :=
  ⟨(hg.cell_far ⟨b, p, none⟩ (by rw [size_alloc']; exact Nat.lt_succ_of_lt hb) (fun e => hne e.symm)).trans hc.1, (hg.cell_far ⟨b, q, none⟩ (by rw [size_alloc']; exact Nat.lt_succ_of_lt hb) (fun e => hne e.symm)).trans hc.2⟩
theorem ow_step {base : Nat} {wr w2 w3 : World} {v v3 dv : Value} {R' : List We} {a0 : Int} {l0 : List Int} {o : Obj} (hO : OW wr base v R') (hb2 : Below wr.heap.size wr w2) (ho2 : OB w2 wr.heap.size dv l0)
    (ho3 : OR 29 2 w3 base v3 (R'.map We.cs ++ [#[.int .i64 a0, dv]])) (hg : (w2.alloc o).grownBy w3 v.ownBlock) (hat : v3.ownBlock = v.ownBlock ∨ v3.ownBlock = some (w2.alloc o).heap.size) (hbase : base ≤ wr.heap.size) : OW w3 base v3 (R' ++ [⟨a0, dv, l0⟩]) := by
  have hsz := hb2.size
  have hvl := hO.1.lt
  have hne : ∀ k, k < w2.heap.size → v.ownBlock ≠ some k → w3.heap[k]? = w2.heap[k]? := fun k hk hv => (hg.block k (by rw [size_alloc']; omega) (fun e => hv e.symm)).trans (Below.heap_alloc w2 o k hk)
  have hv3 : ∀ k, k < w2.heap.size → v.ownBlock ≠ some k → v3.ownBlock ≠ some k := fun k hk hv e => by
    rcases hat with h | h
    · exact hv (by rw [← h]; exact e)
    · rw [h, size_alloc'] at e
      have := Option.some.inj e
      omega
  refine ⟨by rw [List.map_append]; exact ho3, fun e he => ?_⟩
  rcases List.mem_append.1 he with he | he
  · obtain ⟨h1, h2⟩ := hO.2 e he
    have hl := h1.lt
    refine ⟨h1.move fun k hk => ?_, fun k hk => hv3 k (by have := (hl k hk).2; omega) (h2 k hk)⟩
    exact (hne k (by have := (hl k hk).2; omega) (h2 k hk)).trans (hb2.block k (hl k hk).2)
  · obtain rfl := List.mem_singleton.1 he
    have hl := ho2.lt
    have hn : ∀ k, dv.ownBlock = some k → v.ownBlock ≠ some k := fun k hk e => by have := (hl k hk).1; have := (hvl k e).2; omega
    exact ⟨(ho2.move fun k hk => hne k (hl k hk).2 (hn k hk)).base hbase, fun k hk => hv3 k (hl k hk).2 (hn k hk)⟩

set_option maxHeartbeats 8000000 in
theorem copiedWrites_any (v : Value) (R : List We) (w : World) (h : SW w v R) (hs : sml R) :
    Calls Try.prog 7 #[v] w fun e w' => ∃ v' R', e = .returned v' ∧ nms R' = nms R ∧ R'.map We.l = R.map We.l ∧ OW w' w.heap.size v' R' ∧ Below w.heap.size w w' := by
  have HS := hide h
  have HM := hide hs
  obtain ⟨ca, ccap, rfl, c1, c2⟩ := h.open
  have hsl : R.length ≤ 4398046510976 := hs.1
  clear h hs
  go_enter Try.func7, Try.ntmps7
  go_wp2
  go_loopw [3, 4] (fun t i wr => ∃ (j : Nat) (R' : List We) (ta : Option Addr) (tc : Nat), t = .slice ta j tc ∧ i = .int .i64 (j : Int) ∧ j ≤ R.length ∧ Hid (R'.length = j ∧ nms R' = nms (R.take j) ∧ R'.map We.l = (R.take j).map We.l) ∧ Hid (OW wr w.heap.size (.slice ta j tc) R') ∧ Hid (Below w.heap.size w wr)) (fun _ i _ => R.length - (intOf i).toNat)
  case atStart => exact ⟨0, [], none, 0, rfl, rfl, Nat.zero_le _, ⟨rfl, by simp [nms], by simp⟩, ⟨OR.nil _ _ _ _, fun e he => by simp at he⟩, Below.refl _ _⟩
  case round =>
    obtain ⟨j, R', ta, tc, rfl, rfl, hj, HN, HO, HB⟩ := hrel
    by_cases hlt : j < R.length
    · have hlt' : (j : Int) < (R.length : Int) := by omega
      have HSr : Hid (SW wr (.slice ca R.length ccap) R) := HS.out.low HB.out
      obtain ⟨b0, o0, a', c', hla, hbl, hdv, g0, g1, hsb, k1, k2⟩ := HSr.out.row hlt
      have hml : (R.getD j we0).l.length ≤ 140737488351232 := HM.out.2 _ (we_mem hlt)
      have HGD : Hid (∃ e, e = R.getD j we0) := ⟨_, rfl⟩
      obtain ⟨e, he⟩ := HGD.out
      have HEe := hide he
      rw [← he] at hdv g0 g1 hsb k1 hml
      obtain ⟨at0, dv0, l0⟩ := e
      simp only at hdv g0 g1 hsb k1 hml
      subst hla
      have HCP := hide (fun (W : World) (hW : Below wr.heap.size wr W) => copied_any _ l0 W (hsb.below hW) (by omega))
      have HC := hide (And.intro g0 g1)
      have HBl := hide hbl
      have HFar : Hid ((Value.slice ta j tc).ownBlock ≠ some b0) := fun e => by
        obtain ⟨b1, o1, _, _, h1, h2, _⟩ := HS.out.row hlt
        have h3 := (HO.out.1.lt b0 e).1
        simp only [Option.some.injEq, Addr.mk.injEq] at h1
        omega
      clear hdv he hsb k1 k2 HGD g0 g1
      have HCPd : Hid (Calls Try.prog 24 #[.slice a' l0.length c'] wr.drew fun e w' => e = .returned (.slice (some ⟨wr.heap.size, 0, none⟩) l0.length (l0.length + 8)) ∧ OB w' wr.heap.size (.slice (some ⟨wr.heap.size, 0, none⟩) l0.length (l0.length + 8)) l0 ∧ Below wr.heap.size wr w') := (HCP.out wr.drew (Below.refl _ _).drew).mono (fun e w' ⟨q1, q2, q3⟩ => ⟨q1, q2, (Below.refl _ _).drew.trans q3⟩)
      clear HCP
      go_wp2_with fail
      go_region_held3 (fun W => W.cell? ⟨b0, o0 + j * 2, none⟩ = some (.int .i64 at0) ∧ W.cell? ⟨b0, o0 + j * 2 + 1, none⟩ = some (.slice a' l0.length c')) (first | exact HC.out | exact HC2.out | exact HC2a.out | exact HC3.out)
        (first
          | (go_at_call 24; refine HCPd.out.mono ?_; rintro e w2 ⟨rfl, ho2, hb2⟩; have HO2 := hide ho2; have HB2 := hide hb2; have HBl2 := hide (Nat.lt_of_lt_of_le HBl.out HB2.out.size); have HC2 := hide (And.intro ((HB2.out.cell HBl.out).trans HC.out.1) ((HB2.out.cell HBl.out).trans HC.out.2)); have HB2a := hide (HB2.out.alloc HB2.out.size (.cells #[.int .i64 at0, .slice (some ⟨wr.heap.size, 0, none⟩) l0.length (l0.length + 8)] 29)); have HC2a := hide (And.intro ((HB2a.out.cell HBl.out).trans HC.out.1) ((HB2a.out.cell HBl.out).trans HC.out.2)); have HO3 := hide ((HO.out.1.below HB2.out (Nat.le_refl _)).alloc (.cells #[.int .i64 at0, .slice (some ⟨wr.heap.size, 0, none⟩) l0.length (l0.length + 8)] 29)); clear ho2 hb2)
          | (refine stepRow (by rfl) _ _ 22 29 2 32 _ (by rfl) Try.underlying22 infoW rfl (by omega) w.heap.size (.slice ta j tc) (R'.map We.cs) #[.int .i64 at0, .slice (some ⟨wr.heap.size, 0, none⟩) l0.length (l0.length + 8)] w2.heap.size 1 (0, 0) (by simp [Act.eval, Act.put]) HO3.out (by simp [Act.eval, Act.put]) (heap_alloc_new _ _) rfl (by simp [Value.oneCell']) (by rw [List.length_map, HN.out.1]; omega) (by rw [List.length_map, HN.out.1]; omega) (by rw [size_alloc']; have h1 := HB.out.size; have h2 := HB2.out.size; omega) ?_; intro v3 w3 ho3 hg3 hat3; have HC3 := hide (far_two hg3 HBl2.out HFar.out HC2a.out); have HO4 := hide ho3; have HG4 := hide hg3; have HA4 := hide hat3; clear ho3 hg3 hat3))
      have HOW := hide (ow_step HO.out HB2.out HO2.out HO4.out HG4.out HA4.out HB.out.size)
      have HB3 : Hid (Below w.heap.size w w3) := ((HB.out.trans (HB2.out.mono HB.out.size)).alloc (Nat.le_trans HB.out.size HB2.out.size) _).grown HG4.out (by rw [size_alloc']; have := HB.out.size; have := HB2.out.size; omega) (fun k hk => by have := (HO.out.1.lt k hk).1; omega)
      have HSH := hide HO4.out.shape
      clear HO4 HG4 HA4 HO3
      obtain ⟨a3, c3, hv3, q1, q2⟩ := HSH.out
      rw [List.length_append, List.length_map, HN.out.1, List.length_singleton] at hv3
      subst hv3
      clear HSH
      go_wp2
      go_roundw
      case rel =>
        refine ⟨j + 1, R' ++ [(⟨at0, .slice (some ⟨wr.heap.size, 0, none⟩) l0.length (l0.length + 8), l0⟩ : We)], a3, c3, rfl, by go_num, by omega, ⟨by rw [List.length_append, HN.out.1]; rfl, ?_, ?_⟩, HOW.out, HB3.out⟩
        · have h1 := HN.out.2.1
          unfold nms at h1 ⊢
          rw [take_get we0 hlt, List.map_append, List.map_append, h1, ← HEe.out]
          rfl
        · rw [take_get we0 hlt, List.map_append, List.map_append, HN.out.2.2, ← HEe.out]
          rfl
      case measure => simp [intOf]; omega
    · have hje : j = R.length := by omega
      subst hje
      go_wp2
      go_ret
      have hn := HN.out
      rw [List.take_length] at hn
      exact ⟨_, R', rfl, hn.2.1, hn.2.2, HO.out, HB.out⟩
end Go.Proofs.Ytlleajegfeilfaa

