import Derived.Test.YtkmefeihkmbngaaDoorG02Arr
import Derived.Deep.DeepCutAuto
import Derived.Test.YtkmefeihkmbngaaDoorG01Sym
import Derived.Laws.CopyRow
import Derived.Laws.MakeOwn
namespace Go.Proofs.YtkmefeihkmbngaaDoor
open Go.RowKit Go.Maps
set_option maxRecDepth 20000

theorem OI.get {w : World} {base : Nat} {v : Value} {l : List Int} (h : OI w base v l) {b : Nat} (hv : v.ownBlock = some b) {i : Nat} (hi : i < l.length) : w.cell? ⟨b, i, none⟩ = some (.int .i64 (l.getD i 0)) := by
  rcases h.2 with ⟨rfl, h0⟩ | ⟨g, cap, cur, rfl, h1, h2, h3, h4, h5, h6⟩
  · simp [Value.ownBlock] at hv
  · simp [Value.ownBlock] at hv
    subst hv
    have := World.ownsRow.cells h (g := g) rfl i (.int .i64 (l.getD i 0)) (by simp [hi])
    rwa [Addr.add_lit, Nat.zero_add] at this

theorem OI.put {w : World} {B : Nat} {v : Value} {l : List Int} (h : OI w B v l) {k : Nat} (hk : k < l.length) (m : Int) :
    ∃ g c, v = .slice (some ⟨g, 0, none⟩) l.length c ∧ (∃ u, w.cell? ⟨g, k, none⟩ = some u) ∧ w.frozen? ⟨g, k, none⟩ = false ∧ OI (w.setCell ⟨g, k, none⟩ (.int .i64 m)) B v (l.set k m) := by
  rcases h.2 with ⟨hv, h0⟩ | ⟨g, cap, cur, rfl, h1, h2, h3, h4, h5, h6⟩
  · omega
  · refine ⟨g, cap, rfl, ⟨_, h.get rfl hk⟩, frozen_of_row _ _ _ _ _ h2, ?_⟩
    unfold OI
    rw [List.length_set, List.map_set]
    refine ⟨by simp, .inr ⟨g, cap, _, rfl, h1, heap_setCell_same _ _ _ _ _ _ h2, h3, h4, by simpa using h5, ?_⟩⟩
    simp only [Array.toList_setIfInBounds, List.take_set]
    rw [h6]

theorem OI.form {w : World} {base : Nat} {v : Value} {l : List Int} (h : OI w base v l) (h0 : 0 < l.length) : ∃ g c, v = .slice (some ⟨g, 0, none⟩) l.length c ∧ base ≤ g ∧ g < w.heap.size ∧ l.length ≤ c ∧ c ≤ 9223372036854775807 := by
  rcases h.2 with ⟨hv, hz⟩ | ⟨g, cap, cur, rfl, h1, h2, h3, h4, h5, h6⟩
  · omega
  · unfold maxLen at h4
    exact ⟨g, cap, rfl, h1, (h.lt g rfl).2, h3, by omega⟩

end Go.Proofs.YtkmefeihkmbngaaDoor

namespace Go.Proofs.YtkmefeihkmbngaaDoor
open Go.RowKit Go.Maps
set_option maxRecDepth 20000
set_option linter.unusedVariables false

theorem mk_ints (n : Nat) (hn : n ≤ 1000) (w : World) : (Instr.makeSlice 23 (.int .i64 (n : Int)) (.int .i64 (n : Int))).run Tryd.prog w = .ok (.slice (some ⟨w.heap.size, 0, none⟩) n n) (w.alloc (.cells (List.replicate n (Value.int .i64 0)).toArray 3)) := by
  obtain ⟨i0, hi, hz0, hz1, hz2⟩ := info_parts infoInt
  have hr := run_make (P := Tryd.prog) w 23 3 i0 _ Tryd.underlying23 hi hz0 .i64 .i64 (n : Int) (n : Int) (by omega) (by omega) (by rw [hz2]; omega) (by omega)
  have e : (madeCells (Value.int .i64 0).cells n) = (List.replicate n (Value.int .i64 0)).toArray := by
    apply Array.ext'
    exact madeInts n
  rw [hr, hz1, Int.toNat_natCast, Nat.mul_one, e]

structure Cb (w : World) (B r g g1 g2 : Nat) (l d : List Int) : Prop where
  box : w.heap[g]? = some (.cells #[.slice (some ⟨g1, 0, none⟩) 286 286, .slice (some ⟨g2, 0, none⟩) 30 30] 53 (0, 0))
  res : w.heap[r]? = some (.cells #[.slice none 0 0, .slice none 0 0] 53 (0, 0))
  lit : OI w B (.slice (some ⟨g1, 0, none⟩) 286 286) l
  dist : OI w B (.slice (some ⟨g2, 0, none⟩) 30 30) d
  ll : l.length = 286
  dl : d.length = 30
  ne : g1 ≠ g2 ∧ g ≠ g1 ∧ g ≠ g2 ∧ r ≠ g ∧ r ≠ g1 ∧ r ≠ g2
  up : B ≤ g ∧ B ≤ r ∧ B ≤ g1 ∧ B ≤ g2

theorem lt_of_block {w : World} {k : Nat} {o : Obj} (h : w.heap[k]? = some o) : k < w.heap.size := (Array.getElem?_eq_some_iff.1 h).1

theorem Cb.low {w w' : World} {B r g g1 g2 : Nat} {l d : List Int} (h : Cb w B r g g1 g2 l d) (hb : Below w.heap.size w w') : Cb w' B r g g1 g2 l d :=
  ⟨(hb.block g (lt_of_block h.box)).trans h.box, (hb.block r (lt_of_block h.res)).trans h.res, h.lit.move fun k hk => hb.block k (h.lit.lt k hk).2, h.dist.move fun k hk => hb.block k (h.dist.lt k hk).2, h.ll, h.dl, h.ne, h.up⟩

theorem Cb.atl {w : World} {B r g g1 g2 : Nat} {l d : List Int} (h : Cb w B r g g1 g2 l d) {i : Nat} (hi : i < 286) : w.cell? ⟨g1, i, none⟩ = some (.int .i64 (l.getD i 0)) ∧ w.frozen? ⟨g1, i, none⟩ = false := by
  have hl : i < l.length := by rw [h.ll]; exact hi
  obtain ⟨g', c', e, ⟨u, hu⟩, hf, _⟩ := h.lit.put hl 0
  simp only [Value.slice.injEq, Option.some.injEq, Addr.mk.injEq] at e
  obtain ⟨⟨rfl, -⟩, -⟩ := e
  exact ⟨h.lit.get rfl hl, hf⟩

theorem Cb.atd {w : World} {B r g g1 g2 : Nat} {l d : List Int} (h : Cb w B r g g1 g2 l d) {i : Nat} (hi : i < 30) : w.cell? ⟨g2, i, none⟩ = some (.int .i64 (d.getD i 0)) ∧ w.frozen? ⟨g2, i, none⟩ = false := by
  have hl : i < d.length := by rw [h.dl]; exact hi
  obtain ⟨g', c', e, ⟨u, hu⟩, hf, _⟩ := h.dist.put hl 0
  simp only [Value.slice.injEq, Option.some.injEq, Addr.mk.injEq] at e
  obtain ⟨⟨rfl, -⟩, -⟩ := e
  exact ⟨h.dist.get rfl hl, hf⟩

theorem Cb.putl {w : World} {B r g g1 g2 : Nat} {l d : List Int} (h : Cb w B r g g1 g2 l d) {i : Nat} (hi : i < 286) (x : Int) : Cb (w.setCell ⟨g1, i, none⟩ (.int .i64 x)) B r g g1 g2 (l.set i x) d := by
  have hl : i < l.length := by rw [h.ll]; exact hi
  obtain ⟨g', c', e, _, _, ho⟩ := h.lit.put hl x
  simp only [Value.slice.injEq, Option.some.injEq, Addr.mk.injEq] at e
  obtain ⟨⟨rfl, -⟩, -⟩ := e
  have hn := h.ne
  refine ⟨?_, ?_, ho, h.dist.move fun k hk => ?_, by simp [h.ll], h.dl, hn, h.up⟩
  · rw [setCell_others _ _ _ _ _ hn.2.1]; exact h.box
  · rw [setCell_others _ _ _ _ _ hn.2.2.2.2.1]; exact h.res
  · simp [Value.ownBlock] at hk
    subst hk
    exact setCell_others _ _ _ _ _ (fun e => hn.1 e.symm)

theorem Cb.putd {w : World} {B r g g1 g2 : Nat} {l d : List Int} (h : Cb w B r g g1 g2 l d) {i : Nat} (hi : i < 30) (x : Int) : Cb (w.setCell ⟨g2, i, none⟩ (.int .i64 x)) B r g g1 g2 l (d.set i x) := by
  have hl : i < d.length := by rw [h.dl]; exact hi
  obtain ⟨g', c', e, _, _, ho⟩ := h.dist.put hl x
  simp only [Value.slice.injEq, Option.some.injEq, Addr.mk.injEq] at e
  obtain ⟨⟨rfl, -⟩, -⟩ := e
  have hn := h.ne
  refine ⟨?_, ?_, h.lit.move fun k hk => ?_, ho, h.ll, by simp [h.dl], hn, h.up⟩
  · rw [setCell_others _ _ _ _ _ hn.2.2.1]; exact h.box
  · rw [setCell_others _ _ _ _ _ hn.2.2.2.2.2]; exact h.res
  · simp [Value.ownBlock] at hk
    subst hk
    exact setCell_others _ _ _ _ _ hn.1

theorem Cb.cells {w : World} {B r g g1 g2 : Nat} {l d : List Int} (h : Cb w B r g g1 g2 l d) : w.cell? ⟨g, 0, none⟩ = some (.slice (some ⟨g1, 0, none⟩) 286 286) ∧ w.cell? ⟨g, 1, none⟩ = some (.slice (some ⟨g2, 0, none⟩) 30 30) := by
  constructor <;> (unfold World.cell?; rw [h.box]; rfl)

theorem Cb.start {w : World} {B r g g1 g2 : Nat} (h1 : w.heap[g]? = some (.cells #[.slice (some ⟨g1, 0, none⟩) 286 286, .slice (some ⟨g2, 0, none⟩) 30 30] 53 (0, 0))) (h2 : w.heap[r]? = some (.cells #[.slice none 0 0, .slice none 0 0] 53 (0, 0)))
    (h3 : w.heap[g1]? = some (.cells (List.replicate 286 (Value.int .i64 0)).toArray 3 (0, 0))) (h4 : w.heap[g2]? = some (.cells (List.replicate 30 (Value.int .i64 0)).toArray 3 (0, 0))) (h5 : g1 ≠ g2 ∧ g ≠ g1 ∧ g ≠ g2 ∧ r ≠ g ∧ r ≠ g1 ∧ r ≠ g2) (h6 : B ≤ g ∧ B ≤ r ∧ B ≤ g1 ∧ B ≤ g2) : Cb w B r g g1 g2 (List.replicate 286 0) (List.replicate 30 0) :=
  ⟨h1, h2, ⟨by simp, .inr ⟨g1, 286, _, rfl, h6.2.2.1, h3, by simp, by unfold maxLen; omega, by simp, by simp⟩⟩, ⟨by simp, .inr ⟨g2, 30, _, rfl, h6.2.2.2, h4, by simp, by unfold maxLen; omega, by simp, by simp⟩⟩, by simp, by simp, h5, h6⟩

theorem alloc_at (w : World) (o : Obj) (k : Nat) : (w.alloc o).heap[k]? = if k = w.heap.size then some o else w.heap[k]? := by
  by_cases h : k = w.heap.size
  · subst h; rw [if_pos rfl]; exact heap_alloc_new w o
  · rw [if_neg h]
    by_cases hl : k < w.heap.size
    · exact heap_alloc_old w o hl
    · rw [Array.getElem?_eq_none (by simp; omega), Array.getElem?_eq_none (by omega)]

theorem alloc4 (w : World) (a b c d : Obj) : ((((w.alloc a).alloc b).alloc c).alloc d).drew.heap[w.heap.size]? = some a ∧ ((((w.alloc a).alloc b).alloc c).alloc d).drew.heap[w.heap.size + 1]? = some b ∧
    ((((w.alloc a).alloc b).alloc c).alloc d).drew.heap[w.heap.size + 1 + 1]? = some c ∧ ((((w.alloc a).alloc b).alloc c).alloc d).drew.heap[w.heap.size + 1 + 1 + 1]? = some d := by
  have s1 : (w.alloc a).heap.size = w.heap.size + 1 := by simp
  have s2 : ((w.alloc a).alloc b).heap.size = w.heap.size + 1 + 1 := by simp
  have s3 : (((w.alloc a).alloc b).alloc c).heap.size = w.heap.size + 1 + 1 + 1 := by simp
  have e : ((((w.alloc a).alloc b).alloc c).alloc d).drew.heap = ((((w.alloc a).alloc b).alloc c).alloc d).heap := rfl
  rw [e]
  refine ⟨?_, ?_, ?_, ?_⟩
  · rw [alloc_at, if_neg (by omega), alloc_at, if_neg (by omega), alloc_at, if_neg (by omega), alloc_at, if_pos rfl]
  · rw [alloc_at, if_neg (by omega), alloc_at, if_neg (by omega), alloc_at, if_pos (by omega)]
  · rw [alloc_at, if_neg (by omega), alloc_at, if_pos (by omega)]
  · rw [alloc_at, if_pos (by omega)]

theorem bd_zeros (n : Nat) : Bd (List.replicate n 0) 0 := fun i => by
  have : (List.replicate n (0 : Int)).getD i 0 = 0 := by rw [List.getD_eq_getElem?_getD, List.getElem?_replicate]; split <;> rfl
  rw [this]
  omega

theorem snd_take {R : List Tk} {k : Nat} (hk : k < R.length) : R.take (k + 1) = R.take k ++ [R.getD k tk0] := tk_snoc hk

set_option maxHeartbeats 1000000 in
theorem ocount_any (v : Value) (R : List Tk) (w : World) (h : SK w v R) (hs : ∀ t ∈ R, Snd t ∧ Bt t) (hn : R.length ≤ 16777216) (T : Ltab w ∧ Dtab w) :
    Calls Tryd.prog 27 #[v] w fun e w' => ∃ g1 g2, e = .returned (.agg #[.slice (some ⟨g1, 0, none⟩) 286 286, .slice (some ⟨g2, 0, none⟩) 30 30]) ∧ OI w' w.heap.size (.slice (some ⟨g1, 0, none⟩) 286 286) ((cls (List.replicate 286 0) R).set 256 1) ∧ OI w' w.heap.size (.slice (some ⟨g2, 0, none⟩) 30 30) (cdt (List.replicate 30 0) R) ∧ g1 ≠ g2 ∧ Below w.heap.size w w' := by
  have HS := hide h
  have HSN := hide hs
  have HT := hide T
  obtain ⟨ao, cap, rfl, hlc, hcm⟩ := h.open
  have hmx : R.length ≤ 9223372036854775807 := by omega
  have m1 : ∀ w : World, (Instr.makeSlice 23 (.int .i64 286) (.int .i64 286)).run Tryd.prog w = .ok (.slice (some ⟨w.heap.size, 0, none⟩) 286 286) (w.alloc (.cells (List.replicate 286 (Value.int .i64 0)).toArray 3)) := fun w => mk_ints 286 (by omega) w
  have m2 : ∀ w : World, (Instr.makeSlice 23 (.int .i64 30) (.int .i64 30)).run Tryd.prog w = .ok (.slice (some ⟨w.heap.size, 0, none⟩) 30 30) (w.alloc (.cells (List.replicate 30 (Value.int .i64 0)).toArray 3)) := fun w => mk_ints 30 (by omega) w
  obtain ⟨Z1, HZ1⟩ : ∃ Z, Hid ((List.replicate 286 (Value.int .i64 0)).toArray = Z) := ⟨_, rfl⟩
  obtain ⟨Z2, HZ2⟩ : ∃ Z, Hid ((List.replicate 30 (Value.int .i64 0)).toArray = Z) := ⟨_, rfl⟩
  rw [HZ1.out] at m1
  rw [HZ2.out] at m2
  have HBA : Hid (∀ a b c d : Obj, Below w.heap.size w ((((w.alloc a).alloc b).alloc c).alloc d).drew) := fun a b c d => by
    have h1 := (Below.refl w.heap.size w).alloc (Nat.le_refl _) a
    have h2 := h1.alloc h1.size b
    have h3 := h2.alloc h2.size c
    exact below_drewN (h3.alloc h3.size d) 1
  clear h hs T
  go_enter Tryd.func27, Tryd.ntmps27
  go_wp2
  go_cut [3] (fun s3 wx => ∃ g g1 g2, s3 = .pointer (some ⟨g, 0, none⟩) ∧ Hid (Cb wx w.heap.size w.heap.size g g1 g2 (List.replicate 286 0) (List.replicate 30 0)) ∧ Hid (Below w.heap.size w wx))
  case first =>
    go_region
    all_goals
      go_wp2_with fail
      go_meet
      first
        | exact ⟨_, w.heap.size + 1, w.heap.size + 1 + 1, rfl, hide (Cb.start (alloc4 w _ _ _ _).2.2.2 (alloc4 w _ _ _ _).1 (HZ1.out ▸ (alloc4 w _ _ _ _).2.1) (HZ2.out ▸ (alloc4 w _ _ _ _).2.2.1) (by omega) (by omega)), hide (HBA.out _ _ _ _)⟩
        | exact ⟨_, w.heap.size + 1, w.heap.size + 1 + 1 + 1, rfl, hide (Cb.start (alloc4 w _ _ _ _).2.2.1 (alloc4 w _ _ _ _).1 (HZ1.out ▸ (alloc4 w _ _ _ _).2.1) (HZ2.out ▸ (alloc4 w _ _ _ _).2.2.2) (by omega) (by omega)), hide (HBA.out _ _ _ _)⟩
        | exact ⟨_, w.heap.size + 1 + 1, w.heap.size + 1, rfl, hide (Cb.start (alloc4 w _ _ _ _).2.2.2 (alloc4 w _ _ _ _).1 (HZ1.out ▸ (alloc4 w _ _ _ _).2.2.1) (HZ2.out ▸ (alloc4 w _ _ _ _).2.1) (by omega) (by omega)), hide (HBA.out _ _ _ _)⟩
        | exact ⟨_, w.heap.size + 1 + 1 + 1, w.heap.size + 1, rfl, hide (Cb.start (alloc4 w _ _ _ _).2.2.1 (alloc4 w _ _ _ _).1 (HZ1.out ▸ (alloc4 w _ _ _ _).2.2.2) (HZ2.out ▸ (alloc4 w _ _ _ _).2.1) (by omega) (by omega)), hide (HBA.out _ _ _ _)⟩
        | exact ⟨_, w.heap.size + 1 + 1, w.heap.size + 1 + 1 + 1, rfl, hide (Cb.start (alloc4 w _ _ _ _).2.1 (alloc4 w _ _ _ _).1 (HZ1.out ▸ (alloc4 w _ _ _ _).2.2.1) (HZ2.out ▸ (alloc4 w _ _ _ _).2.2.2) (by omega) (by omega)), hide (HBA.out _ _ _ _)⟩
        | exact ⟨_, w.heap.size + 1 + 1 + 1, w.heap.size + 1 + 1, rfl, hide (Cb.start (alloc4 w _ _ _ _).2.1 (alloc4 w _ _ _ _).1 (HZ1.out ▸ (alloc4 w _ _ _ _).2.2.2) (HZ2.out ▸ (alloc4 w _ _ _ _).2.2.1) (by omega) (by omega)), hide (HBA.out _ _ _ _)⟩
  case rest =>
  obtain ⟨g, g1, g2, rfl, HC0, HB0⟩ := hcut
  clear m1 m2 HZ1 HZ2 HBA
  go_wp2
  go_loopw [19] (fun t wr => ∃ k : Nat, k ≤ R.length ∧ t = .int .i64 (k : Int) ∧ Hid (Cb wr w.heap.size w.heap.size g g1 g2 (cls (List.replicate 286 0) (R.take k)) (cdt (List.replicate 30 0) (R.take k))) ∧ Hid (Below w.heap.size w wr)) (fun t _ => R.length - (intOf t).toNat)
  case atStart => exact ⟨0, Nat.zero_le _, rfl, HC0, HB0⟩
  case round =>
    obtain ⟨k, hk, rfl, HC, HB⟩ := hrel
    clear HC0 HB0
    by_cases hlt : k < R.length
    · have hlt' : (k : Int) < (R.length : Int) := by omega
      obtain ⟨b, o, rfl, c0, c1, c2⟩ := HS.out.get HB.out hlt
      have hsn : Snd (R.getD k tk0) ∧ Bt (R.getD k tk0) := HSN.out _ (by rw [List.getD_eq_getElem?_getD, List.getElem?_eq_getElem hlt]; exact List.getElem_mem hlt)
      have HLI := hide (litS_in hsn.1 hsn.2)
      have HDI := hide (dsy_in hsn.1)
      have HSP := hide (fun h => lsy_spec (x := (R.getD k tk0).1.toNat) h)
      have HDP := hide (fun h => dsy_spec (x := (R.getD k tk0).2.1.toNat) h)
      have HNL : Hid (cls (List.replicate 286 0) (R.take (k + 1)) = inc (cls (List.replicate 286 0) (R.take k)) (litS (R.getD k tk0))) := by show _ = _; rw [snd_take hlt, cls_snoc]; rfl
      have HND : Hid (cdt (List.replicate 30 0) (R.take (k + 1)) = cd (cdt (List.replicate 30 0) (R.take k)) (R.getD k tk0)) := by show _ = _; rw [snd_take hlt, cdt_snoc]
      have HBL := hide (bd_cls (R.take k) _ 0 (bd_zeros 286))
      have HBD := hide (bd_cdt (R.take k) _ 0 (bd_zeros 30))
      rw [List.length_take, Nat.min_eq_left (Nat.le_of_lt hlt), Nat.zero_add] at HBL HBD
      obtain ⟨L, hL⟩ : ∃ L, cls (List.replicate 286 0) (R.take k) = L := ⟨_, rfl⟩
      obtain ⟨D, hD⟩ : ∃ D, cdt (List.replicate 30 0) (R.take k) = D := ⟨_, rfl⟩
      rw [hL] at HNL HC HBL
      rw [hD] at HND HC HBD
      obtain ⟨⟨t1, t2, t3⟩, ht⟩ : ∃ t, R.getD k tk0 = t := ⟨_, rfl⟩
      rw [ht] at c0 c1 c2 hsn HLI HDI HSP HDP HNL HND
      simp only at c0 c1 c2
      obtain ⟨w6, hw6⟩ : ∃ w6, wr.alloc (.cells #[.int .i64 t1, .int .i64 t2, .int .u8 t3] 48) = w6 := ⟨_, rfl⟩
      have HB6 : Hid (Below wr.heap.size wr w6) := by rw [← hw6]; exact (Below.refl _ _).alloc (Nat.le_refl _) _
      have HN6 : Hid (w6.heap[wr.heap.size]? = some (.cells #[.int .i64 t1, .int .i64 t2, .int .u8 t3] 48 (0, 0))) := by rw [← hw6]; exact heap_alloc_new wr _
      have hx6 : wr.heap.size < w6.heap.size := by rw [← hw6]; simp
      have HC6 := hide (HC.out.low HB6.out)
      have HBW6 := hide (HB.out.trans (HB6.out.mono HB.out.size))
      clear ht hL hD HC HB HB6
      obtain ⟨q, hq⟩ : ∃ q, wr.heap.size = q := ⟨_, rfl⟩
      rw [hq] at HN6 hx6
      by_cases h0 : t1 = 0
      · have b0 : 0 ≤ t3 := hsn.2.1
        have b1 : t3 < 256 := hsn.2.2
        obtain ⟨n3, rfl⟩ := Int.eq_ofNat_of_zero_le b0
        have e1 : litS (t1, t2, (n3 : Int)) = n3 := by unfold litS; rw [if_pos h0]; simp
        have e2 : cd D (t1, t2, (n3 : Int)) = D := by unfold cd; rw [if_pos h0]
        rw [e1] at HNL HLI
        rw [e2] at HND
        have hi3 : n3 < 286 := by omega
        have y0 : w6.cell? ⟨q, 0, none⟩ = some (.int .i64 t1) := by unfold World.cell?; rw [HN6.out]; rfl
        have y2 : w6.cell? ⟨q, 2, none⟩ = some (.int .u8 (n3 : Int)) := by unfold World.cell?; rw [HN6.out]; rfl
        rw [h0] at y0
        obtain ⟨p0, p1⟩ := HC6.out.cells
        obtain ⟨x0, x1⟩ := HC6.out.atl hi3
        have hbl := HBL.out n3
        have HP := hide (HC6.out.putl hi3 (L.getD n3 0 + 1))
        have HBP : Hid (Below w.heap.size w (w6.setCell ⟨g1, n3, none⟩ (.int .i64 (L.getD n3 0 + 1)))) := HBW6.out.setCell (p := ⟨g1, n3, none⟩) HC6.out.up.2.2.1 _
        obtain ⟨x, hx⟩ : ∃ x, L.getD n3 0 = x := ⟨_, rfl⟩
        have e3 : inc L n3 = L.set n3 (x + 1) := by unfold inc; rw [hx]
        rw [e3] at HNL
        rw [hx] at x0 hbl HP HBP
        have hwr : wrap64 (x + 1) = x + 1 := by unfold wrap64; omega
        have n3' : (n3 : Int) < 286 := by omega
        clear hsn HDI HSP HDP HLI HBL HBD hx e1 e2 e3 HN6 HC6 HBW6 h0
        go_wp2
        go_roundw
        case rel => exact ⟨k + 1, by omega, by go_num, by rw [HNL.out, HND.out]; exact HP, HBP⟩
        case measure => simp [intOf]; omega
      · have hq3 : 3 ≤ t1 ∧ t1 ≤ 258 ∧ 1 ≤ t2 ∧ t2 ≤ 32768 ∧ t3 = 0 := by
          have := hsn.1
          unfold Snd at this
          rw [if_neg h0] at this
          exact this
        obtain ⟨b1, b2, b3, b4, b5⟩ := hq3
        obtain ⟨x1, rfl⟩ := Int.eq_ofNat_of_zero_le (show 0 ≤ t1 by omega)
        obtain ⟨x2, rfl⟩ := Int.eq_ofNat_of_zero_le (show 0 ≤ t2 by omega)
        have e1 : litS ((x1 : Int), (x2 : Int), t3) = 257 + lsy x1 := by unfold litS; rw [if_neg h0]; simp
        have e2 : cd D ((x1 : Int), (x2 : Int), t3) = inc D (dsy x2) := by unfold cd; rw [if_neg h0]; simp
        have e4 : dsy x2 < 30 := by have := HDI.out h0; simpa using this
        have hls : Lsy x1 (lsy x1) := by have := HSP.out (by simp; omega); simpa using this
        have hds : Dsy x2 (dsy x2) := by have := HDP.out (by simp; omega); simpa using this
        have hi1 : 257 + lsy x1 < 286 := by have := HLI.out.1; rw [e1] at this; exact this
        rw [e1] at HNL
        rw [e2] at HND
        have HT6 : Hid (Ltab w6 ∧ Dtab w6) := ⟨HT.out.1.low HBW6.out, HT.out.2.low HBW6.out⟩
        have HLS := hide (lsymbol_any x1 (lsy x1) w6 HT6.out.1 hls (by omega) (by omega))
        have HDS := hide (fun w7 (hb : Below w6.heap.size w6 w7) => dsymbol_any x2 (dsy x2) w7 (HT6.out.2.low hb) hds (by omega) (by omega))
        obtain ⟨A, hA⟩ : ∃ A, 257 + lsy x1 = A := ⟨_, rfl⟩
        obtain ⟨F1, hF1⟩ : ∃ A, LF (lsy x1) = A := ⟨_, rfl⟩
        obtain ⟨F2, hF2⟩ : ∃ A, x1 - LB (lsy x1) = A := ⟨_, rfl⟩
        obtain ⟨F3, hF3⟩ : ∃ A, DF (dsy x2) = A := ⟨_, rfl⟩
        obtain ⟨F4, hF4⟩ : ∃ A, x2 - DB (dsy x2) = A := ⟨_, rfl⟩
        obtain ⟨B, hB⟩ : ∃ A, dsy x2 = A := ⟨_, rfl⟩
        rw [hA, hF1, hF2] at HLS
        rw [hA] at HNL hi1
        rw [hF3, hF4, hB] at HDS
        rw [hB] at HND e4
        have y0 : w6.cell? ⟨q, 0, none⟩ = some (.int .i64 (x1 : Int)) := by unfold World.cell?; rw [HN6.out]; rfl
        have y1 : w6.cell? ⟨q, 1, none⟩ = some (.int .i64 (x2 : Int)) := by unfold World.cell?; rw [HN6.out]; rfl
        have z0 : ((x1 : Int) == 0) = false := by simp; omega
        clear hsn HDI HSP HDP HLI e1 e2 hls hds hA hF1 hF2 hF3 hF4 hB HT6 h0 b1 b2 b3 b4 b5
        go_wp2_with fail
        refine HLS.out.mono ?_
        rintro e w7 ⟨rfl, b7⟩
        have HDS7 := hide (HDS.out w7 b7)
        have HC7 := hide (HC6.out.low b7)
        have HBW7 := hide (HBW6.out.trans (b7.mono HBW6.out.size))
        have z1 : w7.cell? ⟨q, 1, none⟩ = some (.int .i64 (x2 : Int)) := (b7.cell (by exact hx6)).trans y1
        clear HDS HLS HC6 HBW6 y0 y1 b7 HN6 hx6
        go_wp2_with fail
        refine HDS7.out.mono ?_
        rintro e w8 ⟨rfl, b8⟩
        have HC8 := hide (HC7.out.low b8)
        have HBW8 := hide (HBW7.out.trans (b8.mono HBW7.out.size))
        clear HDS7 HC7 HBW7 z1 b8
        have hbl := HBL.out A
        have hbd := HBD.out B
        have HC9 := hide (HC8.out.putl hi1 (L.getD A 0 + 1))
        have HC10 := hide (HC9.out.putd e4 (D.getD B 0 + 1))
        have HB10 : Hid (Below w.heap.size w ((w8.setCell ⟨g1, A, none⟩ (.int .i64 (L.getD A 0 + 1))).setCell ⟨g2, B, none⟩ (.int .i64 (D.getD B 0 + 1)))) := (HBW8.out.setCell (p := ⟨g1, A, none⟩) HC8.out.up.2.2.1 _).setCell (p := ⟨g2, B, none⟩) HC8.out.up.2.2.2 _
        obtain ⟨p0, p1⟩ := HC8.out.cells
        obtain ⟨u0, u1⟩ := HC8.out.atl hi1
        obtain ⟨p3, p4⟩ := HC9.out.cells
        obtain ⟨u3, u4⟩ := HC9.out.atd e4
        obtain ⟨x, hx⟩ : ∃ x, L.getD A 0 = x := ⟨_, rfl⟩
        obtain ⟨y, hy⟩ : ∃ x, D.getD B 0 = x := ⟨_, rfl⟩
        have e3 : inc L A = L.set A (x + 1) := by unfold inc; rw [hx]
        have e5 : inc D B = D.set B (y + 1) := by unfold inc; rw [hy]
        rw [e3] at HNL
        rw [e5] at HND
        rw [hx] at u0 hbl HC10 HB10 p3 p4 u3 u4
        rw [hy] at u3 hbd HC10 HB10
        have hw1 : wrap64 (x + 1) = x + 1 := by unfold wrap64; omega
        have hw2 : wrap64 (y + 1) = y + 1 := by unfold wrap64; omega
        have A' : (A : Int) < 286 := by omega
        have B' : (B : Int) < 30 := by omega
        clear hx hy HC8 HC9 HBW8 HBL HBD e3 e5
        go_wp2
        go_roundw
        case rel => exact ⟨k + 1, by omega, by go_num, by rw [HNL.out, HND.out]; exact HC10, HB10⟩
        case measure => simp [intOf]; omega
    · obtain rfl : k = R.length := by omega
      have hlt' : ¬ (R.length : Int) < (R.length : Int) := by omega
      rw [List.take_of_length_le (Nat.le_refl _)] at HC
      have hup := HC.out.up
      have hne := HC.out.ne
      have HC1 := hide (HC.out.putl (i := 256) (by omega) 1)
      obtain ⟨p0, p1⟩ := HC.out.cells
      obtain ⟨u0, u1⟩ := HC.out.atl (i := 256) (by omega)
      obtain ⟨p2, p3⟩ := HC1.out.cells
      obtain ⟨w9, hw9⟩ : ∃ w9, wr.setCell ⟨g1, 256, none⟩ (.int .i64 1) = w9 := ⟨_, rfl⟩
      have HB9 : Hid (Below w.heap.size w w9) := by rw [← hw9]; exact HB.out.setCell (p := ⟨g1, 256, none⟩) hup.2.2.1 _
      rw [hw9] at HC1 p2 p3
      have r0 : w9.cell? ⟨w.heap.size, 0, none⟩ = some (.slice none 0 0) := by unfold World.cell?; rw [HC1.out.res]; rfl
      have r1 : w9.cell? ⟨w.heap.size, 1, none⟩ = some (.slice none 0 0) := by unfold World.cell?; rw [HC1.out.res]; rfl
      have r2 : w9.frozen? ⟨w.heap.size, 0, none⟩ = false := frozen_of_row _ _ _ _ _ HC1.out.res
      have r3 : w9.frozen? ⟨w.heap.size, 1, none⟩ = false := frozen_of_row _ _ _ _ _ HC1.out.res
      obtain ⟨wf, hwf⟩ : ∃ wf, (w9.setCell ⟨w.heap.size, 0, none⟩ (.slice (some ⟨g1, 0, none⟩) 286 286)).setCell ⟨w.heap.size, 1, none⟩ (.slice (some ⟨g2, 0, none⟩) 30 30) = wf := ⟨_, rfl⟩
      have hoth : ∀ k, k ≠ w.heap.size → wf.heap[k]? = w9.heap[k]? := fun k hk => by rw [← hwf, setCell_others _ _ _ _ _ hk, setCell_others _ _ _ _ _ hk]
      have HBF : Hid (Below w.heap.size w wf) := by rw [← hwf]; exact (HB9.out.setCell (p := ⟨w.heap.size, 0, none⟩) (Nat.le_refl _) _).setCell (p := ⟨w.heap.size, 1, none⟩) (Nat.le_refl _) _
      have HLF : Hid (OI wf w.heap.size (.slice (some ⟨g1, 0, none⟩) 286 286) ((cls (List.replicate 286 0) R).set 256 1)) := HC1.out.lit.move fun k hk => hoth k (by simp [Value.ownBlock] at hk; omega)
      have HDF : Hid (OI wf w.heap.size (.slice (some ⟨g2, 0, none⟩) 30 30) (cdt (List.replicate 30 0) R)) := HC1.out.dist.move fun k hk => hoth k (by simp [Value.ownBlock] at hk; omega)
      have hfb : wf.heap[w.heap.size]? = some (.cells #[.slice (some ⟨g1, 0, none⟩) 286 286, .slice (some ⟨g2, 0, none⟩) 30 30] 53 (0, 0)) := by
        have h1 := heap_setCell_same w9 w.heap.size 0 _ _ (.slice (some ⟨g1, 0, none⟩) 286 286) HC1.out.res
        have h2 := heap_setCell_same _ w.heap.size 1 _ _ (.slice (some ⟨g2, 0, none⟩) 30 30) h1
        rw [hwf] at h2
        simpa using h2
      have f0 : wf.cell? ⟨w.heap.size, 0, none⟩ = some (.slice (some ⟨g1, 0, none⟩) 286 286) := by unfold World.cell?; rw [hfb]; rfl
      have f1 : wf.cell? ⟨w.heap.size, 1, none⟩ = some (.slice (some ⟨g2, 0, none⟩) 30 30) := by unfold World.cell?; rw [hfb]; rfl
      have HNE : Hid (g1 ≠ g2) := hne.1
      clear hoth hfb HC HC1 HB9 hup hne
      go_wp2
      refine bodyPost_ret (v := .agg #[.slice (some ⟨g1, 0, none⟩) 286 286, .slice (some ⟨g2, 0, none⟩) 30 30]) (by simp [results, Tryd.results27, go_sem, f0, f1]) rfl ?_
      exact ⟨_, _, rfl, HLF.out, HDF.out, HNE.out, HBF.out⟩
end Go.Proofs.YtkmefeihkmbngaaDoor

namespace Go.Proofs.YtkmefeihkmbngaaDoor
open Go.RowKit
set_option maxRecDepth 20000
set_option linter.unusedVariables false

theorem wrap_small {n : Nat} (h : n ≤ 1000000) : wrap64 (n : Int) = (n : Int) := by unfold wrap64; omega

theorem wrapu_small {n : Nat} (h : n ≤ 1000000) : IntKind.u64.wrap (n : Int) = (n : Int) := by rw [IntKind.wrap_u64]; omega

theorem wrap_add {a b : Nat} (h : a + b ≤ 1000000) : wrap64 ((a : Int) + (b : Int)) = (a : Int) + (b : Int) := by unfold wrap64; omega

theorem lsy_step {x i j : Nat} (h : Lsy x i) (hx : x < 258) (hj : j ≤ i) : i ≤ 27 ∧ (j < i → LB j + 2 ^ LF j ≤ x) ∧ (j = i → x < LB j + 2 ^ LF j) := by
  obtain ⟨h1, h2, h3⟩ := h
  have hi : i ≤ 27 := by
    by_cases e : i = 28
    · subst e
      have : LB 28 = 258 := by decide
      omega
    · omega
  refine ⟨hi, fun hlt => ?_, fun e => ?_⟩
  · rw [← lbNext j (by omega)]
    by_cases e : j + 1 = i
    · rw [e]; exact h2
    · have := lb_up (j + 1) i (by omega) (by omega) (by omega)
      omega
  · subst e
    by_cases e : j = 27
    · subst e
      have : LB 27 + 2 ^ LF 27 = 259 := by decide
      omega
    · rw [← lbNext j (by omega)]
      exact h3 (j + 1) (by omega) (by omega)

theorem dsy_step {x i j : Nat} (h : Dsy x i) (hx : x ≤ 32768) (hj : j ≤ i) : (j < i → DB (j + 1) ≤ x) ∧ (j = i → x < DB (j + 1)) := by
  obtain ⟨h1, h2, h3⟩ := h
  refine ⟨fun hlt => ?_, fun e => ?_⟩
  · by_cases e : j + 1 = i
    · rw [e]; exact h2
    · have := db_up (j + 1) i (by omega) (by omega) (by omega)
      omega
  · subst e
    by_cases e : j = 29
    · subst e
      have : DB (29 + 1) = 32769 := by decide
      omega
    · exact h3 (j + 1) (by omega) (by omega)

set_option maxHeartbeats 2000000 in
theorem xdsymbol_any (x i : Nat) (w : World) (h : Dsy x i) (hx : 1 ≤ x) (hx2 : x ≤ 32768) :
    Calls Tryd.prog 29 #[.int .i64 (x : Int)] w fun e w' => e = .returned (.tuple #[.int .i64 (i : Int), .int .i64 (DF i : Int), .int .i64 ((x - DB i : Nat) : Int), .int .i64 0]) ∧ w' = w := by
  have HST := hide (fun j => dsy_step (j := j) h hx2)
  have hi : i < 30 := h.1
  have h2 : DB i ≤ x := h.2.1
  have HDL := hide (dfLe i hi)
  obtain ⟨B, hB⟩ : ∃ B, DB i = B := ⟨_, rfl⟩
  obtain ⟨F, hF⟩ : ∃ F, DF i = F := ⟨_, rfl⟩
  have HLB := hide hB
  have HLF := hide hF
  rw [hB] at h2 ⊢
  rw [hF]
  have g1 : ¬ (x : Int) < 1 := by omega
  have g2 : ¬ (32768 : Int) < (x : Int) := by omega
  have g6 : wrap64 ((x : Int) - (B : Int)) = ((x - B : Nat) : Int) := by unfold wrap64; omega
  have g4 : (x : Int) - (B : Int) = ((x - B : Nat) : Int) := by omega
  obtain ⟨Z, hZ⟩ : ∃ z : Int, ((x - B : Nat) : Int) = z := ⟨_, rfl⟩
  rw [hZ] at g4 g6 ⊢
  clear hZ hB hF h
  go_enter Tryd.func29, Tryd.ntmps29
  go_wp2
  go_loopw [6] (fun t wr => ∃ j : Nat, j ≤ i ∧ t = .int .i64 (j : Int) ∧ wr = w) (fun t _ => i - (intOf t).toNat)
  case atStart => exact ⟨0, Nat.zero_le _, rfl, rfl⟩
  case round =>
    obtain ⟨j, hj, rfl, rfl⟩ := hrel
    have HBA := hide (xdbase_any (j + 1) (by omega) wr)
    obtain ⟨s1, s2⟩ := HST.out j hj
    obtain ⟨Q, hQ⟩ : ∃ Q, DB (j + 1) = Q := ⟨_, rfl⟩
    rw [hQ] at HBA s1 s2
    rw [show ((j + 1 : Nat) : Int) = (j : Int) + 1 by omega] at HBA
    have k1 : wrap64 ((j : Int) + 1) = (j : Int) + 1 := by unfold wrap64; omega
    by_cases hlt : j < i
    · have k2 : (Q : Int) ≤ (x : Int) := by have := s1 hlt; omega
      clear s1 s2 hQ
      go_wp2_with fail
      refine HBA.out.mono ?_
      rintro e w8 ⟨rfl, hw8⟩
      subst hw8
      go_wp2
      go_roundw
      case rel => exact ⟨j + 1, by omega, by go_num, by first | rfl | trivial⟩
      case measure => simp [intOf]; omega
    · obtain rfl : j = i := by omega
      have k2 : ¬ (Q : Int) ≤ (x : Int) := by have := s2 rfl; omega
      have HFI := hide (xdbits_any j hi wr)
      have HFA := hide (xdbase_any j (by omega) wr)
      rw [HLF.out] at HFI
      rw [HLB.out] at HFA
      clear s1 s2 hQ
      go_wp2_with fail
      refine HBA.out.mono ?_
      rintro e w8 ⟨rfl, hw8⟩
      subst hw8
      go_wp2_with fail
      refine HFI.out.mono ?_
      rintro e w8 ⟨rfl, hw8⟩
      subst hw8
      go_wp2_with fail
      refine HFA.out.mono ?_
      rintro e w8 ⟨rfl, hw8⟩
      subst hw8
      go_wp2
      refine bodyPost_ret (results_tmp4 rfl _ _ _) rfl ?_
      exact ⟨rfl, rfl⟩

set_option maxHeartbeats 4000000 in
theorem xlsymbol_any (x i : Nat) (w : World) (h : Lsy x i) (hx : 3 ≤ x) (hx2 : x ≤ 258) :
    Calls Tryd.prog 28 #[.int .i64 (x : Int)] w fun e w' => e = .returned (.tuple #[.int .i64 ((257 + i : Nat) : Int), .int .i64 (LF i : Int), .int .i64 ((x - LB i : Nat) : Int), .int .i64 0]) ∧ w' = w := by
  have HST := hide (fun j (q : x < 258) => lsy_step (j := j) h q)
  have hi : i < 29 := h.1
  have h2 : LB i ≤ x := h.2.1
  have HI8 : Hid (x = 258 → i = 28) := fun e => by
    by_cases q : i = 28
    · exact q
    · have := h.2.2 28 (by omega) (by omega)
      have h8 : LB 28 = 258 := by decide
      omega
  obtain ⟨B, hB⟩ : ∃ B, LB i = B := ⟨_, rfl⟩
  obtain ⟨F, hF⟩ : ∃ F, LF i = F := ⟨_, rfl⟩
  have HLB := hide hB
  have HLF := hide hF
  rw [hB] at h2 ⊢
  rw [hF]
  have g1 : ¬ (x : Int) < 3 := by omega
  have g2 : ¬ (258 : Int) < (x : Int) := by omega
  have g6 : wrap64 ((x : Int) - (B : Int)) = ((x - B : Nat) : Int) := by unfold wrap64; omega
  have g4 : (x : Int) - (B : Int) = ((x - B : Nat) : Int) := by omega
  obtain ⟨Z, hZ⟩ : ∃ z : Int, ((x - B : Nat) : Int) = z := ⟨_, rfl⟩
  obtain ⟨sy, hsy⟩ : ∃ z : Int, z = ((257 + i : Nat) : Int) := ⟨_, rfl⟩
  have HSY := hide hsy
  rw [hZ] at g4 g6 ⊢
  have HG4 := hide g4
  have HG6 := hide g6
  rw [← hsy]
  clear hZ hB hF h hsy g4 g6
  go_enter Tryd.func28, Tryd.ntmps28
  go_wp2
  go_loopw [6, 7] (fun t s wr => ∃ j : Nat, ((t = .int .i64 285 ∧ j ≤ i) ∨ (t = .int .i64 sy ∧ i ≤ 27 ∧ j = i + 1)) ∧ s = .int .i64 ((257 + j : Nat) : Int) ∧ wr = w) (fun _ s _ => 286 - (intOf s).toNat)
  case atStart => exact ⟨0, .inl ⟨rfl, Nat.zero_le _⟩, rfl, rfl⟩
  case round =>
    obtain ⟨j, hjj, rfl, rfl⟩ := hrel
    obtain ⟨sj, hsj⟩ : ∃ z : Int, z = ((257 + j : Nat) : Int) := ⟨_, rfl⟩
    have HSJ := hide hsj
    rw [← hsj]
    rcases hjj with ⟨rfl, hji⟩ | ⟨rfl, hi7, hj⟩
    · by_cases hj28 : j = 28
      · have k1 : ¬ sj < 285 := by omega
        have e1 : i = 28 := by omega
        have e2 : sy = 285 := by have := HSY.out; omega
        have HSY2 : Hid ((285 : Int) = ((257 + i : Nat) : Int)) := by rw [← e2]; exact HSY.out
        have HE2 := hide e2
        clear hsj e1 e2 hj28
        have g4 := HG4.out
        have g6 := HG6.out
        have HFI := hide (xlbits_any i 285 hi HSY2.out wr)
        have HFA := hide (xlbase_any i 285 hi HSY2.out wr)
        rw [HLF.out] at HFI
        rw [HLB.out] at HFA
        go_wp2_with fail
        refine HFI.out.mono ?_
        rintro e w8 ⟨rfl, hw8⟩
        subst hw8
        go_wp2_with fail
        refine HFA.out.mono ?_
        rintro e w8 ⟨rfl, hw8⟩
        subst hw8
        go_wp2
        refine bodyPost_ret (results_tmp4 rfl _ _ _) rfl ?_
        exact ⟨by rw [HE2.out]; rfl, rfl⟩
      · have k1 : sj < 285 := by omega
        have HJA := hide (xlbase_any j sj (by omega) hsj wr)
        have HJI := hide (xlbits_any j sj (by omega) hsj wr)
        have hle := lfLe j (by omega)
        have k3 : sj + 1 = ((257 + (j + 1) : Nat) : Int) := by omega
        have HK2 : Hid (wrap64 (sj + 1) = ((257 + (j + 1) : Nat) : Int)) := by show _ = _; rw [k3]; exact wrap_small (by omega)
        have HK3 := hide k3
        by_cases hx8 : x < 258
        · obtain ⟨s0, s1, s2⟩ := HST.out j hx8 hji
          have hx8' : (x : Int) < 258 := by omega
          obtain ⟨QB, hQB⟩ : ∃ Q, LB j = Q := ⟨_, rfl⟩
          obtain ⟨QF, hQF⟩ : ∃ Q, LF j = Q := ⟨_, rfl⟩
          rw [hQB] at HJA hle s1 s2
          rw [hQF] at HJI hle s1 s2
          obtain ⟨q, hq⟩ : ∃ q, 2 ^ QF = q := ⟨_, rfl⟩
          obtain ⟨l1, l2, l3⟩ := hle
          have w1 := (wrap_pow (F := QF) (Nat.le_trans l1 (by decide))).1
          rw [hq] at w1 s1 s2 l3
          have HW1 := hide w1
          clear w1 hq
          have HK4 : Hid ((j < i → ¬ (x : Int) < (QB : Int) + (q : Int)) ∧ (¬ j < i → (x : Int) < (QB : Int) + (q : Int))) := ⟨fun h => by have := s1 h; omega, fun h => by have := s2 (by omega); omega⟩
          have hjj : ¬ j < i → j = i := fun h => by omega
          have hmin : min QF 64 = QF := Nat.min_eq_left (Nat.le_trans l1 (by decide))
          have hcv : IntKind.u64.wrap (QF : Int) = (QF : Int) := wrapu_small (Nat.le_trans l1 (by decide))
          have had : wrap64 ((QB : Int) + (q : Int)) = (QB : Int) + (q : Int) := wrap_add (Nat.le_trans (Nat.add_le_add l2 l3) (by decide))
          obtain ⟨G, HG⟩ : ∃ G : Int, Hid ((QB : Int) + (q : Int) = G) := ⟨_, hide rfl⟩
          have hcb : wrap64 ((QB : Int) + wrap64 ((2 : Int) ^ QF)) = G := by rw [HW1.out, had]; exact HG.out
          have hK4 := HK4.out
          rw [HG.out] at hK4
          clear had
          by_cases hlt : j < i
          · have k4 := hK4.1 hlt
            clear hQB hQF hsj k3 s1 s2 l1 l2 l3 hjj hK4
            go_wp2_with fail
            refine HJA.out.mono ?_
            rintro e w8 ⟨rfl, hw8⟩
            subst hw8
            go_wp2_with fail
            refine HJI.out.mono ?_
            rintro e w8 ⟨rfl, hw8⟩
            subst hw8
            go_wp2
            clear hcb hcv hmin k4
            go_roundw
            case rel => exact ⟨j + 1, .inl ⟨rfl, by omega⟩, by rw [HK2.out], by first | rfl | trivial⟩
            case measure => have h1 := HK2.out; have h2 := HSJ.out; rw [h1]; simp [intOf]; omega
          · have k4 := hK4.2 hlt
            obtain rfl : j = i := hjj hlt
            have HE3 : Hid (sj = sy) := HSJ.out.trans HSY.out.symm
            clear hQB hQF hsj k3 s1 s2 l1 l2 l3 hjj hK4
            go_wp2_with fail
            refine HJA.out.mono ?_
            rintro e w8 ⟨rfl, hw8⟩
            subst hw8
            go_wp2_with fail
            refine HJI.out.mono ?_
            rintro e w8 ⟨rfl, hw8⟩
            subst hw8
            go_wp2
            clear hcb hcv hmin k4
            go_roundw
            case rel => exact ⟨j + 1, .inr ⟨by rw [HE3.out], s0, rfl⟩, by rw [HK2.out], by first | rfl | trivial⟩
            case measure => have h1 := HK2.out; have h2 := HSJ.out; rw [h1]; simp [intOf]; omega
        · have hx8' : ¬ (x : Int) < 258 := by omega
          have e8 : i = 28 := HI8.out (by omega)
          obtain ⟨QB, hQB⟩ : ∃ Q, LB j = Q := ⟨_, rfl⟩
          rw [hQB] at HJA
          clear hQB hsj k3 hle
          go_wp2_with fail
          refine HJA.out.mono ?_
          rintro e w8 ⟨rfl, hw8⟩
          subst hw8
          go_wp2
          go_roundw
          case rel => exact ⟨j + 1, .inl ⟨rfl, by omega⟩, by first | rw [HK2.out] | rw [HK3.out], by first | rfl | trivial⟩
          case measure => have h1 := HK2.out; have h2 := HSJ.out; have h3 := HK3.out; (first | rw [h1] | rw [h3]); simp [intOf]; omega
    · have k5 : (sy == 285) = false := by have := HSY.out; simp; omega
      by_cases k1 : sj < 285
      · clear hsj
        have g4 := HG4.out
        have g6 := HG6.out
        have HFI := hide (xlbits_any i sy hi HSY.out wr)
        have HFA := hide (xlbase_any i sy hi HSY.out wr)
        rw [HLF.out] at HFI
        rw [HLB.out] at HFA
        go_wp2_with fail
        refine HFI.out.mono ?_
        rintro e w8 ⟨rfl, hw8⟩
        subst hw8
        go_wp2_with fail
        refine HFA.out.mono ?_
        rintro e w8 ⟨rfl, hw8⟩
        subst hw8
        go_wp2
        refine bodyPost_ret (results_tmp4 rfl _ _ _) rfl ?_
        exact ⟨rfl, rfl⟩
      · clear hsj
        have g4 := HG4.out
        have g6 := HG6.out
        have HFI := hide (xlbits_any i sy hi HSY.out wr)
        have HFA := hide (xlbase_any i sy hi HSY.out wr)
        rw [HLF.out] at HFI
        rw [HLB.out] at HFA
        go_wp2_with fail
        refine HFI.out.mono ?_
        rintro e w8 ⟨rfl, hw8⟩
        subst hw8
        go_wp2_with fail
        refine HFA.out.mono ?_
        rintro e w8 ⟨rfl, hw8⟩
        subst hw8
        go_wp2
        refine bodyPost_ret (results_tmp4 rfl _ _ _) rfl ?_
        exact ⟨rfl, rfl⟩

end Go.Proofs.YtkmefeihkmbngaaDoor

namespace Go.Proofs.YtkmefeihkmbngaaDoor
open Go.RowKit Go.Maps
set_option maxRecDepth 20000
set_option linter.unusedVariables false

structure Cx (w : World) (B g1 g2 : Nat) (l d : List Int) : Prop where
  lit : OI w B (.slice (some ⟨g1, 0, none⟩) 286 286) l
  dist : OI w B (.slice (some ⟨g2, 0, none⟩) 30 30) d
  ll : l.length = 286
  dl : d.length = 30
  ne : g1 ≠ g2
  up : B ≤ g1 ∧ B ≤ g2

theorem Cx.low {w w' : World} {B g1 g2 : Nat} {l d : List Int} (h : Cx w B g1 g2 l d) (hb : Below w.heap.size w w') : Cx w' B g1 g2 l d :=
  ⟨h.lit.move fun k hk => hb.block k (h.lit.lt k hk).2, h.dist.move fun k hk => hb.block k (h.dist.lt k hk).2, h.ll, h.dl, h.ne, h.up⟩

theorem Cx.atl {w : World} {B g1 g2 : Nat} {l d : List Int} (h : Cx w B g1 g2 l d) {i : Nat} (hi : i < 286) : w.cell? ⟨g1, i, none⟩ = some (.int .i64 (l.getD i 0)) ∧ w.frozen? ⟨g1, i, none⟩ = false := by
  have hl : i < l.length := by rw [h.ll]; exact hi
  obtain ⟨g', c', e, ⟨u, hu⟩, hf, _⟩ := h.lit.put hl 0
  simp only [Value.slice.injEq, Option.some.injEq, Addr.mk.injEq] at e
  obtain ⟨⟨rfl, -⟩, -⟩ := e
  exact ⟨h.lit.get rfl hl, hf⟩

theorem Cx.atd {w : World} {B g1 g2 : Nat} {l d : List Int} (h : Cx w B g1 g2 l d) {i : Nat} (hi : i < 30) : w.cell? ⟨g2, i, none⟩ = some (.int .i64 (d.getD i 0)) ∧ w.frozen? ⟨g2, i, none⟩ = false := by
  have hl : i < d.length := by rw [h.dl]; exact hi
  obtain ⟨g', c', e, ⟨u, hu⟩, hf, _⟩ := h.dist.put hl 0
  simp only [Value.slice.injEq, Option.some.injEq, Addr.mk.injEq] at e
  obtain ⟨⟨rfl, -⟩, -⟩ := e
  exact ⟨h.dist.get rfl hl, hf⟩

theorem Cx.putl {w : World} {B g1 g2 : Nat} {l d : List Int} (h : Cx w B g1 g2 l d) {i : Nat} (hi : i < 286) (x : Int) : Cx (w.setCell ⟨g1, i, none⟩ (.int .i64 x)) B g1 g2 (l.set i x) d := by
  have hl : i < l.length := by rw [h.ll]; exact hi
  obtain ⟨g', c', e, _, _, ho⟩ := h.lit.put hl x
  simp only [Value.slice.injEq, Option.some.injEq, Addr.mk.injEq] at e
  obtain ⟨⟨rfl, -⟩, -⟩ := e
  refine ⟨ho, h.dist.move fun k hk => ?_, by simp [h.ll], h.dl, h.ne, h.up⟩
  simp [Value.ownBlock] at hk
  subst hk
  exact setCell_others _ _ _ _ _ (fun e => h.ne e.symm)

theorem Cx.putd {w : World} {B g1 g2 : Nat} {l d : List Int} (h : Cx w B g1 g2 l d) {i : Nat} (hi : i < 30) (x : Int) : Cx (w.setCell ⟨g2, i, none⟩ (.int .i64 x)) B g1 g2 l (d.set i x) := by
  have hl : i < d.length := by rw [h.dl]; exact hi
  obtain ⟨g', c', e, _, _, ho⟩ := h.dist.put hl x
  simp only [Value.slice.injEq, Option.some.injEq, Addr.mk.injEq] at e
  obtain ⟨⟨rfl, -⟩, -⟩ := e
  refine ⟨h.lit.move fun k hk => ?_, ho, h.ll, by simp [h.dl], h.ne, h.up⟩
  simp [Value.ownBlock] at hk
  subst hk
  exact setCell_others _ _ _ _ _ h.ne

noncomputable def ctE (R : List Tk) : Int := if 16777216 < R.length then 1 else if asnd R then 0 else 100
noncomputable def ctL (R : List Tk) : List Int := if ctE R = 0 then (cls (List.replicate 286 0) R).set 256 1 else []
noncomputable def ctD (R : List Tk) : List Int := if ctE R = 0 then cdt (List.replicate 30 0) R else []

def Cta (B : Nat) (R : List Tk) (e : Ending) (w w' : World) : Prop :=
  ∃ vl vd, e = .returned (.tuple #[vl, vd, .int .i64 (ctE R)]) ∧ OI w' B vl (ctL R) ∧ OI w' B vd (ctD R) ∧ (∀ k, vl.ownBlock = some k → vd.ownBlock ≠ some k) ∧ Below B w w'

theorem oi_nil10 (w : World) (B : Nat) : OI w B (.slice none 0 0) [] := ⟨rfl, .inl ⟨rfl, rfl⟩⟩

theorem cta_no {R : List Tk} {B : Nat} {w w' : World} (hE : ctE R ≠ 0) (hb : Below B w w') : Cta B R (.returned (.tuple #[.slice none 0 0, .slice none 0 0, .int .i64 (ctE R)])) w w' := by
  have h1 : ctL R = [] := by unfold ctL; rw [if_neg hE]
  have h2 : ctD R = [] := by unfold ctD; rw [if_neg hE]
  refine ⟨_, _, rfl, by rw [h1]; exact oi_nil10 _ _, by rw [h2]; exact oi_nil10 _ _, fun k hk => by simp [Value.ownBlock] at hk, hb⟩

theorem asnd_all {R : List Tk} (h : asnd R = true) : ∀ t ∈ R, Snd t := by
  intro t ht
  have := List.all_eq_true.1 h t ht
  unfold sndb at this
  exact of_decide_eq_true this

theorem oCount_any (v : Value) (R : List Tk) (w : World) (h : SK w v R) (hb : ∀ t ∈ R, Bt t) (T : Ltab w ∧ Dtab w) : Calls Tryd.prog 15 #[v] w fun e w' => Cta w.heap.size R e w w' := by
  have HS := hide h
  have HT := hide T
  have HBT := hide hb
  obtain ⟨ao, cap, rfl, hlc, hcm⟩ := h.open
  clear h T hb
  have HB0 : Hid (Below w.heap.size w w) := Below.refl _ _
  by_cases hl : 16777216 < R.length
  · have HE : Hid (ctE R = 1) := by show _ = _; unfold ctE; rw [if_pos hl]
    have hl' : (16777216 : Int) < (R.length : Int) := by omega
    have HC := hide (cta_no (w := w) (w' := w) (by rw [HE.out]; decide) HB0.out)
    rw [HE.out] at HC
    go_enter Tryd.func15, Tryd.ntmps15
    go_wp2
    refine bodyPost_ret (results_tmp3 rfl _ _ _) rfl ?_
    exact HC.out
  · have hl' : ¬ (16777216 : Int) < (R.length : Int) := by omega
    have HA := hide (allSound_any _ R w HS.out)
    by_cases ha : asnd R = true
    · have HE : Hid (ctE R = 0) := by show _ = _; unfold ctE; rw [if_neg hl, if_pos ha]
      have HAL := hide (asnd_all ha)
      rw [ha] at HA
      clear ha
      go_enter Tryd.func15, Tryd.ntmps15
      go_wp2_with fail
      refine HA.out.mono ?_
      rintro e w1 ⟨rfl, b1⟩
      have HC := hide (ocount_any _ R w1 (HS.out.below b1) (fun t ht => ⟨HAL.out t ht, HBT.out t ht⟩) (by omega) ⟨HT.out.1.low b1, HT.out.2.low b1⟩)
      have HB1 := hide b1
      clear b1 HA
      go_wp2_with fail
      refine HC.out.mono ?_
      rintro e w2 ⟨g1, g2, rfl, o1, o2, o3, b2⟩
      have HB2 := hide (HB1.out.trans (b2.mono HB1.out.size))
      have HO1 := hide (o1.base HB1.out.size)
      have HO2 := hide (o2.base HB1.out.size)
      have HO3 := hide o3
      obtain ⟨w3, hw3⟩ : ∃ w3, w2.alloc (.cells #[.slice (some ⟨g1, 0, none⟩) 286 286, .slice (some ⟨g2, 0, none⟩) 30 30] 53) = w3 := ⟨_, rfl⟩
      have HB3 : Hid (Below w.heap.size w w3) := by rw [← hw3]; exact HB2.out.alloc HB2.out.size _
      have HN3 : Hid (w3.heap[w2.heap.size]? = some (.cells #[.slice (some ⟨g1, 0, none⟩) 286 286, .slice (some ⟨g2, 0, none⟩) 30 30] 53 (0, 0))) := by rw [← hw3]; exact heap_alloc_new _ _
      have HP1 : Hid (OI w3 w.heap.size (.slice (some ⟨g1, 0, none⟩) 286 286) ((cls (List.replicate 286 0) R).set 256 1)) := by rw [← hw3]; exact HO1.out.alloc _
      have HP2 : Hid (OI w3 w.heap.size (.slice (some ⟨g2, 0, none⟩) 30 30) (cdt (List.replicate 30 0) R)) := by rw [← hw3]; exact HO2.out.alloc _
      have c0 : w3.cell? ⟨w2.heap.size, 0, none⟩ = some (.slice (some ⟨g1, 0, none⟩) 286 286) := by unfold World.cell?; rw [HN3.out]; rfl
      have c1 : w3.cell? ⟨w2.heap.size, 1, none⟩ = some (.slice (some ⟨g2, 0, none⟩) 30 30) := by unfold World.cell?; rw [HN3.out]; rfl
      clear o1 o2 o3 b2 HB1 HO1 HO2 HC
      go_wp2
      go_quiet (fail)
      go_wp2
      refine bodyPost_ret (results_tmp3 rfl _ _ _) rfl ?_
      refine ⟨_, _, by rw [HE.out]; rfl, ?_, ?_, fun k hk e => HO3.out ((show g1 = k by simpa [Value.ownBlock] using hk).trans (show g2 = k by simpa [Value.ownBlock] using e).symm), below_drewN HB3.out _⟩
      · unfold ctL; rw [if_pos HE.out]; exact HP1.out
      · unfold ctD; rw [if_pos HE.out]; exact HP2.out
    · have ha' : asnd R = false := by simpa using ha
      have HE : Hid (ctE R = 100) := by show _ = _; unfold ctE; rw [if_neg hl, if_neg ha]
      rw [ha'] at HA
      have HC := hide (fun w' (hb : Below w.heap.size w w') => cta_no (R := R) (w := w) (w' := w') (by rw [HE.out]; decide) hb)
      rw [HE.out] at HC
      clear ha ha'
      go_enter Tryd.func15, Tryd.ntmps15
      go_wp2_with fail
      refine HA.out.mono ?_
      rintro e w1 ⟨rfl, b1⟩
      have HB1 := hide b1
      clear b1 HA
      go_wp2
      refine bodyPost_ret (results_tmp3 rfl _ _ _) rfl ?_
      exact HC.out _ HB1.out
end Go.Proofs.YtkmefeihkmbngaaDoor

namespace Go.Proofs.YtkmefeihkmbngaaDoor
open Go.RowKit Go.Maps
set_option maxRecDepth 20000
set_option linter.unusedVariables false

theorem bd_one : Bd ((List.replicate 286 (0 : Int)).set 256 1) 1 := fun i => by
  by_cases h : i = 256
  · subst h
    have : ((List.replicate 286 (0 : Int)).set 256 1).getD 256 0 = 1 := by rw [List.getD_eq_getElem?_getD, List.getElem?_set_self (by simp)]; rfl
    rw [this]; omega
  · have : ((List.replicate 286 (0 : Int)).set 256 1).getD i 0 = 0 := by
      rw [List.getD_eq_getElem?_getD, List.getElem?_set_ne (fun e => h e.symm), List.getElem?_replicate]; split <;> rfl
    rw [this]; omega

theorem Cx.start {w : World} {B g1 g2 : Nat} (h3 : w.heap[g1]? = some (.cells (List.replicate 286 (Value.int .i64 0)).toArray 3 (0, 0))) (h4 : w.heap[g2]? = some (.cells (List.replicate 30 (Value.int .i64 0)).toArray 3 (0, 0))) (h5 : g1 ≠ g2) (h6 : B ≤ g1 ∧ B ≤ g2) : Cx w B g1 g2 (List.replicate 286 0) (List.replicate 30 0) :=
  ⟨⟨by simp, .inr ⟨g1, 286, _, rfl, h6.1, h3, by simp, by unfold maxLen; omega, by simp, by simp⟩⟩, ⟨by simp, .inr ⟨g2, 30, _, rfl, h6.2, h4, by simp, by unfold maxLen; omega, by simp, by simp⟩⟩, by simp, by simp, h5, h6⟩

set_option maxHeartbeats 1000000 in
theorem xCount_any (v : Value) (R : List Tk) (w : World) (h : SK w v R) (hb : ∀ t ∈ R, Bt t) : Calls Tryd.prog 34 #[v] w fun e w' => Cta w.heap.size R e w w' := by
  have HS := hide h
  have HBT := hide hb
  obtain ⟨ao, cap, rfl, hlc, hcm⟩ := h.open
  clear h hb
  have HB0 : Hid (Below w.heap.size w w) := Below.refl _ _
  by_cases hl : 16777216 < R.length
  · have HE : Hid (ctE R = 1) := by show _ = _; unfold ctE; rw [if_pos hl]
    have hl' : (16777216 : Int) < (R.length : Int) := by omega
    have HC := hide (cta_no (w := w) (w' := w) (by rw [HE.out]; decide) HB0.out)
    rw [HE.out] at HC
    go_enter Tryd.func34, Tryd.ntmps34
    go_wp2
    refine bodyPost_ret (results_tmp3 rfl _ _ _) rfl ?_
    exact HC.out
  have hl' : ¬ (16777216 : Int) < (R.length : Int) := by omega
  have HA := hide (ksound_any _ R w HS.out)
  by_cases ha : ¬ asnd R = true
  · have ha' : asnd R = false := by simpa using ha
    have HE : Hid (ctE R = 100) := by show _ = _; unfold ctE; rw [if_neg hl, if_neg ha]
    rw [ha'] at HA
    have HC := hide (fun w' (hb : Below w.heap.size w w') => cta_no (R := R) (w := w) (w' := w') (by rw [HE.out]; decide) hb)
    rw [HE.out] at HC
    clear ha ha'
    go_enter Tryd.func34, Tryd.ntmps34
    go_wp2_with fail
    refine HA.out.mono ?_
    rintro e w1 ⟨rfl, b1⟩
    have HB1 := hide b1
    clear b1 HA
    go_wp2
    refine bodyPost_ret (results_tmp3 rfl _ _ _) rfl ?_
    exact HC.out _ HB1.out
  have ha1 : asnd R = true := Decidable.byContradiction ha
  have HE : Hid (ctE R = 0) := by show _ = _; unfold ctE; rw [if_neg hl, if_pos ha1]
  have HSN : Hid (∀ t ∈ R, Snd t ∧ Bt t) := fun t ht => ⟨asnd_all ha1 t ht, HBT.out t ht⟩
  rw [ha1] at HA
  have hn : R.length ≤ 16777216 := by omega
  have hmx : R.length ≤ 9223372036854775807 := by omega
  have m1 : ∀ w : World, (Instr.makeSlice 23 (.int .i64 286) (.int .i64 286)).run Tryd.prog w = .ok (.slice (some ⟨w.heap.size, 0, none⟩) 286 286) (w.alloc (.cells (List.replicate 286 (Value.int .i64 0)).toArray 3)) := fun w => mk_ints 286 (by omega) w
  have m2 : ∀ w : World, (Instr.makeSlice 23 (.int .i64 30) (.int .i64 30)).run Tryd.prog w = .ok (.slice (some ⟨w.heap.size, 0, none⟩) 30 30) (w.alloc (.cells (List.replicate 30 (Value.int .i64 0)).toArray 3)) := fun w => mk_ints 30 (by omega) w
  obtain ⟨Z1, HZ1⟩ : ∃ Z, Hid ((List.replicate 286 (Value.int .i64 0)).toArray = Z) := ⟨_, rfl⟩
  obtain ⟨Z2, HZ2⟩ : ∃ Z, Hid ((List.replicate 30 (Value.int .i64 0)).toArray = Z) := ⟨_, rfl⟩
  rw [HZ1.out] at m1
  rw [HZ2.out] at m2
  clear ha ha1 HBT
  go_enter Tryd.func34, Tryd.ntmps34
  go_wp2_with fail
  refine HA.out.mono ?_
  rintro e w1 ⟨rfl, b1⟩
  have s1 : (w1.alloc (.cells Z1 3)).heap.size = w1.heap.size + 1 := by simp
  obtain ⟨w2, hw2⟩ : ∃ w2, (w1.alloc (.cells Z1 3)).alloc (.cells Z2 3) = w2 := ⟨_, rfl⟩
  have HB2' : Hid (Below w.heap.size w w2) := by
    rw [← hw2]
    have h1 := b1.alloc b1.size (.cells Z1 3)
    exact h1.alloc h1.size _
  have HC1 : Hid (Cx w2 w.heap.size w1.heap.size (w1.heap.size + 1) (List.replicate 286 0) (List.replicate 30 0)) := by
    refine Cx.start ?_ ?_ (by omega) ⟨b1.size, by have := b1.size; omega⟩
    · rw [HZ1.out, ← hw2, alloc_at, if_neg (by omega), alloc_at, if_pos rfl]
    · rw [HZ2.out, ← hw2, alloc_at, if_pos s1.symm]
  obtain ⟨g1, hg1⟩ : ∃ g1, w1.heap.size = g1 := ⟨_, rfl⟩
  obtain ⟨g2, hg2⟩ : ∃ g2, g1 + 1 = g2 := ⟨_, rfl⟩
  rw [hg1, hg2] at HC1
  have HC2 := hide (HC1.out.putl (i := 256) (by omega) 1)
  have HB2 : Hid (Below w.heap.size w (w2.setCell ⟨g1, 256, none⟩ (.int .i64 1))) := HB2'.out.setCell (p := ⟨g1, 256, none⟩) HC1.out.up.1 _
  obtain ⟨u0, u1⟩ := HC1.out.atl (i := 256) (by omega)
  obtain ⟨ZL, hZL⟩ : ∃ ZL, (List.replicate 286 (0 : Int)).set 256 1 = ZL := ⟨_, rfl⟩
  have HZB : Hid (Bd ZL 1) := by rw [← hZL]; exact bd_one
  have HEN : Hid (cls ZL R = (cls (List.replicate 286 0) R).set 256 1) := by rw [← hZL]; exact cls_end R _ HSN.out
  rw [hZL] at HC2
  clear hZL HA b1 HC1 HB2' HZ1 HZ2
  go_wp2
  clear m1 m2
  go_loopw [8] (fun t wr => ∃ k : Nat, k ≤ R.length ∧ t = .int .i64 (k : Int) ∧ Hid (Cx wr w.heap.size g1 g2 (cls ZL (R.take k)) (cdt (List.replicate 30 0) (R.take k))) ∧ Hid (Below w.heap.size w wr)) (fun t _ => R.length - (intOf t).toNat)
  case atStart => exact ⟨0, Nat.zero_le _, rfl, HC2, HB2⟩
  case round =>
    obtain ⟨k, hk, rfl, HC, HB⟩ := hrel
    clear HC2 HB2
    by_cases hlt : k < R.length
    · have hlt' : (k : Int) < (R.length : Int) := by omega
      obtain ⟨b, o, rfl, c0, c1, c2⟩ := HS.out.get HB.out hlt
      have hsn : Snd (R.getD k tk0) ∧ Bt (R.getD k tk0) := HSN.out _ (by rw [List.getD_eq_getElem?_getD, List.getElem?_eq_getElem hlt]; exact List.getElem_mem hlt)
      have HLI := hide (litS_in hsn.1 hsn.2)
      have HDI := hide (dsy_in hsn.1)
      have HSP := hide (fun h => lsy_spec (x := (R.getD k tk0).1.toNat) h)
      have HDP := hide (fun h => dsy_spec (x := (R.getD k tk0).2.1.toNat) h)
      have HNL : Hid (cls (ZL) (R.take (k + 1)) = inc (cls (ZL) (R.take k)) (litS (R.getD k tk0))) := by show _ = _; rw [snd_take hlt, cls_snoc]; rfl
      have HND : Hid (cdt (List.replicate 30 0) (R.take (k + 1)) = cd (cdt (List.replicate 30 0) (R.take k)) (R.getD k tk0)) := by show _ = _; rw [snd_take hlt, cdt_snoc]
      have HBL := hide (bd_cls (R.take k) ZL 1 HZB.out)
      have HBD := hide (bd_cdt (R.take k) _ 0 (bd_zeros 30))
      rw [List.length_take, Nat.min_eq_left (Nat.le_of_lt hlt)] at HBL HBD
      rw [Nat.zero_add] at HBD
      obtain ⟨L, hL⟩ : ∃ L, cls (ZL) (R.take k) = L := ⟨_, rfl⟩
      obtain ⟨D, hD⟩ : ∃ D, cdt (List.replicate 30 0) (R.take k) = D := ⟨_, rfl⟩
      rw [hL] at HNL HC HBL
      rw [hD] at HND HC HBD
      obtain ⟨⟨t1, t2, t3⟩, ht⟩ : ∃ t, R.getD k tk0 = t := ⟨_, rfl⟩
      rw [ht] at c0 c1 c2 hsn HLI HDI HSP HDP HNL HND
      simp only at c0 c1 c2
      obtain ⟨w6, hw6⟩ : ∃ w6, wr.alloc (.cells #[.int .i64 t1, .int .i64 t2, .int .u8 t3] 48) = w6 := ⟨_, rfl⟩
      have HB6 : Hid (Below wr.heap.size wr w6) := by rw [← hw6]; exact (Below.refl _ _).alloc (Nat.le_refl _) _
      have HN6 : Hid (w6.heap[wr.heap.size]? = some (.cells #[.int .i64 t1, .int .i64 t2, .int .u8 t3] 48 (0, 0))) := by rw [← hw6]; exact heap_alloc_new wr _
      have hx6 : wr.heap.size < w6.heap.size := by rw [← hw6]; simp
      have HC6 := hide (HC.out.low HB6.out)
      have HBW6 := hide (HB.out.trans (HB6.out.mono HB.out.size))
      clear ht hL hD HC HB HB6
      obtain ⟨q, hq⟩ : ∃ q, wr.heap.size = q := ⟨_, rfl⟩
      rw [hq] at HN6 hx6
      by_cases h0 : t1 = 0
      · have b0 : 0 ≤ t3 := hsn.2.1
        have b1 : t3 < 256 := hsn.2.2
        obtain ⟨n3, rfl⟩ := Int.eq_ofNat_of_zero_le b0
        have e1 : litS (t1, t2, (n3 : Int)) = n3 := by unfold litS; rw [if_pos h0]; simp
        have e2 : cd D (t1, t2, (n3 : Int)) = D := by unfold cd; rw [if_pos h0]
        rw [e1] at HNL HLI
        rw [e2] at HND
        have hi3 : n3 < 286 := by omega
        have y0 : w6.cell? ⟨q, 0, none⟩ = some (.int .i64 t1) := by unfold World.cell?; rw [HN6.out]; rfl
        have y2 : w6.cell? ⟨q, 2, none⟩ = some (.int .u8 (n3 : Int)) := by unfold World.cell?; rw [HN6.out]; rfl
        rw [h0] at y0
        obtain ⟨x0, x1⟩ := HC6.out.atl hi3
        have hbl := HBL.out n3
        have HP := hide (HC6.out.putl hi3 (L.getD n3 0 + 1))
        have HBP : Hid (Below w.heap.size w (w6.setCell ⟨g1, n3, none⟩ (.int .i64 (L.getD n3 0 + 1)))) := HBW6.out.setCell (p := ⟨g1, n3, none⟩) HC6.out.up.1 _
        obtain ⟨x, hx⟩ : ∃ x, L.getD n3 0 = x := ⟨_, rfl⟩
        have e3 : inc L n3 = L.set n3 (x + 1) := by unfold inc; rw [hx]
        rw [e3] at HNL
        rw [hx] at x0 hbl HP HBP
        have hwr : wrap64 (x + 1) = x + 1 := by unfold wrap64; omega
        have n3' : (n3 : Int) < 286 := by omega
        have hcv : IntKind.i64.wrap (n3 : Int) = (n3 : Int) := by rw [IntKind.wrap_i64]; omega
        clear hsn HDI HSP HDP HLI HBL HBD hx e1 e2 e3 HN6 HC6 HBW6 h0
        go_wp2
        go_region
        go_wp2
        go_roundw
        case rel => exact ⟨k + 1, by omega, by go_num, by rw [HNL.out, HND.out]; exact hide (HP.out.low (below_drewN (Below.refl _ _) 1)), hide (below_drewN HBP.out 1)⟩
        case measure => simp [intOf]; omega
      · have hq3 : 3 ≤ t1 ∧ t1 ≤ 258 ∧ 1 ≤ t2 ∧ t2 ≤ 32768 ∧ t3 = 0 := by
          have := hsn.1
          unfold Snd at this
          rw [if_neg h0] at this
          exact this
        obtain ⟨b1, b2, b3, b4, b5⟩ := hq3
        obtain ⟨x1, rfl⟩ := Int.eq_ofNat_of_zero_le (show 0 ≤ t1 by omega)
        obtain ⟨x2, rfl⟩ := Int.eq_ofNat_of_zero_le (show 0 ≤ t2 by omega)
        have e1 : litS ((x1 : Int), (x2 : Int), t3) = 257 + lsy x1 := by unfold litS; rw [if_neg h0]; simp
        have e2 : cd D ((x1 : Int), (x2 : Int), t3) = inc D (dsy x2) := by unfold cd; rw [if_neg h0]; simp
        have e4 : dsy x2 < 30 := by have := HDI.out h0; simpa using this
        have hls : Lsy x1 (lsy x1) := by have := HSP.out (by simp; omega); simpa using this
        have hds : Dsy x2 (dsy x2) := by have := HDP.out (by simp; omega); simpa using this
        have hi1 : 257 + lsy x1 < 286 := by have := HLI.out.1; rw [e1] at this; exact this
        rw [e1] at HNL
        rw [e2] at HND
        have HLS := hide (xlsymbol_any x1 (lsy x1) w6 hls (by omega) (by omega))
        have HDS := hide (fun w7 (hb : Below w6.heap.size w6 w7) => xdsymbol_any x2 (dsy x2) w7 hds (by omega) (by omega))
        obtain ⟨A, hA⟩ : ∃ A, 257 + lsy x1 = A := ⟨_, rfl⟩
        obtain ⟨F1, hF1⟩ : ∃ A, LF (lsy x1) = A := ⟨_, rfl⟩
        obtain ⟨F2, hF2⟩ : ∃ A, x1 - LB (lsy x1) = A := ⟨_, rfl⟩
        obtain ⟨F3, hF3⟩ : ∃ A, DF (dsy x2) = A := ⟨_, rfl⟩
        obtain ⟨F4, hF4⟩ : ∃ A, x2 - DB (dsy x2) = A := ⟨_, rfl⟩
        obtain ⟨B, hB⟩ : ∃ A, dsy x2 = A := ⟨_, rfl⟩
        rw [hA, hF1, hF2] at HLS
        rw [hA] at HNL hi1
        rw [hF3, hF4, hB] at HDS
        rw [hB] at HND e4
        have y0 : w6.cell? ⟨q, 0, none⟩ = some (.int .i64 (x1 : Int)) := by unfold World.cell?; rw [HN6.out]; rfl
        have y1 : w6.cell? ⟨q, 1, none⟩ = some (.int .i64 (x2 : Int)) := by unfold World.cell?; rw [HN6.out]; rfl
        have z0 : ((x1 : Int) == 0) = false := by simp; omega
        clear hsn HDI HSP HDP HLI e1 e2 hls hds hA hF1 hF2 hF3 hF4 hB h0 b1 b2 b3 b4 b5
        go_wp2_with fail
        refine HLS.out.mono ?_
        rintro e w7 ⟨rfl, hb7⟩
        have b7 : Below w6.heap.size w6 w7 := by rw [hb7]; exact Below.refl _ _
        clear hb7
        have HDS7 := hide (HDS.out w7 b7)
        have HC7 := hide (HC6.out.low b7)
        have HBW7 := hide (HBW6.out.trans (b7.mono HBW6.out.size))
        have z1 : w7.cell? ⟨q, 1, none⟩ = some (.int .i64 (x2 : Int)) := (b7.cell (by exact hx6)).trans y1
        clear HDS HLS HC6 HBW6 y0 y1 b7 HN6 hx6
        go_wp2_with fail
        refine HDS7.out.mono ?_
        rintro e w8 ⟨rfl, hb8⟩
        have b8 : Below w7.heap.size w7 w8 := by rw [hb8]; exact Below.refl _ _
        clear hb8
        have HC8 := hide (HC7.out.low b8)
        have HBW8 := hide (HBW7.out.trans (b8.mono HBW7.out.size))
        clear HDS7 HC7 HBW7 z1 b8
        have hbl := HBL.out A
        have hbd := HBD.out B
        have HC9 := hide (HC8.out.putl hi1 (L.getD A 0 + 1))
        have HC10 := hide (HC9.out.putd e4 (D.getD B 0 + 1))
        have HB10 : Hid (Below w.heap.size w ((w8.setCell ⟨g1, A, none⟩ (.int .i64 (L.getD A 0 + 1))).setCell ⟨g2, B, none⟩ (.int .i64 (D.getD B 0 + 1)))) := (HBW8.out.setCell (p := ⟨g1, A, none⟩) HC8.out.up.1 _).setCell (p := ⟨g2, B, none⟩) HC8.out.up.2 _
        obtain ⟨u0, u1⟩ := HC8.out.atl hi1
        obtain ⟨u3, u4⟩ := HC9.out.atd e4
        obtain ⟨x, hx⟩ : ∃ x, L.getD A 0 = x := ⟨_, rfl⟩
        obtain ⟨y, hy⟩ : ∃ x, D.getD B 0 = x := ⟨_, rfl⟩
        have e3 : inc L A = L.set A (x + 1) := by unfold inc; rw [hx]
        have e5 : inc D B = D.set B (y + 1) := by unfold inc; rw [hy]
        rw [e3] at HNL
        rw [e5] at HND
        rw [hx] at u0 hbl HC10 HB10 u3 u4
        rw [hy] at u3 hbd HC10 HB10
        have hw1 : wrap64 (x + 1) = x + 1 := by unfold wrap64; omega
        have hw2 : wrap64 (y + 1) = y + 1 := by unfold wrap64; omega
        have A' : (A : Int) < 286 := by omega
        have B' : (B : Int) < 30 := by omega
        clear hx hy HC8 HC9 HBW8 HBL HBD e3 e5
        go_wp2
        go_roundw
        case rel => exact ⟨k + 1, by omega, by go_num, by rw [HNL.out, HND.out]; exact HC10, HB10⟩
        case measure => simp [intOf]; omega
    · obtain rfl : k = R.length := by omega
      have hlt' : ¬ (R.length : Int) < (R.length : Int) := by omega
      rw [List.take_of_length_le (Nat.le_refl _), HEN.out] at HC
      go_wp2
      refine bodyPost_ret (results_tmp3 rfl _ _ _) rfl ?_
      refine ⟨_, _, by rw [HE.out]; rfl, ?_, ?_, fun k hk e => HC.out.ne ((show g1 = k by simpa [Value.ownBlock] using hk).trans (show g2 = k by simpa [Value.ownBlock] using e).symm), HB.out⟩
      · unfold ctL; rw [if_pos HE.out]; exact HC.out.lit
      · unfold ctD; rw [if_pos HE.out]; exact HC.out.dist
end Go.Proofs.YtkmefeihkmbngaaDoor

namespace Go.Proofs.YtkmefeihkmbngaaDoor
open Go.RowKit Go.Maps
set_option maxRecDepth 20000
set_option linter.unusedVariables false

theorem sk_cells {w : World} {x : Addr} {R : List Tk} (h : ∀ i, i < R.length → w.cell? (x.add (i * 3)) = some (.int .i64 (R.getD i tk0).1) ∧ w.cell? (x.add (i * 3 + 1)) = some (.int .i64 (R.getD i tk0).2.1) ∧ w.cell? (x.add (i * 3 + 2)) = some (.int .u8 (R.getD i tk0).2.2)) :
    ∀ j v, (fr3 R)[j]? = some v → w.cell? (x.add j) = some v := by
  intro j v hj
  have hl : j < (fr3 R).length := (List.getElem?_eq_some_iff.1 hj).1
  rw [fr3_len] at hl
  have hi : j / 3 < R.length := by omega
  obtain ⟨g0, g1, g2⟩ := fr3_get hi
  obtain ⟨h0, h1, h2⟩ := h (j / 3) hi
  have e : j = j / 3 * 3 ∨ j = j / 3 * 3 + 1 ∨ j = j / 3 * 3 + 2 := by omega
  rcases e with e | e | e
  · rw [e] at hj ⊢; rw [g0] at hj; rw [← hj]; exact h0
  · rw [e] at hj ⊢; rw [g1] at hj; rw [← hj]; exact h1
  · rw [e] at hj ⊢; rw [g2] at hj; rw [← hj]; exact h2

theorem run_copy_toks {P : Program} (w : World) (dT sT ty elem : TypeId) (g dCap n : Nat) (a : Addr) (sCap : Nat) (cur : Array Value) (t : TypeId) (cs : List Value)
    (hu : P.underlying dT = some (.slice elem)) (hs : (P.info? elem).map (·.size) = some 3) (hg : w.heap[g]? = some (.cells cur t (0, 0))) (hn : cs.length = n * 3)
    (hsrc : ∀ j v, cs[j]? = some v → w.cell? (a.add j) = some v) (hfit : cs.length ≤ cur.size) (h1 : ∀ v ∈ cs, v.oneCell' = true) :
    (Builtin.copy_ #[dT, sT] ty #[.slice (some ⟨g, 0, none⟩) n dCap, .slice (some a) n sCap]).run P w = .ok (goInt n) (w.setRow g (cs ++ cur.toList.drop cs.length).toArray) := by
  have hl := run_loadCells_list (P := P) w a cs hsrc
  have hst := run_storeCells_at P g 0 t cs 0 cur w hg (by simpa using hfit) h1
  have hm : Nat.min n n = n := Nat.min_self n
  rw [hn] at hl
  cases hq : P.info? elem with
  | none => simp [hq] at hs
  | some i =>
    have hi : i.size = 3 := by simpa [hq] using hs
    simp [Builtin.copy_, run_underlying hu, Builtin.lenOf, Builtin.firstCells, sizeOf, typeInfo, hq, hi, hm, hl]
    simp at hst
    rw [hst]
    simp

theorem wpList_copyK {w : World} {ops : Array Oper} {rest : List Oper} {o : Oper} {a : Act} {Q : Exit → Act → World → Prop} (hgd : o.guard = none) (d s : Operand)
    (ho : o.op = .call { callee := .builtin .copy, args := #[d, s], argTypes := #[22, 22] }) (g n dCap : Nat) (v : Value) (l : List Tk) (hd : a.eval d = .slice (some ⟨g, 0, none⟩) l.length dCap) (hs : a.eval s = v) (hsp : SK w v l)
    (cur : Array Value) (hg : w.heap[g]? = some (.cells cur 48 (0, 0))) (hc : cur.size = l.length * 3) (hn : n = l.length)
    (h : ∀ w', w'.heap[g]? = some (.cells (fr3 l).toArray 48 (0, 0)) → (∀ k, k ≠ g → w'.heap[k]? = w.heap[k]?) → w'.heap.size = w.heap.size → w'.os = w.os → w'.tape = w.tape → w'.output = w.output → wpList Tryd.prog ops Q rest (a.put o.dst (goInt n)) w') :
    wpList Tryd.prog ops Q (o :: rest) a w := by
  subst hn
  have hsz : (Tryd.prog.info? 48).map (·.size) = some 3 := by kernel_rfl
  refine wpList_plain hgd fun K hK => ?_
  obtain ⟨ao, cap, rfl, h1, h2, h3, h4⟩ := hsp
  unfold Oper.wp
  cases ao with
  | none =>
    have h0 := h3 rfl
    obtain rfl : l = [] := List.eq_nil_of_length_eq_zero (by omega)
    subst h0
    have hr : (Builtin.copy_ #[22, 22] o.type #[.slice (some ⟨g, 0, none⟩) 0 dCap, .slice none 0 0]).run Tryd.prog w = .ok (goInt 0) w := run_copy_nil (P := Tryd.prog) w 22 22 o.type 48 ⟨g, 0, none⟩ 0 dCap Tryd.underlying22 (by rw [hsz]; rfl)
    simp [execOp, ho, resolve, invoke, builtin, hd, hs, hr, Result.andThen]
    refine hK _ _ (h w ?_ (fun _ _ => rfl) rfl rfl rfl rfl)
    rw [hg]
    have : cur = #[] := Array.eq_empty_of_size_eq_zero (by simpa using hc)
    rw [this]; rfl
  | some x =>
    have hr := run_copy_toks (P := Tryd.prog) w 22 22 o.type 48 g dCap l.length x cap cur 48 (fr3 l) Tryd.underlying22 hsz hg (fr3_len l) (sk_cells (h4 x rfl)) (by rw [fr3_len, hc]; exact Nat.le_refl _) (fr3_one l)
    simp [execOp, ho, resolve, invoke, builtin, hd, hs, hr, Result.andThen]
    refine hK _ _ (h _ ?_ (fun k hk => setRow_other w g k _ hk) (by simp [World.setRow]) rfl rfl rfl)
    rw [setRow_heap w g cur _ 48 _ hg]
    have : cur.toList.drop (fr3 l).length = [] := List.drop_eq_nil_of_le (by rw [fr3_len]; simp [hc])
    rw [this, List.append_nil]

theorem wpList_mkK {w : World} {ops : Array Oper} {rest : List Oper} {o : Oper} {a : Act} {Q : Exit → Act → World → Prop} (hg : o.guard = none) (l c : Operand) (hop : o.op = Op.makeSlice 22 l c)
    (kl kc : IntKind) (n : Nat) (hl : a.eval l = .int kl n) (hc : a.eval c = .int kc n) (b2 : n ≤ 5864062014805)
    (hK : ∀ w' cur, w'.heap[w.heap.size]? = some (.cells cur 48 (0, 0)) → cur.size = n * 3 → Below w.heap.size w w' → wpList Tryd.prog ops Q rest (a.put o.dst (.slice (some ⟨w.heap.size, 0, none⟩) n n)) w') :
    wpList Tryd.prog ops Q (o :: rest) a w := by
  obtain ⟨i0, hi, hz0, hz1, hz2⟩ := info_parts infoTok
  refine wpList_plain hg fun K hK' => ?_
  have hr := run_make (P := Tryd.prog) w 22 48 i0 _ Tryd.underlying22 hi hz0 kl kc (n : Int) (n : Int) (by omega) (by omega) (by rw [hz2]; omega) (by omega)
  unfold Oper.wp
  simp [execOp, hop, hl, hc, hr, Result.andThen]
  refine hK' _ _ (hK _ _ (heap_alloc_new _ _) ?_ ((Below.refl _ _).alloc (Nat.le_refl _) _))
  rw [hz1]
  simp [madeCells]

theorem list_any (v : Value) (R : List Tk) (w : World) (h : SK w v R) (hn : R.length ≤ 5864062014805) :
    Calls Tryd.prog 5 #[v] w fun e w' => ∃ u, e = .returned u ∧ OK w' w.heap.size u R ∧ Below w.heap.size w w' := by
  have HV := hide h
  obtain ⟨a2, c2, rfl, _, _⟩ := h.open
  clear h
  go_enter Tryd.func5, Tryd.ntmps5
  go_wp2_with (at_make; refine wpList_mkK rfl _ _ rfl _ _ R.length rfl rfl (by omega) ?_)
  intro w1 cur hg1 hc1 hb1
  have hV1 := HV.out.below hb1
  go_wp2_with (refine wpList_copyK rfl _ _ rfl w.heap.size R.length R.length (.slice a2 R.length c2) R rfl rfl hV1 cur hg1 hc1 rfl ?_)
  intro w2 hg2 ho2 hs2 q1 q2 q3
  have HB2 : Hid (Below w.heap.size w w2) := ⟨q1.trans hb1.os, q2.trans hb1.tape, q3.trans hb1.output, by rw [hs2]; exact hb1.size, fun k hk => (ho2 k (by omega)).trans (hb1.block k hk)⟩
  have HGV : Hid (OK w2 w.heap.size (.slice (some ⟨w.heap.size, 0, none⟩) R.length R.length) R) :=
    ⟨fr3_len R, .inr ⟨w.heap.size, R.length, _, rfl, Nat.le_refl _, hg2, Nat.le_refl _, by unfold maxLen; omega, by simp [fr3_len], List.take_of_length_le (by simp [fr3_len])⟩⟩
  clear hg1 hc1 hb1 hV1 hg2 ho2 hs2 q1 q2 q3
  go_wp2
  go_ret
  exact ⟨_, rfl, HGV.out, HB2.out⟩
end Go.Proofs.YtkmefeihkmbngaaDoor

