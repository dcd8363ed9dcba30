import Derived.Test.YtdpfjfkknimlfaaDoorGSti
namespace Go.Proofs.YtdpfjfkknimlfaaDoor
open Go.RowKit Go.Maps
set_option maxRecDepth 20000
set_option linter.unusedVariables false
set_option linter.unusedSimpArgs false

/-- Numbers that lie in a stretch. -/
def Few (f : Nat → Int) : Prop := ∀ i, 0 ≤ f i ∧ f i ≤ 5000000000

/-- Two stretches' boxes and the answer's. -/
structure Jbx (w : World) (f g : Nat → Int) (wr : World) : Prop where
  one : wr.heap[w.heap.size]? = some (.cells (a10 f) 40 (0, 0))
  two : wr.heap[w.heap.size + 1]? = some (.cells (a10 g) 40 (0, 0))
  res : wr.heap[w.heap.size + 1 + 1]? = some (.cells (a10 fun _ => 0) 40 (0, 0))
  bel : Below w.heap.size w wr

theorem jbx_start (w : World) (f g : Nat → Int) (o : Obj) (ho : o = .cells (a10 fun _ => 0) 40 (0, 0)) : Jbx w f g (((w.alloc (.cells (a10 f) 40 (0, 0))).alloc (.cells (a10 g) 40 (0, 0))).alloc o) := by
  subst ho
  have h1 := heap_two (w.alloc (.cells (a10 f) 40 (0, 0))) (.cells (a10 g) 40 (0, 0)) (.cells (a10 fun _ => 0) 40 (0, 0))
  have h2 := (heap_two w (.cells (a10 f) 40 (0, 0)) (.cells (a10 g) 40 (0, 0))).2
  have e : (w.alloc (.cells (a10 f) 40 (0, 0))).heap.size = w.heap.size + 1 := by simp
  rw [e] at h1
  refine ⟨?_, h1.2, h1.1, (((Below.refl _ _).alloc (Nat.le_refl _) _).alloc (by simp) _).alloc (by simp; omega) _⟩
  rw [heap_alloc_old _ _ (by simp; omega)]
  exact h2

theorem Jbx.set {w wr : World} {f g : Nat → Int} (h : Jbx w f g wr) {n : Nat} (hn : n < 10) (x : Int) : Jbx w (upf f n x) g (wr.setCell ⟨w.heap.size, n, none⟩ (.int .i64 x)) := by
  refine ⟨?_, (setCell_others wr _ n _ _ (by omega)).trans h.two, (setCell_others wr _ n _ _ (by omega)).trans h.res, h.bel.setCell (by show _ ≤ w.heap.size; omega) _⟩
  rw [heap_setCell_same _ _ _ _ _ _ h.one, a10_set f x hn]

theorem Jbx.at1 {w wr : World} {f g : Nat → Int} (h : Jbx w f g wr) {n : Nat} (hn : n < 10) : wr.cell? ⟨w.heap.size, n, none⟩ = some (.int .i64 (f n)) ∧ wr.frozen? ⟨w.heap.size, n, none⟩ = false := by
  refine ⟨?_, frozen_of_row _ _ _ _ _ h.one⟩
  rw [cell_of_row _ _ _ _ _ _ h.one, a10_get f hn]

theorem Jbx.at2 {w wr : World} {f g : Nat → Int} (h : Jbx w f g wr) {n : Nat} (hn : n < 10) : wr.cell? ⟨w.heap.size + 1, n, none⟩ = some (.int .i64 (g n)) := by
  rw [cell_of_row _ _ _ _ _ _ h.two, a10_get g hn]

theorem Jbx.eq {w wr : World} {f f' g : Nat → Int} (h : Jbx w f g wr) (he : a10 f = a10 f') : Jbx w f' g wr := ⟨by rw [← he]; exact h.one, h.two, h.res, h.bel⟩

theorem Jbx.done {w wr : World} {f g : Nat → Int} (h : Jbx w f g wr) : (wr.setRow (w.heap.size + 1 + 1) (a10 f)).heap[w.heap.size + 1 + 1]? = some (.cells (a10 f) 40 (0, 0)) ∧ Below w.heap.size w (wr.setRow (w.heap.size + 1 + 1) (a10 f)) := by
  refine ⟨setRow_heap wr _ _ _ _ _ h.res, ?_⟩
  exact ⟨h.bel.os, h.bel.tape, h.bel.output, by rw [size_setRow]; exact h.bel.size, fun k hk => (setRow_other wr _ _ _ (by omega)).trans (h.bel.block k hk)⟩

def jn (f g : Nat → Int) (k : Nat) : Nat → Int := fun i => if i < 2 + k then f i + g i else f i

theorem jn_zero (f g : Nat → Int) : a10 (upf (upf f 0 (f 0 + g 0)) 1 (f 1 + g 1)) = a10 (jn f g 0) := by
  refine a10_congr fun i hi => ?_
  unfold upf jn
  by_cases h1 : i = 1
  · subst h1; simp
  · by_cases h0 : i = 0
    · subst h0; simp
    · rw [if_neg h1, if_neg h0, if_neg (by omega)]

theorem jn_step (f g : Nat → Int) (k : Nat) : a10 (upf (jn f g k) (2 + k) (f (2 + k) + g (2 + k))) = a10 (jn f g (k + 1)) := by
  refine a10_congr fun i hi => ?_
  unfold upf jn
  by_cases h1 : i = 2 + k
  · subst h1; rw [if_pos rfl, if_pos (by omega)]
  · rw [if_neg h1]
    by_cases h : i < 2 + k
    · rw [if_pos h, if_pos (by omega)]
    · rw [if_neg h, if_neg (by omega)]

theorem jn_all (f g : Nat → Int) : a10 (jn f g 8) = a10 fun i => f i + g i := a10_congr fun i hi => by unfold jn; rw [if_pos (by omega)]

set_option maxHeartbeats 1000000 in
theorem join_any (f g : Nat → Int) (w : World) (hf : Few f) (hg : Few g) :
    Calls Tryd.prog 18 #[.agg (a10 f), .agg (a10 g)] w fun e w' => e = .returned (.agg (a10 fun i => f i + g i)) ∧ Below w.heap.size w w' := by
  have HF := hide hf
  have HG := hide hg
  obtain ⟨w3, hw3⟩ : ∃ w3, ((w.alloc (.cells (a10 f) 40)).alloc (.cells (a10 g) 40)).alloc (.cells (a10 fun _ => 0) 40) = w3 := ⟨_, rfl⟩
  have HJ3 : Hid (Jbx w f g w3) := by rw [← hw3]; exact jbx_start w f g _ rfl
  obtain ⟨x0, x1⟩ := HJ3.out.at1 (n := 0) (by omega)
  have y0 := HJ3.out.at2 (n := 0) (by omega)
  have b0 := hf 0
  have b1 := hg 0
  have b2 := hf 1
  have b3 := hg 1
  have HJ4 := hide (HJ3.out.set (n := 0) (by omega) (f 0 + g 0))
  obtain ⟨w4, hw4⟩ : ∃ w4, w3.setCell ⟨w.heap.size, 0, none⟩ (.int .i64 (f 0 + g 0)) = w4 := ⟨_, rfl⟩
  rw [hw4] at HJ4
  obtain ⟨x2, x3⟩ := HJ4.out.at1 (n := 1) (by omega)
  have y1 := HJ4.out.at2 (n := 1) (by omega)
  have e1 : upf f 0 (f 0 + g 0) 1 = f 1 := rfl
  rw [e1] at x2
  have HJ5 := hide ((HJ4.out.set (n := 1) (by omega) (f 1 + g 1)).eq (jn_zero f g))
  obtain ⟨w5, hw5⟩ : ∃ w5, w4.setCell ⟨w.heap.size, 1, none⟩ (.int .i64 (f 1 + g 1)) = w5 := ⟨_, rfl⟩
  rw [hw5] at HJ5
  have h2 : a10 (fun _ => 0) = #[.int .i64 0, .int .i64 0, .int .i64 0, .int .i64 0, .int .i64 0, .int .i64 0, .int .i64 0, .int .i64 0, .int .i64 0, .int .i64 0] := rfl
  rw [h2] at hw3
  have d2 := HJ5.out.at2 (n := 2) (by omega)
  have d3 := HJ5.out.at2 (n := 3) (by omega)
  have d4 := HJ5.out.at2 (n := 4) (by omega)
  have d5 := HJ5.out.at2 (n := 5) (by omega)
  have d6 := HJ5.out.at2 (n := 6) (by omega)
  have d7 := HJ5.out.at2 (n := 7) (by omega)
  have d8 := HJ5.out.at2 (n := 8) (by omega)
  have d9 := HJ5.out.at2 (n := 9) (by omega)
  obtain ⟨p, hp⟩ : ∃ p, f 0 = p := ⟨_, rfl⟩
  obtain ⟨q, hq⟩ : ∃ p, g 0 = p := ⟨_, rfl⟩
  obtain ⟨r, hr⟩ : ∃ p, f 1 = p := ⟨_, rfl⟩
  obtain ⟨t, ht⟩ : ∃ p, g 1 = p := ⟨_, rfl⟩
  rw [hp] at x0 b0 hw4
  rw [hq] at y0 b1 hw4
  rw [hr] at x2 b2 hw5
  rw [ht] at y1 b3 hw5
  have v1 : wrap64 (p + q) = p + q := by unfold wrap64; omega
  have v2 : wrap64 (r + t) = r + t := by unfold wrap64; omega
  clear hf hg HJ3 HJ4 e1 h2 hp hq hr ht
  go_enter Tryd.func18, Tryd.ntmps18
  go_wp2
  go_loopw [21] (fun i wr => ∃ k : Nat, k ≤ 8 ∧ i = .int .i64 k ∧ Hid (Jbx w (jn f g k) g wr)) (fun i _ => 8 - (intOf i).toNat)
  case atStart => exact ⟨0, by omega, rfl, HJ5⟩
  case round =>
    obtain ⟨k, hk, rfl, HT⟩ := hrel
    by_cases hlt : k < 8
    · have hlt' : (k : Int) < 8 := by omega
      have hri := fun W => run_index8 (fun i => g (i + 2)) hlt W
      obtain ⟨u0, u1⟩ := HT.out.at1 (n := 2 + k) (by omega)
      have e1 : jn f g k (2 + k) = f (2 + k) := by unfold jn; rw [if_neg (by omega)]
      have e2 : g (k + 2) = g (2 + k) := by rw [Nat.add_comm]
      rw [e1] at u0
      have c0 := HF.out (2 + k)
      have c1 := HG.out (2 + k)
      have HN := hide ((HT.out.set (n := 2 + k) (by omega) (f (2 + k) + g (2 + k))).eq (jn_step f g k))
      have e8 : a8 (fun i => g (i + 2)) = #[.int .i64 (g 2), .int .i64 (g 3), .int .i64 (g 4), .int .i64 (g 5), .int .i64 (g 6), .int .i64 (g 7), .int .i64 (g 8), .int .i64 (g 9)] := rfl
      simp only [e2, e8] at hri
      obtain ⟨p, hp⟩ : ∃ p, f (2 + k) = p := ⟨_, rfl⟩
      obtain ⟨q, hq⟩ : ∃ p, g (2 + k) = p := ⟨_, rfl⟩
      rw [hp] at u0 c0 HN
      rw [hq] at hri c1 HN
      have v1 : wrap64 (p + q) = p + q := by unfold wrap64; omega
      clear HT hp hq e1 e2
      go_wp2
      go_roundw
      case rel => exact ⟨k + 1, by omega, by go_num, HN⟩
      case measure => simp [intOf]; omega
    · obtain rfl : k = 8 := by omega
      have HA := hide (HT.out.eq (jn_all f g)).one
      have HB := hide (HT.out.eq (jn_all f g)).res
      have HO := hide (HT.out.eq (jn_all f g)).done
      clear HT
      go_wp2_with (first | ((with_reducible refine wpList_ldS w.heap.size _ rfl ?hx HA.out ?_); case hx => rfl) | ((with_reducible refine wpList_stS (w.heap.size + 1 + 1) (fun i => f i + g i) _ ?hx ?hy HB.out ?_); (case hx => rfl); (case hy => rfl)))
      (try simp only [Exit.inBlock, Exit.then])
      refine ret_str (p := 4) ?h1 (w.heap.size + 1 + 1) _ ?h2 HO.out.1 ?h3 ?_
      case h1 => rfl
      case h2 => rfl
      case h3 => rfl
      exact ⟨rfl, HO.out.2⟩
end Go.Proofs.YtdpfjfkknimlfaaDoor

