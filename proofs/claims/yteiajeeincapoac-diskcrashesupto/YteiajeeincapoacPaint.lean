import Derived.Test.YteiajeeincapoacOps3
import Derived.Deep.RegionLaw
namespace Go.Proofs.Yteiajeeincapoac
open Go.RowKit Go.Maps

def paintL (l : List Int) (p : Nat × Nat × List Int) : List Int :=
  if l.length ≤ p.1 then l else splice l p.1 ((List.replicate p.2.1 0 ++ p.2.2).take (l.length - p.1))

theorem splice_append {α : Type} (xs sp : List α) (off : Nat) (cs : List α) (h : off + cs.length ≤ xs.length) : splice (xs ++ sp) off cs = splice xs off cs ++ sp := by
  unfold splice
  rw [List.take_append_of_le_length (by omega), List.drop_append_of_le_length (by omega)]
  simp

theorem splice_twice {α : Type} (l a b : List α) (off : Nat) (h : off + a.length + b.length ≤ l.length) : splice (splice l off a) (off + a.length) b = splice l off (a ++ b) := by
  unfold splice
  have e1 : (l.take off).length = off := by simp; omega
  have e2 : (l.take off ++ (a ++ l.drop (off + a.length))).take (off + a.length) = l.take off ++ a := by
    rw [← List.append_assoc, List.take_append_of_le_length (by simp; omega), List.take_of_length_le (by simp; omega)]
  have e3 : (l.take off ++ (a ++ l.drop (off + a.length))).drop (off + a.length + b.length) = l.drop (off + a.length + b.length) := by
    rw [← List.append_assoc, List.drop_append, List.drop_of_length_le (by simp; omega), List.drop_drop]
    simp only [List.nil_append, List.length_append, e1]
    congr 1
    omega
  rw [e2, e3]
  simp [Nat.add_assoc]

theorem map_splice {α β : Type} (f : α → β) (l : List α) (off : Nat) (cs : List α) : (splice l off cs).map f = splice (l.map f) off (cs.map f) := by
  simp [splice, List.map_take, List.map_drop]

theorem paintL_eq (l : List Int) (at' z : Nat) (d : List Int) (h : at' < l.length) :
    paintL l (at', z, d) = splice (splice l at' (List.replicate (min (at' + z) l.length - at') 0)) (min (at' + z) l.length) (d.take (l.length - min (at' + z) l.length)) := by
  unfold paintL
  rw [if_neg (by simp; omega)]
  have hl : (List.replicate (min (at' + z) l.length - at') (0 : Int)).length = min (at' + z) l.length - at' := by simp
  have e : at' + (List.replicate (min (at' + z) l.length - at') (0 : Int)).length = min (at' + z) l.length := by rw [hl]; omega
  have := splice_twice l (List.replicate (min (at' + z) l.length - at') 0) (d.take (l.length - min (at' + z) l.length)) at' (by rw [e]; simp; omega)
  rw [e] at this
  rw [this]
  congr 1
  simp only [List.take_append, List.take_replicate, List.length_replicate]
  congr 1
  · congr 1; omega
  · congr 1; omega

theorem length_paintL (l : List Int) (p : Nat × Nat × List Int) : (paintL l p).length = l.length := by
  unfold paintL
  split
  · rfl
  · rw [length_splice _ _ _ (by simp; omega)]

theorem OB.row {w : World} {v : Value} {l : List Int} (h : OB w 0 v l) (h0 : 0 < l.length) : ∃ g c sp, v = .slice (some ⟨g, 0, none⟩) l.length c ∧ c ≤ maxLen ∧ l.length + sp.length = c ∧ w.heap[g]? = some (.cells (l.map (Value.int .u8) ++ sp).toArray 5 (0, 0)) := by
  rcases h.2 with ⟨rfl, h2⟩ | ⟨g, c, cur, rfl, _, h3, h4, h5, h6, h7⟩
  · omega
  · rw [Nat.mul_one] at h6 h7
    refine ⟨g, c, cur.toList.drop l.length, rfl, h5, by simp; omega, ?_⟩
    rw [h3]
    congr 2
    apply Array.ext'
    rw [← h7, List.take_append_drop]

theorem OB.of_row {w : World} {l : List Int} {g c : Nat} {sp : List Value} (h5 : c ≤ maxLen) (hc : l.length + sp.length = c) (hg : w.heap[g]? = some (.cells (l.map (Value.int .u8) ++ sp).toArray 5 (0, 0))) : OB w 0 (.slice (some ⟨g, 0, none⟩) l.length c) l := by
  refine ⟨by simp, .inr ⟨g, c, _, rfl, Nat.zero_le _, hg, by omega, h5, by simp; omega, ?_⟩⟩
  have e : (l.map (Value.int .u8)).length = l.length * 1 := by simp
  simp only []
  rw [← e]
  exact List.take_left

theorem paint_no {v vd : Value} {l : List Int} {at' z : Nat} {w : World} (h : OB w 0 v l) (hp : l.length ≤ at') (hvd : ∃ a n c, vd = .slice a n c) :
    Calls Try.prog 53 #[.agg #[.int .i64 at', .int .i64 z, vd], v] w fun e w' => e = .returned (.tuple #[]) ∧ Below w.heap.size w w' := by
  obtain ⟨a, c, rfl⟩ := h.shape
  obtain ⟨a1, n1, c1, rfl⟩ := hvd
  have hle : (l.length : Int) ≤ (at' : Int) := by omega
  clear h
  go_enter Try.func53, Try.ntmps53
  go_wp2
  (try simp only [Exit.inBlock, Exit.then]); refine bodyPost_ret (results_none rfl _ _ _) rfl ?_
  exact ⟨rfl, (Below.refl _ _).alloc (Nat.le_refl _) _⟩


theorem paint_yes {vd : Value} {l d : List Int} {at' z g c : Nat} {sp : List Value} {w : World} (hc : c ≤ maxLen) (hcl : l.length + sp.length = c) (hg : w.heap[g]? = some (.cells (l.map (Value.int .u8) ++ sp).toArray 5 (0, 0)))
    (hl : l.length ≤ 16777216) (hp : at' < l.length) (hz : at' + z ≤ 16777216) (hvd : SB w vd d) (hne : vd.ownBlock ≠ some g) :
    Calls Try.prog 53 #[.agg #[.int .i64 at', .int .i64 z, vd], .slice (some ⟨g, 0, none⟩) l.length c] w fun e w' => e = .returned (.tuple #[]) ∧
      w'.heap[g]? = some (.cells ((paintL l (at', z, d)).map (Value.int .u8) ++ sp).toArray 5 (0, 0)) ∧ w.grownBy w' (some g) := by
  have HV := hide hvd
  obtain ⟨ad, cd, hv, hd1, hd2, hd3, hd4⟩ := hvd
  subst hv
  unfold maxLen at hc hd2
  obtain ⟨i0, hi, hz0, hz1, hz2⟩ := info_parts info5
  have hle : ¬ (l.length : Int) ≤ (at' : Int) := by omega
  have hac : (at' : Int) ≤ (c : Int) := by omega
  have hac2 : ¬ c = at' := by omega
  have HP := hide (paintL_eq l at' z d hp)
  have HC := hide hd4
  have HN := hide hd3
  clear hd3 hd4
  have hgw : g < w.heap.size := (Array.getElem?_eq_some_iff.1 hg).1
  have HG := hide hg
  clear hg
  have HB : Hid ((w.alloc (.cells #[.int .i64 at', .int .i64 z, .slice ad d.length cd] 73)).heap[g]? = some (.cells (l.map (Value.int .u8) ++ sp).toArray 5 (0, 0))) := (Below.heap_alloc _ _ g hgw).trans HG.out
  by_cases hcase : at' + z ≤ l.length
  · have hc0 : (0 : Int) ≤ (at' : Int) + (z : Int) := by omega
    have hc1 : (at' : Int) + (z : Int) ≤ (l.length : Int) := by omega
    have hc2 : ((at' : Int) + (z : Int)).toNat = at' + z := by omega
    have hc3 : (at' : Int) + (z : Int) ≤ (c : Int) := by omega
    go_enter Try.func53, Try.ntmps53
    go_wp2_with (refine wpList_clear_row rfl _ 22 rfl 5 i0 Try.underlying22 hi hz0 _ g at' z (c - at') (l.map (Value.int .u8) ++ sp) (by first | rfl | simp) (fun _ => rfl) HB.out (by simp; omega) ?_)
    intro w1 HW1 hgr1
    have HG1 := hide hgr1
    clear hgr1
    have hbx : w1.cell? ⟨w.heap.size, 2, none⟩ = some (.slice ad d.length cd) := by
      have : w1.heap[w.heap.size]? = (w.alloc (.cells #[.int .i64 at', .int .i64 z, .slice ad d.length cd] 73)).heap[w.heap.size]? := HG1.out.block w.heap.size (by rw [size_alloc']; omega) (by simp; omega)
      rw [World.cell?_of_block this]
      simp [go_sem]
    obtain ⟨cs, hcs⟩ : ∃ cs, cs = (d.take (l.length - (at' + z))).map (Value.int .u8) := ⟨_, rfl⟩
    have HS := hide hcs
    clear hcs
    have C1 : Hid (cs.length = Nat.min d.length (l.length - (at' + z))) := by show _ = _; rw [HS.out]; simp only [List.length_map, List.length_take]; show _ = min _ _; omega
    have C2 : Hid (∀ (dp : Option Addr) (W : World), (¬ c = at' + z → dp = some (⟨g, at' + z, none⟩ : Addr)) → (∀ a, W.cell? a = w1.cell? a) → 0 < cs.length → dp = some ⟨g, at' + z, none⟩ ∧ ∃ x, ad = some x ∧ ∀ j v, cs[j]? = some v → W.cell? (x.add j) = some v) := by
      intro dp W hdp hW hpos
      rw [HS.out, List.length_map, List.length_take] at hpos
      refine ⟨hdp (by omega), ?_⟩
      cases ad with
      | none => have := HN.out rfl; omega
      | some x =>
        refine ⟨x, rfl, fun j u hj => ?_⟩
        rw [HS.out] at hj
        obtain ⟨hjl, rfl⟩ := List.getElem?_eq_some_iff.1 hj
        have hjl' : j < d.length := by simp at hjl; omega
        have hc := HC.out x rfl j hjl'
        have hx1 : (x.add j).block < w.heap.size := World.block_lt_of_cell? _ _ hc
        have hx2 : (x.add j).block ≠ g := fun e => hne (by rw [← e, add_block]; rfl)
        have hb2 : w1.heap[(x.add j).block]? = w.heap[(x.add j).block]? := (HG1.out.block _ (by rw [size_alloc']; omega) (by simpa using hx2)).trans (Below.heap_alloc _ _ _ hx1)
        rw [hW, World.cell?_of_block hb2, hc]
        simp [hjl']
    have C3 : Hid ((at' + z) + cs.length ≤ (splice (l.map (Value.int .u8) ++ sp) at' (List.replicate z (Value.int .u8 0))).length) := by
      show _ ≤ _
      rw [length_splice _ _ _ (by simp; omega), HS.out]
      simp
      omega
    have C4 : Hid (∀ v ∈ cs, v.oneCell' = true) := by rw [HS.out]; intro u hu; obtain ⟨n, _, rfl⟩ := List.mem_map.1 hu; rfl
    go_wp2
    go_region_law (refine step_copy_gr rfl (.tmp 25) (.tmp 27) 22 22 rfl 5 Try.underlying22 sizeByte _ _ _ _ _ _ (by rfl) (by rfl) g (at' + z) (splice (l.map (Value.int .u8) ++ sp) at' (List.replicate z (Value.int .u8 0))) 5 HW1.out cs C1.out (C2.out _ _ (by intro h; simp [h]) (fun _ => rfl)) C3.out C4.out ?_; intro w2 HW2 hgr2)
    go_end0
    have hm : min (at' + z) l.length = at' + z := by omega
    have hfin : splice (splice (l.map (Value.int .u8) ++ sp) at' (List.replicate z (Value.int .u8 0))) (at' + z) cs = (paintL l (at', z, d)).map (Value.int .u8) ++ sp := by
      rw [HP.out, hm, map_splice, map_splice, splice_append _ _ _ _ (by simp; omega), splice_append _ _ _ _ (by rw [length_splice _ _ _ (by simp; omega), HS.out]; simp; omega), HS.out, List.map_replicate]
      congr 3
      congr 1
      omega
    refine ⟨rfl, ?_, ?_⟩
    · rw [HW2.out, hfin]
    · have h1 : w.grownBy w1 (some g) := (World.grownBy_alloc w _ _).trans HG1.out
      have h2 : w1.grownBy w1.drew (some g) := ⟨rfl, rfl, rfl, Nat.le_refl _, fun _ _ _ => rfl⟩
      exact (h1.trans h2).trans hgr2
  · have hc1 : ¬ (at' : Int) + (z : Int) ≤ (l.length : Int) := by omega
    have hc3 : (l.length : Int) ≤ (c : Int) := by omega
    have hc4 : (at' : Int) ≤ (l.length : Int) := by omega
    have hm0 : min (at' + z) l.length = l.length := by omega
    clear hcase
    go_enter Try.func53, Try.ntmps53
    go_wp2_with (refine wpList_clear_row rfl _ 22 rfl 5 i0 Try.underlying22 hi hz0 _ g at' (l.length - at') (c - at') (l.map (Value.int .u8) ++ sp) (by first | rfl | simp) (fun _ => rfl) HB.out (by simp; omega) ?_)
    intro w1 HW1 hgr1
    have HG1 := hide hgr1
    clear hgr1
    have hbx : w1.cell? ⟨w.heap.size, 2, none⟩ = some (.slice ad d.length cd) := by
      have : w1.heap[w.heap.size]? = (w.alloc (.cells #[.int .i64 at', .int .i64 z, .slice ad d.length cd] 73)).heap[w.heap.size]? := HG1.out.block w.heap.size (by rw [size_alloc']; omega) (by simp; omega)
      rw [World.cell?_of_block this]
      simp [go_sem]
    have C3 : Hid (l.length + ([] : List Value).length ≤ (splice (l.map (Value.int .u8) ++ sp) at' (List.replicate (l.length - at') (Value.int .u8 0))).length) := by
      show _ ≤ _
      rw [length_splice _ _ _ (by simp; omega)]
      simp
    go_wp2
    go_region_law (refine step_copy_gr rfl (.tmp 25) (.tmp 27) 22 22 rfl 5 Try.underlying22 sizeByte _ _ _ _ _ _ (by rfl) (by rfl) g l.length (splice (l.map (Value.int .u8) ++ sp) at' (List.replicate (l.length - at') (Value.int .u8 0))) 5 HW1.out [] (by show 0 = min _ _; omega) (fun h => absurd h (by simp)) C3.out (fun v hv => by cases hv) ?_; intro w2 HW2 hgr2)
    go_end0
    have hm : min (at' + z) l.length = l.length := hm0
    have hfin : splice (splice (l.map (Value.int .u8) ++ sp) at' (List.replicate (l.length - at') (Value.int .u8 0))) l.length [] = (paintL l (at', z, d)).map (Value.int .u8) ++ sp := by
      rw [HP.out, hm, map_splice, map_splice, splice_append _ _ _ _ (by simp; omega), splice_append _ _ _ _ (by rw [length_splice _ _ _ (by simp; omega)]; simp), List.map_replicate]
      simp
    refine ⟨rfl, ?_, ?_⟩
    · rw [HW2.out, hfin]
    · have h1 : w.grownBy w1 (some g) := (World.grownBy_alloc w _ _).trans HG1.out
      have h2 : w1.grownBy w1.drew (some g) := ⟨rfl, rfl, rfl, Nat.le_refl _, fun _ _ _ => rfl⟩
      exact (h1.trans h2).trans hgr2
end Go.Proofs.Yteiajeeincapoac
