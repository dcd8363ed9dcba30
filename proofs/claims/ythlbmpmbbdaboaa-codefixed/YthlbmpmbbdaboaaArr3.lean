import Derived.Test.YthlbmpmbbdaboaaArr2
namespace Go.Proofs.Ythlbmpmbbdaboaa
open Go.RowKit Go.Maps
set_option maxRecDepth 20000

/-- All words. -/
def wds (l : List Int) : List Int := (List.range l.length).map fun s => (wd l s : Int)

theorem wds_len (l : List Int) : (wds l).length = l.length := by simp [wds]

theorem wds_get {l : List Int} {k : Nat} (h : k < l.length) : (wds l).getD k 0 = (wd l k : Int) := by simp [wds, h]

def outAt (l : List Int) (k : Nat) : List Int := (wds l).take k ++ List.replicate (l.length - k) 0

theorem out_zero (l : List Int) : outAt l 0 = List.replicate l.length 0 := by simp [outAt]

theorem out_end (l : List Int) : outAt l l.length = wds l := by
  unfold outAt
  rw [List.take_of_length_le (by rw [wds_len]; exact Nat.le_refl _)]; simp

theorem out_len {l : List Int} {k : Nat} (h : k ≤ l.length) : (outAt l k).length = l.length := by
  unfold outAt
  rw [List.length_append, List.length_take, wds_len, List.length_replicate]; omega

theorem out_succ {l : List Int} {k : Nat} (h : k < l.length) : outAt l (k + 1) = (outAt l k).set k (wd l k : Int) := by
  unfold outAt
  have hl : k < (wds l).length := by rw [wds_len]; exact h
  rw [List.take_succ_eq_append_getElem hl]
  have e : (wds l)[k] = (wd l k : Int) := by simp [wds]
  rw [e]
  have h2 : ((wds l).take k).length = k := by rw [List.length_take]; omega
  rw [List.set_append_right _ _ (by omega), h2, Nat.sub_self]
  rw [show l.length - k = (l.length - (k + 1)) + 1 by omega, List.replicate_succ, List.set_cons_zero]
  simp

theorem out_same {l : List Int} {k : Nat} (h : k < l.length) (h0 : ln l k = 0) : outAt l (k + 1) = outAt l k := by
  unfold outAt
  have hl : k < (wds l).length := by rw [wds_len]; exact h
  rw [List.take_succ_eq_append_getElem hl]
  have e : (wds l)[k] = 0 := by simp [wds, wd, h0]
  rw [e, show l.length - k = (l.length - (k + 1)) + 1 by omega, List.replicate_succ]
  simp

/-- The next words, and the words so far. -/
def Wst (w : World) (l : List Int) (k : Nat) (wr : World) : Prop := wr.heap[w.heap.size]? = some (.cells (av fun n => (fi l n : Int) + cn (l.take k) n) 60 (0, 0)) ∧ wr.heap[w.heap.size + 1]? = some (.cells ((outAt l k).map (Value.int .i64)).toArray 3 (0, 0)) ∧ Below w.heap.size w wr

theorem Wst.nx {w wr : World} {l : List Int} {k n : Nat} (h : Wst w l k wr) (hn : n < 16) : wr.cell? ⟨w.heap.size, n, none⟩ = some (.int .i64 ((fi l n : Int) + cn (l.take k) n)) := by
  rw [cell_of_row _ _ _ _ _ _ h.1, av_get _ hn]

theorem Wst.ou {w wr : World} {l : List Int} {k : Nat} (h : Wst w l k wr) (hk : k < l.length) : ∃ x, wr.cell? ⟨w.heap.size + 1, k, none⟩ = some (.int .i64 x) := by
  have e : k < (outAt l k).length := by rw [out_len (by omega)]; exact hk
  refine ⟨(outAt l k)[k], ?_⟩
  rw [cell_of_row _ _ _ _ _ _ h.2.1]
  simp [e]

theorem map_set (L : List Int) (k : Nat) (x : Int) : ((L.map (Value.int .i64)).toArray.setIfInBounds k (.int .i64 x)) = ((L.set k x).map (Value.int .i64)).toArray := by
  apply Array.ext'
  rw [Array.toList_setIfInBounds]
  simp [List.map_set]

theorem Wst.zero {w wr : World} {l : List Int} {k : Nat} (h : Wst w l k wr) (hk : k < l.length) (h0 : ln l k = 0) (hl : Lens l) : Wst w l (k + 1) wr := by
  refine ⟨?_, by rw [out_same hk h0]; exact h.2.1, h.2.2⟩
  rw [h.1, av_congr fun i _ => ?_]
  rw [cn_snoc hk, if_neg (fun x => x.1 (by have := (hl.ln k).1; omega))]; rfl

theorem Wst.step {w wr : World} {l : List Int} {k n : Nat} (h : Wst w l k wr) (hk : k < l.length) (hn : ln l k = n) (h0 : n ≠ 0) (hl : Lens l) (x : Int) (hx : x = (fi l n : Int) + cn (l.take k) n) :
    Wst w l (k + 1) ((wr.setCell ⟨w.heap.size + 1, k, none⟩ (.int .i64 x)).setCell ⟨w.heap.size, n, none⟩ (.int .i64 (x + 1))) := by
  have hln := hl.ln k
  have hwd : (wd l k : Int) = x := by
    rw [hx, Has.wd ⟨hk, by omega⟩, hn]
    unfold rk cn
    rw [if_neg h0, hln.1, hn]
    push_cast; rfl
  refine ⟨?_, ?_, ?_⟩
  · have h1 : (wr.setCell ⟨w.heap.size + 1, k, none⟩ (.int .i64 x)).heap[w.heap.size]? = some (.cells (av fun n => (fi l n : Int) + cn (l.take k) n) 60 (0, 0)) := (setCell_others wr _ k _ _ (by omega)).trans h.1
    rw [heap_setCell_same _ _ _ _ _ _ h1, av_set _ _ (by omega)]
    rw [av_congr fun i _ => ?_]
    unfold upf
    rw [cn_snoc hk]
    by_cases e : i = n
    · subst e
      rw [if_pos rfl, if_pos ⟨h0, by omega⟩]
      omega
    · rw [if_neg e, if_neg (fun y => e (by have := y.2; omega))]; rfl
  · rw [setCell_others _ _ n _ _ (by omega), heap_setCell_same _ _ _ _ _ _ h.2.1, map_set, out_succ hk, hwd]
  · exact (h.2.2.setCell (by show _ ≤ w.heap.size + 1; omega) _).setCell (by show _ ≤ w.heap.size; omega) _

theorem words_any (v : Value) (l : List Int) (w : World) (h : SI w v l) (hl : Lens l) :
    Calls Try.prog 35 #[v, .agg (av fun n => (fi l n : Int))] w fun e w' => ∃ a c, e = .returned (.slice a l.length c) ∧ OI w' w.heap.size (.slice a l.length c) (wds l) ∧ Below w.heap.size w w' := by
  have HS := hide h
  have HL := hide hl
  have h288 := hl.1
  obtain ⟨ao, cap, rfl, hlc, hcm⟩ := h.open
  clear h hl
  go_enter Try.func35, Try.ntmps35
  go_wp2_with (at_make; refine wpList_mkI rfl _ _ rfl _ _ _ _ l.length l.length rfl rfl rfl rfl (Nat.le_refl _) (by omega) ?_)
  intro w1 hg hb1
  have HW : Hid (Wst w l 0 w1) := by
    have hs : (w.alloc (.cells (av fun n => (fi l n : Int)) 60)).heap.size = w.heap.size + 1 := size_alloc' _ _
    (try rw [hs] at hg)
    (try rw [hs] at hb1)
    refine ⟨?_, ?_, ((Below.refl _ _).alloc (Nat.le_refl _) _).trans (hb1.mono (by omega))⟩
    · rw [hb1.block _ (by omega), heap_alloc_new]
      rw [av_congr fun i _ => ?_]
      simp [cn]
    · rw [hg, out_zero]; simp
  clear hg hb1
  (try simp only [size_alloc'])
  go_wp2
  go_loopw [13] (fun i wr => ∃ k : Nat, k ≤ l.length ∧ i = .int .i64 k ∧ Hid (Wst w l k wr)) (fun i _ => l.length - (intOf i).toNat)
  case atStart => exact ⟨0, Nat.zero_le _, rfl, HW⟩
  case round =>
    clear HW
    obtain ⟨k, hk, rfl, HT⟩ := hrel
    by_cases hlt : k < l.length
    · have hlt' : (k : Int) < (l.length : Int) := by omega
      obtain ⟨b, o, rfl, hc⟩ := HS.out.get HT.out.2.2 hlt
      obtain ⟨n, HN⟩ : ∃ n, Hid (ln l k = n) := ⟨_, rfl⟩
      have hn15 : n < 16 := by rw [← HN.out]; have := (HL.out.ln k).2; omega
      rw [(HL.out.ln k).1, HN.out] at hc
      by_cases h0 : n = 0
      · subst h0
        have HNX := hide (HT.out.zero hlt HN.out HL.out)
        go_wp2
        go_roundw
        case rel => exact ⟨k + 1, by omega, by go_num, HNX⟩
        case measure => simp [intOf]; omega
      · have h0' : (0 : Int) < n := by omega
        have c1 := HT.out.nx hn15
        obtain ⟨y, c2⟩ := HT.out.ou hlt
        have f1 : wr.frozen? ⟨w.heap.size + 1, k, none⟩ = false := frozen_of_row _ _ _ _ _ HT.out.2.1
        obtain ⟨x, HX⟩ : ∃ x, Hid (x = (fi l n : Int) + cn (l.take k) n) := ⟨_, rfl⟩
        rw [← HX.out] at c1
        have hx : 0 ≤ x ∧ x ≤ 100000000 := by
          have h1 := fi_top HL.out (n := n) (by omega)
          have h2 := cn_le (l.take k) n
          rw [List.length_take] at h2
          rw [HX.out]; omega
        have HNX := hide (HT.out.step hlt HN.out h0 HL.out x HX.out)
        have hne : w.heap.size ≠ w.heap.size + 1 := by omega
        have c3 : (wr.setCell ⟨w.heap.size + 1, k, none⟩ (.int .i64 x)).cell? ⟨w.heap.size, n, none⟩ = some (.int .i64 x) := by
          rw [World.cell?_of_block (setCell_others wr _ k _ _ hne)]; exact c1
        have f3 : (wr.setCell ⟨w.heap.size + 1, k, none⟩ (.int .i64 x)).frozen? ⟨w.heap.size, n, none⟩ = false := frozen_of_row _ _ _ _ _ ((setCell_others wr _ k _ _ hne).trans HT.out.1)
        clear HT
        go_wp2
        go_roundw
        case rel => exact ⟨k + 1, by omega, by go_num, HNX⟩
        case measure => simp [intOf]; omega
    · obtain rfl : k = l.length := by omega
      have hlt' : ¬ (l.length : Int) < (l.length : Int) := by omega
      go_wp2
      go_ret
      refine ⟨_, _, rfl, ?_, HT.out.2.2⟩
      have e := HT.out.2.1
      rw [out_end] at e
      have := OI.of_full (base := w.heap.size) e (by omega) (by rw [wds_len]; unfold maxLen; omega)
      rwa [wds_len] at this
end Go.Proofs.Ythlbmpmbbdaboaa
