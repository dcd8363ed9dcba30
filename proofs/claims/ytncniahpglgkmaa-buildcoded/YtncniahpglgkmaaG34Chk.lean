import Derived.Test.YtncniahpglgkmaaG33Arr2
namespace Go.Proofs.Ytncniahpglgkmaa
open Go.RowKit Go.Maps
set_option maxRecDepth 20000

/-- All words. -/
def wds (l : List Int) : List Int := (List.range l.length).map fun s => (wd l s : Int)

theorem wds_len (l : List Int) : (wds l).length = l.length := by simp [wds]

theorem wds_get {l : List Int} {k : Nat} (h : k < l.length) : (wds l).getD k 0 = (wd l k : Int) := by simp [wds, h]

def outAt (l : List Int) (k : Nat) : List Int := (wds l).take k ++ List.replicate (l.length - k) 0

theorem out_zero (l : List Int) : outAt l 0 = List.replicate l.length 0 := by simp [outAt]

theorem out_end (l : List Int) : outAt l l.length = wds l := by
  unfold outAt
  rw [List.take_of_length_le (by rw [wds_len]; exact Nat.le_refl _)]; simp

theorem out_len {l : List Int} {k : Nat} (h : k ≤ l.length) : (outAt l k).length = l.length := by
  unfold outAt
  rw [List.length_append, List.length_take, wds_len, List.length_replicate]; omega

theorem out_succ {l : List Int} {k : Nat} (h : k < l.length) : outAt l (k + 1) = (outAt l k).set k (wd l k : Int) := by
  unfold outAt
  have hl : k < (wds l).length := by rw [wds_len]; exact h
  rw [List.take_succ_eq_append_getElem hl]
  have e : (wds l)[k] = (wd l k : Int) := by simp [wds]
  rw [e]
  have h2 : ((wds l).take k).length = k := by rw [List.length_take]; omega
  rw [List.set_append_right _ _ (by omega), h2, Nat.sub_self]
  rw [show l.length - k = (l.length - (k + 1)) + 1 by omega, List.replicate_succ, List.set_cons_zero]
  simp

theorem out_same {l : List Int} {k : Nat} (h : k < l.length) (h0 : ln l k = 0) : outAt l (k + 1) = outAt l k := by
  unfold outAt
  have hl : k < (wds l).length := by rw [wds_len]; exact h
  rw [List.take_succ_eq_append_getElem hl]
  have e : (wds l)[k] = 0 := by simp [wds, wd, h0]
  rw [e, show l.length - k = (l.length - (k + 1)) + 1 by omega, List.replicate_succ]
  simp

/-- The next words, and the words so far. -/
def Wst (w : World) (l : List Int) (k : Nat) (wr : World) : Prop := wr.heap[w.heap.size]? = some (.cells (av fun n => (fi l n : Int) + cn (l.take k) n) 86 (0, 0)) ∧ wr.heap[w.heap.size + 1]? = some (.cells ((outAt l k).map (Value.int .i64)).toArray 3 (0, 0)) ∧ Below w.heap.size w wr

theorem Wst.nx {w wr : World} {l : List Int} {k n : Nat} (h : Wst w l k wr) (hn : n < 16) : wr.cell? ⟨w.heap.size, n, none⟩ = some (.int .i64 ((fi l n : Int) + cn (l.take k) n)) := by
  rw [cell_of_row _ _ _ _ _ _ h.1, av_get _ hn]

theorem Wst.ou {w wr : World} {l : List Int} {k : Nat} (h : Wst w l k wr) (hk : k < l.length) : ∃ x, wr.cell? ⟨w.heap.size + 1, k, none⟩ = some (.int .i64 x) := by
  have e : k < (outAt l k).length := by rw [out_len (by omega)]; exact hk
  refine ⟨(outAt l k)[k], ?_⟩
  rw [cell_of_row _ _ _ _ _ _ h.2.1]
  simp [e]

theorem map_set (L : List Int) (k : Nat) (x : Int) : ((L.map (Value.int .i64)).toArray.setIfInBounds k (.int .i64 x)) = ((L.set k x).map (Value.int .i64)).toArray := by
  apply Array.ext'
  rw [Array.toList_setIfInBounds]
  simp [List.map_set]

theorem Wst.zero {w wr : World} {l : List Int} {k : Nat} (h : Wst w l k wr) (hk : k < l.length) (h0 : ln l k = 0) (hl : Lens l) : Wst w l (k + 1) wr := by
  refine ⟨?_, by rw [out_same hk h0]; exact h.2.1, h.2.2⟩
  rw [h.1, av_congr fun i _ => ?_]
  rw [cn_snoc hk, if_neg (fun x => x.1 (by have := (hl.ln k).1; omega))]; rfl

theorem Wst.step {w wr : World} {l : List Int} {k n : Nat} (h : Wst w l k wr) (hk : k < l.length) (hn : ln l k = n) (h0 : n ≠ 0) (hl : Lens l) (x : Int) (hx : x = (fi l n : Int) + cn (l.take k) n) :
    Wst w l (k + 1) ((wr.setCell ⟨w.heap.size + 1, k, none⟩ (.int .i64 x)).setCell ⟨w.heap.size, n, none⟩ (.int .i64 (x + 1))) := by
  have hln := hl.ln k
  have hwd : (wd l k : Int) = x := by
    rw [hx, Has.wd ⟨hk, by omega⟩, hn]
    unfold rk cn
    rw [if_neg h0, hln.1, hn]
    push_cast; rfl
  refine ⟨?_, ?_, ?_⟩
  · have h1 : (wr.setCell ⟨w.heap.size + 1, k, none⟩ (.int .i64 x)).heap[w.heap.size]? = some (.cells (av fun n => (fi l n : Int) + cn (l.take k) n) 86 (0, 0)) := (setCell_others wr _ k _ _ (by omega)).trans h.1
    rw [heap_setCell_same _ _ _ _ _ _ h1, av_set _ _ (by omega)]
    rw [av_congr fun i _ => ?_]
    unfold upf
    rw [cn_snoc hk]
    by_cases e : i = n
    · subst e
      rw [if_pos rfl, if_pos ⟨h0, by omega⟩]
      omega
    · rw [if_neg e, if_neg (fun y => e (by have := y.2; omega))]; rfl
  · rw [setCell_others _ _ n _ _ (by omega), heap_setCell_same _ _ _ _ _ _ h.2.1, map_set, out_succ hk, hwd]
  · exact (h.2.2.setCell (by show _ ≤ w.heap.size + 1; omega) _).setCell (by show _ ≤ w.heap.size; omega) _

theorem words_any (v : Value) (l : List Int) (w : World) (h : SI w v l) (hl : Lens l) :
    Calls Try.prog 52 #[v, .agg (av fun n => (fi l n : Int))] w fun e w' => ∃ a c, e = .returned (.slice a l.length c) ∧ OI w' w.heap.size (.slice a l.length c) (wds l) ∧ Below w.heap.size w w' := by
  have HS := hide h
  have HL := hide hl
  have h288 := hl.1
  obtain ⟨ao, cap, rfl, hlc, hcm⟩ := h.open
  clear h hl
  go_enter Try.func52, Try.ntmps52
  go_wp2_with (at_make; refine wpList_mkI rfl _ _ rfl _ _ _ _ l.length l.length rfl rfl rfl rfl (Nat.le_refl _) (by omega) ?_)
  intro w1 hg hb1
  have HW : Hid (Wst w l 0 w1) := by
    have hs : (w.alloc (.cells (av fun n => (fi l n : Int)) 86)).heap.size = w.heap.size + 1 := size_alloc' _ _
    (try rw [hs] at hg)
    (try rw [hs] at hb1)
    refine ⟨?_, ?_, ((Below.refl _ _).alloc (Nat.le_refl _) _).trans (hb1.mono (by omega))⟩
    · rw [hb1.block _ (by omega), heap_alloc_new]
      rw [av_congr fun i _ => ?_]
      simp [cn]
    · rw [hg, out_zero]; simp
  clear hg hb1
  (try simp only [size_alloc'])
  go_wp2
  go_loopw [13] (fun i wr => ∃ k : Nat, k ≤ l.length ∧ i = .int .i64 k ∧ Hid (Wst w l k wr)) (fun i _ => l.length - (intOf i).toNat)
  case atStart => exact ⟨0, Nat.zero_le _, rfl, HW⟩
  case round =>
    clear HW
    obtain ⟨k, hk, rfl, HT⟩ := hrel
    by_cases hlt : k < l.length
    · have hlt' : (k : Int) < (l.length : Int) := by omega
      obtain ⟨b, o, rfl, hc⟩ := HS.out.get HT.out.2.2 hlt
      obtain ⟨n, HN⟩ : ∃ n, Hid (ln l k = n) := ⟨_, rfl⟩
      have hn15 : n < 16 := by rw [← HN.out]; have := (HL.out.ln k).2; omega
      rw [(HL.out.ln k).1, HN.out] at hc
      by_cases h0 : n = 0
      · subst h0
        have HNX := hide (HT.out.zero hlt HN.out HL.out)
        go_wp2
        go_roundw
        case rel => exact ⟨k + 1, by omega, by go_num, HNX⟩
        case measure => simp [intOf]; omega
      · have h0' : (0 : Int) < n := by omega
        have c1 := HT.out.nx hn15
        obtain ⟨y, c2⟩ := HT.out.ou hlt
        have f1 : wr.frozen? ⟨w.heap.size + 1, k, none⟩ = false := frozen_of_row _ _ _ _ _ HT.out.2.1
        obtain ⟨x, HX⟩ : ∃ x, Hid (x = (fi l n : Int) + cn (l.take k) n) := ⟨_, rfl⟩
        rw [← HX.out] at c1
        have hx : 0 ≤ x ∧ x ≤ 100000000 := by
          have h1 := fi_top HL.out (n := n) (by omega)
          have h2 := cn_le (l.take k) n
          rw [List.length_take] at h2
          rw [HX.out]; omega
        have HNX := hide (HT.out.step hlt HN.out h0 HL.out x HX.out)
        have hne : w.heap.size ≠ w.heap.size + 1 := by omega
        have c3 : (wr.setCell ⟨w.heap.size + 1, k, none⟩ (.int .i64 x)).cell? ⟨w.heap.size, n, none⟩ = some (.int .i64 x) := by
          rw [World.cell?_of_block (setCell_others wr _ k _ _ hne)]; exact c1
        have f3 : (wr.setCell ⟨w.heap.size + 1, k, none⟩ (.int .i64 x)).frozen? ⟨w.heap.size, n, none⟩ = false := frozen_of_row _ _ _ _ _ ((setCell_others wr _ k _ _ hne).trans HT.out.1)
        clear HT
        go_wp2
        go_roundw
        case rel => exact ⟨k + 1, by omega, by go_num, HNX⟩
        case measure => simp [intOf]; omega
    · obtain rfl : k = l.length := by omega
      have hlt' : ¬ (l.length : Int) < (l.length : Int) := by omega
      go_wp2
      go_ret
      refine ⟨_, _, rfl, ?_, HT.out.2.2⟩
      have e := HT.out.2.1
      rw [out_end] at e
      have := OI.of_full (base := w.heap.size) e (by omega) (by rw [wds_len]; unfold maxLen; omega)
      rwa [wds_len] at this
end Go.Proofs.Ytncniahpglgkmaa

namespace Go.Proofs.Ytncniahpglgkmaa
open Go.RowKit Go.Maps
set_option maxRecDepth 20000

instance (l : List Int) : Decidable (Lens l) := by unfold Lens; exact inferInstance

def chkE (l : List Int) : Int := if 288 < l.length then 1 else if Lens l then 0 else 50
def chkS (l : List Int) : Int := if Lens l then shp l else 0

def okTo (l : List Int) (k : Nat) : Prop := ∀ i, i < k → 0 ≤ l.getD i 0 ∧ l.getD i 0 ≤ 15

theorem okTo_lens {l : List Int} (h : okTo l l.length) (h2 : l.length ≤ 288) : Lens l := by
  refine ⟨h2, fun x hx => ?_⟩
  obtain ⟨i, hi, rfl⟩ := List.getElem_of_mem hx
  have := h i hi
  rwa [show l.getD i 0 = l[i] by simp [hi]] at this

theorem okTo_succ {l : List Int} {k : Nat} (h : okTo l k) (hk : 0 ≤ l.getD k 0 ∧ l.getD k 0 ≤ 15) : okTo l (k + 1) := fun i hi => by
  by_cases e : i = k
  · subst e; exact hk
  · exact h i (by omega)

theorem not_lens {l : List Int} {k : Nat} (h : ¬ (0 ≤ l.getD k 0 ∧ l.getD k 0 ≤ 15)) : ¬ Lens l := fun hl => h (hl.at k)

theorem check_any (v : Value) (l : List Int) (w : World) (h : SI w v l) :
    Calls Try.prog 50 #[v] w fun e w' => e = .returned (.tuple #[.int .i64 (chkS l), .int .i64 (chkE l)]) ∧ Below w.heap.size w w' := by
  have HS := hide h
  obtain ⟨ao, cap, rfl, hlc, hcm⟩ := h.open
  clear h
  by_cases hlen : 288 < l.length
  · have hlen' : (288 : Int) < l.length := by omega
    have hn : ¬ Lens l := fun h => by have := h.1; omega
    have HE : Hid (chkE l = 1 ∧ chkS l = 0) := ⟨if_pos hlen, if_neg hn⟩
    clear hn
    go_enter Try.func50, Try.ntmps50
    go_wp2
    go_ret2
    rw [HE.out.1, HE.out.2]
    exact ⟨rfl, Below.refl _ _⟩
  have hlen' : ¬ (288 : Int) < l.length := by omega
  have HNL := hide hlen
  clear hlen
  go_enter Try.func50, Try.ntmps50
  go_wp2
  go_loopw [11] (fun i wr => ∃ k : Nat, k ≤ l.length ∧ i = .int .i64 k ∧ wr = w ∧ Hid (okTo l k)) (fun i _ => l.length - (intOf i).toNat)
  case atStart => exact ⟨0, Nat.zero_le _, rfl, rfl, fun i hi => by omega⟩
  case round =>
    obtain ⟨k, hk, rfl, rfl, HT⟩ := hrel
    by_cases hlt : k < l.length
    · have hlt' : (k : Int) < (l.length : Int) := by omega
      obtain ⟨b, o, rfl, hc⟩ := HS.out.get (Below.refl _ _) hlt
      obtain ⟨x, HX⟩ : ∃ x, Hid (x = l.getD k 0) := ⟨_, rfl⟩
      rw [← HX.out] at hc
      by_cases hb : 0 ≤ x ∧ x ≤ 15
      · have HN : Hid (okTo l (k + 1)) := okTo_succ HT.out (by rw [← HX.out]; exact hb)
        obtain ⟨b0, b1⟩ := hb
        have b0' : ¬ x < 0 := by omega
        have b1' : ¬ 15 < x := by omega
        clear HT
        go_wp2
        go_roundw
        case rel => exact ⟨k + 1, by omega, by go_num, by trivial, HN⟩
        case measure => simp [intOf]; omega
      · have hn : ¬ Lens l := not_lens (k := k) (by rw [← HX.out]; exact hb)
        have HE : Hid (chkE l = 50 ∧ chkS l = 0) := ⟨by unfold chkE; rw [if_neg HNL.out, if_neg hn], if_neg hn⟩
        clear hn
        by_cases b0 : x < 0
        · clear hb
          go_wp2
          go_ret2
          rw [HE.out.1, HE.out.2]
          exact ⟨rfl, Below.refl _ _⟩
        · have b1 : 15 < x := by omega
          clear hb
          go_wp2
          go_ret2
          rw [HE.out.1, HE.out.2]
          exact ⟨rfl, Below.refl _ _⟩
    · obtain rfl : k = l.length := by omega
      have hl : Lens l := okTo_lens HT.out (by have := HNL.out; omega)
      have HL := hide hl
      have HE : Hid (chkE l = 0 ∧ chkS l = shp l) := ⟨by unfold chkE; rw [if_neg HNL.out, if_pos hl], if_pos hl⟩
      have hlt' : ¬ (l.length : Int) < (l.length : Int) := by omega
      clear hl HT
      go_wp2_with fail
      refine (count_any _ l _ HS.out HL.out).mono ?_
      rintro e w1 ⟨rfl, hb1⟩
      have HB1 := hide hb1
      clear hb1
      go_wp2_with fail
      refine (shape_any l _ HL.out).mono ?_
      rintro e w2 ⟨rfl, hb2⟩
      have HB2 : Hid (Below wr.heap.size wr w2) := HB1.out.trans (hb2.mono HB1.out.size)
      clear hb2
      go_wp2
      go_ret2
      rw [HE.out.1, HE.out.2]
      exact ⟨rfl, HB2.out⟩

def cdE (l : List Int) : Int := if chkE l ≠ 0 then chkE l else if shp l = 3 then 51 else 0
def cdL (l : List Int) : List Int := if cdE l = 0 then wds l else []

theorem chkE_zero {l : List Int} (h : chkE l = 0) : Lens l ∧ chkS l = shp l := by
  unfold chkE at h
  by_cases h1 : 288 < l.length
  · rw [if_pos h1] at h; omega
  · rw [if_neg h1] at h
    by_cases h2 : Lens l
    · exact ⟨h2, if_pos h2⟩
    · rw [if_neg h2] at h; omega

end Go.Proofs.Ytncniahpglgkmaa

