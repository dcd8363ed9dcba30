import Derived.Test.YtjhgjohnfkgleaaPpush
namespace Go.Proofs.Ytjhgjohnfkgleaa
namespace Pp
open Go.RowKit Go.Maps
set_option maxRecDepth 20000

theorem push_any {w : World} {K : Nat → Nat} {g : Nat} {R : List (It Int)} {n : Nat} (h : Hq w K g R n) (key val : Int) (hR : R.length ≤ 3500000000000) (hn : n ≤ 10000000000000) :
    Calls Try.prog 10 #[.pointer (some ⟨g, 0, none⟩), .int .i64 key, .agg #[.string NM, .int .i64 val]] w fun e w' => e = .returned (.tuple #[]) ∧ ∃ K', Hq w' K' g (R ++ [⟨key, n, val⟩]) (n + 1) ∧ Fr K K' w w' := by
  have hb : Below w.heap.size w (w.alloc (.cells #[.string NM, .int .i64 val] 26)) := (Below.refl _ _).alloc (Nat.le_refl _) _
  refine (push_in (h.below hb) key val hR hn rfl).mono ?_
  rintro e w' ⟨rfl, K', q1, q2⟩
  exact ⟨rfl, K', q1, (Fr.of_below hb).trans q2⟩

set_option maxHeartbeats 1000000 in
theorem pop_any {w : World} {K : Nat → Nat} {g : Nat} {R : List (It Int)} {n : Nat} (h : Hq w K g R n) (hR : R.length ≤ 6000000000000) :
    Calls Try.prog 13 #[.pointer (some ⟨g, 0, none⟩)] w fun e w' => e = .returned (.tuple #[.int .i64 (pkK R), .agg #[.string (pkS R), .int .i64 (pkV R)], .bool (pkB R)]) ∧ Hq w' K g (rest R) n ∧ Fr K K w w' := by
  have hb1 : Below w.heap.size w (w.alloc (.cells #[.string ByteArray.empty, .int .i64 0] 26)) := (Below.refl _ _).alloc (Nat.le_refl _) _
  have h1 := h.below hb1
  have hP := peek_any h1
  have HB1 := hide hb1
  have H1 := hide h1
  have HH := hide h
  have HG : Hid (∀ w2 : World, Below (w.alloc (.cells #[.string ByteArray.empty, .int .i64 0] 26)).heap.size (w.alloc (.cells #[.string ByteArray.empty, .int .i64 0] 26)) w2 → w2.heap[w.heap.size]? = some (.cells #[.string ByteArray.empty, .int .i64 0] 26 (0, 0)) ∧ w.heap.size < w2.heap.size) := fun w2 hb => by
    have e := (hb.block w.heap.size (by rw [size_alloc']; omega)).trans (heap_alloc_new w _)
    exact ⟨e, heap_lt e⟩
  obtain ⟨S, hS⟩ : ∃ S, w.heap.size = S := ⟨_, rfl⟩
  have HSZ := hide hS
  have HFIN : Hid (∀ (w4 : World) (u v : Value), w4.heap[S]? = some (.cells #[.string ByteArray.empty, .int .i64 0] 26 (0, 0)) → Hq w4 K g (rest R) n → Fr K K w w4 →
      ((w4.setCell ⟨S, 0, none⟩ u).setCell ⟨S, 1, none⟩ v).drew.heap[S]? = some (.cells #[u, v] 26 (0, 0)) ∧ Hq ((w4.setCell ⟨S, 0, none⟩ u).setCell ⟨S, 1, none⟩ v).drew K g (rest R) n ∧ Fr K K w ((w4.setCell ⟨S, 0, none⟩ u).setCell ⟨S, 1, none⟩ v).drew) := fun w4 u v e q f => by
    refine ⟨heap_setCell_at _ (heap_setCell_at _ e), q.far (Nat.le_of_eq (by show _ = ((w4.setCell ⟨S, 0, none⟩ u).setCell ⟨S, 1, none⟩ v).heap.size; rw [size_setCell, size_setCell])) (fun k hk => ?_), f.os, f.tape, f.output, ?_, fun k hk h0 => ?_, f.role⟩
    · have hne : k ≠ S := by have := HH.out.sup k hk; rw [HSZ.out] at this; omega
      exact (setCell_others _ _ _ _ _ hne).trans (setCell_others _ _ _ _ _ hne)
    · show _ ≤ ((w4.setCell ⟨S, 0, none⟩ u).setCell ⟨S, 1, none⟩ v).heap.size
      rw [size_setCell, size_setCell]; exact f.size
    · have hne : k ≠ S := by rw [HSZ.out] at hk; omega
      exact ((setCell_others _ _ _ _ _ hne).trans (setCell_others _ _ _ _ _ hne)).trans (f.block k hk h0)
  have HG2 : Hid (∀ w2 : World, Below (w.alloc (.cells #[.string ByteArray.empty, .int .i64 0] 26)).heap.size (w.alloc (.cells #[.string ByteArray.empty, .int .i64 0] 26)) w2 → ∀ o : Obj, Below w.heap.size w (w2.alloc o)) := fun w2 hb o => (HB1.out.trans (hb.mono (by rw [size_alloc']; omega))).alloc (Nat.le_of_lt (HG.out w2 hb).2) o
  clear hb1 h1 h
  rw [hS] at HG HG2
  by_cases hn : R = []
  · have hb : pkB R = false := by simp [pkB, hn]
    rw [hb] at hP ⊢
    have HN := hide hn
    clear hb hn
    go_enter Try.func13, Try.ntmps13
    go_wp2_with fail
    refine hP.mono ?_
    rintro e w2 ⟨rfl, hb2⟩
    obtain ⟨e2, l2⟩ := HG.out w2 hb2
    have HD := hide (HG2.out w2 hb2)
    obtain ⟨S2, hS2⟩ : ∃ S2, w2.heap.size = S2 := ⟨_, rfl⟩
    clear hb2
    go_wp2
    obtain ⟨w4, hw4⟩ : ∃ w4, w2.alloc (.cells #[.string (pkS R), .int .i64 (pkV R)] 26) = w4 := ⟨_, rfl⟩
    have e4 : w4.heap[S]? = some (.cells #[.string ByteArray.empty, .int .i64 0] 26 (0, 0)) := by rw [← hw4]; exact (Below.heap_alloc _ _ S l2).trans e2
    have d4 : w4.heap[S2]? = some (.cells #[.string (pkS R), .int .i64 (pkV R)] 26 (0, 0)) := by rw [← hw4, ← hS2]; exact heap_alloc_new _ _
    have B4 : Below w.heap.size w w4 := by rw [← hw4, HSZ.out]; exact HD.out _
    rw [hw4]
    have HQ4 : Hid (Hq w4 K g (rest R) n) := by
      have q := HH.out.below B4
      have e := HN.out
      subst e
      exact q
    have HF4 : Hid (Fr K K w w4) := Fr.of_below B4
    have hne : ¬ S2 = S := by omega
    have hne' : ¬ S = S2 := by omega
    clear hw4 e2 B4 hS2 l2
    have q0 : w4.cell? ⟨S2, 0, none⟩ = some (.string (pkS R)) := cellOf d4 rfl
    have q1 : w4.cell? ⟨S2, 1, none⟩ = some (.int .i64 (pkV R)) := cellOf d4 rfl
    have r0 : w4.cell? ⟨S, 0, none⟩ = some (.string ByteArray.empty) := cellOf e4 rfl
    have r1 : w4.cell? ⟨S, 1, none⟩ = some (.int .i64 0) := cellOf e4 rfl
    have f0 : w4.frozen? ⟨S, 0, none⟩ = false := frozenOf e4
    have f1 : w4.frozen? ⟨S, 1, none⟩ = false := frozenOf e4
    have HZ := hide (HFIN.out w4 (.string (pkS R)) (.int .i64 (pkV R)) e4 HQ4.out HF4.out)
    clear e4 d4
    go_region
    go_wp2
    (try simp only [Exit.inBlock, Exit.then])
    exact bodyPost_ret (results3 rfl _ _ S 26 #[.string (pkS R), .int .i64 (pkV R)] (0, 0) _ rfl HZ.out.1 Try.underlying26 rfl sizePair) rfl ⟨rfl, HZ.out.2⟩
  · have hb : pkB R = true := by simp [pkB, hn]
    rw [hb] at hP ⊢
    have hpos : 0 < R.length := List.length_pos_iff.2 hn
    have HN := hide hn
    clear hb hn
    go_enter Try.func13, Try.ntmps13
    go_wp2_with fail
    refine hP.mono ?_
    rintro e w2 ⟨rfl, hb2⟩
    obtain ⟨e2, l2⟩ := HG.out w2 hb2
    have HD := hide (HG2.out w2 hb2)
    clear hb2
    obtain ⟨S2, hS2⟩ : ∃ S2, w2.heap.size = S2 := ⟨_, rfl⟩
    go_wp2_with fail
    obtain ⟨w3, hw3⟩ : ∃ w3, w2.alloc (.cells #[.string (pkS R), .int .i64 (pkV R)] 26) = w3 := ⟨_, rfl⟩
    have e3 : w3.heap[S]? = some (.cells #[.string ByteArray.empty, .int .i64 0] 26 (0, 0)) := by rw [← hw3]; exact (Below.heap_alloc _ _ S l2).trans e2
    have d3 : w3.heap[S2]? = some (.cells #[.string (pkS R), .int .i64 (pkV R)] 26 (0, 0)) := by rw [← hw3, ← hS2]; exact heap_alloc_new _ _
    have B3 : Below w.heap.size w w3 := by rw [← hw3, HSZ.out]; exact HD.out _
    rw [hw3]
    have h3 := HH.out.below B3
    have hne : ¬ S2 = S := by omega
    have hne' : ¬ S = S2 := by omega
    obtain ⟨b, cap, xs, a, c, d⟩ : ∃ b cap xs, At w3 g b cap xs n ∧ Holds xs R n ∧ K b ≠ 0 := by
      rcases h3.is with ⟨q1, _⟩ | q
      · exact absurd q1 HN.out
      · exact q
    refine (drop_at a (by rw [c.len]; exact hpos) (by rw [c.len]; exact hR) c.tree).mono ?_
    rintro e w4 ⟨rfl, ys, q1, q2, q3, q4⟩
    have kb := HH.out.sup b d
    have kg := HH.out.sup g HH.out.kg
    rw [HSZ.out] at kb kg
    have e4 := (q2.block S (by omega) (by omega)).trans e3
    have d4 := (q2.block S2 (by omega) (by omega)).trans d3
    have HQ4 : Hid (Hq w4 K g (rest R) n) := ⟨.inr ⟨b, cap, ys, q1, c.pop hpos q3 q4, d⟩, h3.kg, fun k hk => by rw [q2.size]; exact h3.sup k hk⟩
    have HF4 : Hid (Fr K K w w4) := (Fr.of_below B3).trans ⟨q2.os, q2.tape, q2.output, Nat.le_of_eq q2.size.symm, fun k _ h0 => q2.block k (fun e => d (by rw [← e]; exact h0)) (fun e => h3.kg (by rw [← e]; exact h0)), fun _ _ => rfl⟩
    clear hw3 e2 e3 d3 B3 h3 a c d q1 q2 q3 q4 kb kg hS2 l2
    go_wp2
    have q0 : w4.cell? ⟨S2, 0, none⟩ = some (.string (pkS R)) := cellOf d4 rfl
    have q1 : w4.cell? ⟨S2, 1, none⟩ = some (.int .i64 (pkV R)) := cellOf d4 rfl
    have r0 : w4.cell? ⟨S, 0, none⟩ = some (.string ByteArray.empty) := cellOf e4 rfl
    have r1 : w4.cell? ⟨S, 1, none⟩ = some (.int .i64 0) := cellOf e4 rfl
    have f0 : w4.frozen? ⟨S, 0, none⟩ = false := frozenOf e4
    have f1 : w4.frozen? ⟨S, 1, none⟩ = false := frozenOf e4
    have HZ := hide (HFIN.out w4 (.string (pkS R)) (.int .i64 (pkV R)) e4 HQ4.out HF4.out)
    clear e4 d4
    go_region
    go_wp2
    (try simp only [Exit.inBlock, Exit.then])
    exact bodyPost_ret (results3 rfl _ _ S 26 #[.string (pkS R), .int .i64 (pkV R)] (0, 0) _ rfl HZ.out.1 Try.underlying26 rfl sizePair) rfl ⟨rfl, HZ.out.2⟩

end Pp
end Go.Proofs.Ytjhgjohnfkgleaa
