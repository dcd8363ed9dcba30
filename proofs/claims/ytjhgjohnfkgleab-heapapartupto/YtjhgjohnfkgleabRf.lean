import Derived.Test.YtjhgjohnfkgleabHpop
namespace Go.Proofs.Ytjhgjohnfkgleab
open Go.RowKit Go.Maps
set_option maxRecDepth 20000

def cellsR (x : It Int) : List Value := [.int .i64 x.key, .int .i64 x.val]

def flatR (xs : List (It Int)) : List Value := xs.flatMap cellsR

theorem flatR_length (xs : List (It Int)) : (flatR xs).length = xs.length * 2 := by
  induction xs with
  | nil => rfl
  | cons a r ih => unfold flatR at ih ⊢; rw [List.flatMap_cons, List.length_append, ih]; simp [cellsR]; omega

theorem flatR_snoc (xs : List (It Int)) (x : It Int) : flatR (xs ++ [x]) = flatR xs ++ cellsR x := by simp [flatR]

theorem flatR_get : ∀ {xs : List (It Int)} {i : Nat} {x : It Int}, xs[i]? = some x → ∀ j, j < 2 → (flatR xs)[i * 2 + j]? = (cellsR x)[j]?
  | a :: r, 0, x, h, j, hj => by
    simp only [List.getElem?_cons_zero, Option.some.injEq] at h
    subst h
    unfold flatR
    rw [List.flatMap_cons, List.getElem?_append_left (by simp [cellsR]; omega)]
    simp
  | a :: r, i + 1, x, h, j, hj => by
    simp only [List.getElem?_cons_succ] at h
    have ih := flatR_get (xs := r) h j hj
    unfold flatR at ih ⊢
    rw [List.flatMap_cons, List.getElem?_append_right (by simp [cellsR]; omega)]
    rw [show (i + 1) * 2 + j - (cellsR a).length = i * 2 + j by simp [cellsR]; omega]
    exact ih

/-- A heap of the document. -/
structure Rq (w : World) (K : Nat → Nat) (g : Nat) (R : List (It Int)) : Prop where
  is : ∃ v, w.heap[g]? = some (.cells #[v] 60 (0, 0)) ∧ w.ownsRow 0 65 2 v R.length (flatR R) ∧ v.ownBlock ≠ some g ∧ ∀ k, v.ownBlock = some k → K k ≠ 0
  kg : K g ≠ 0
  sup : ∀ k, K k ≠ 0 → k < w.heap.size

theorem Rq.far {w w' : World} {K : Nat → Nat} {g : Nat} {R : List (It Int)} (h : Rq w K g R) (hs : w.heap.size ≤ w'.heap.size) (hb : ∀ k, K k ≠ 0 → w'.heap[k]? = w.heap[k]?) : Rq w' K g R := by
  obtain ⟨v, a, b, c, d⟩ := h.is
  exact ⟨⟨v, (hb g h.kg).trans a, row_move b fun k hk => hb k (d k hk), c, d⟩, h.kg, fun k hk => Nat.lt_of_lt_of_le (h.sup k hk) hs⟩

theorem Rq.drewN {w : World} {K : Nat → Nat} {g : Nat} {R : List (It Int)} (h : Rq w K g R) (q : Nat) : Rq (w.drewN q) K g R := h.far (Nat.le_refl _) (fun _ _ => rfl)

theorem rnew_any (w : World) : Calls Try.prog 10 #[] w fun e w' => e = .returned (.pointer (some ⟨w.heap.size, 0, none⟩)) ∧ w' = w.alloc (.cells #[.slice none 0 0] 60) := by
  go_enter Try.func10, Try.ntmps10
  go_wp2
  go_ret
  exact ⟨rfl, rfl⟩

theorem rlen_any {w : World} {K : Nat → Nat} {g : Nat} {R : List (It Int)} (h : Rq w K g R) : Calls Try.prog 16 #[.pointer (some ⟨g, 0, none⟩)] w fun e w' => e = .returned (.int .i64 R.length) ∧ w' = w := by
  obtain ⟨v, a, b, c, d⟩ := h.is
  obtain ⟨ad, cp, rfl⟩ := row_shape b
  have h0 : w.cell? ⟨g, 0, none⟩ = some (.slice ad R.length cp) := cellOf a rfl
  go_enter Try.func16, Try.ntmps16
  go_wp2
  go_ret
  exact ⟨rfl, rfl⟩

/-- Where the row lies, if it has anything. -/
theorem Rq.row {w : World} {K : Nat → Nat} {g : Nat} {R : List (It Int)} (h : Rq w K g R) (hn : 0 < R.length) : ∃ b cap, K b ≠ 0 ∧ w.cell? ⟨g, 0, none⟩ = some (.slice (some ⟨b, 0, none⟩) R.length cap) ∧ R.length ≤ cap ∧ cap ≤ maxLen ∧ ∀ i, i < R.length → w.cell? ⟨b, i * 2, none⟩ = some (.int .i64 (pt R i).key) ∧ w.cell? ⟨b, i * 2 + 1, none⟩ = some (.int .i64 (pt R i).val) := by
  obtain ⟨v, a, b, c, d⟩ := h.is
  have hc := @World.ownsRow.cells _ _ _ _ _ _ _ b
  rcases b.2 with ⟨rfl, h0⟩ | ⟨g', cap, cur, rfl, _, _, h3, h4, _, _⟩
  · omega
  · refine ⟨g', cap, d g' rfl, cellOf a rfl, h3, h4, fun i hi => ?_⟩
    have q : ∀ j, j < 2 → ∀ u, (cellsR (pt R i))[j]? = some u → w.cell? ⟨g', i * 2 + j, none⟩ = some u := fun j hj u hu => by
      have := hc (g := g') rfl (i * 2 + j) u ((flatR_get (pt_get hi) j hj).trans hu)
      rw [Addr.add_lit, Nat.zero_add] at this
      exact this
    exact ⟨q 0 (by omega) _ rfl, q 1 (by omega) _ rfl⟩

theorem fst_step {R : List (It Int)} (k : Nat) : fstTo R (k + 1) = if (pt R k).key < (pt R (fstTo R k)).key then k else fstTo R k := rfl

set_option maxHeartbeats 1000000 in
theorem rfirst_any {w : World} {K : Nat → Nat} {g : Nat} {R : List (It Int)} (h : Rq w K g R) (hR : R.length ≤ 6000000000000) : Calls Try.prog 31 #[.pointer (some ⟨g, 0, none⟩)] w fun e w' => e = .returned (.int .i64 (if R = [] then -1 else (fstTo R R.length : Int))) ∧ ∃ n, w' = w.drewN n := by
  by_cases hn : R = []
  · subst hn
    obtain ⟨v, a, b, c, d⟩ := h.is
    obtain ⟨ad, cp, rfl⟩ := row_shape b
    have h0 : w.cell? ⟨g, 0, none⟩ = some (.slice ad 0 cp) := cellOf a rfl
    clear a b c d
    go_enter Try.func31, Try.ntmps31
    go_wp2
    go_loopw [3, 4] (fun b i wr => b = .int .i64 (-1) ∧ i = .int .i64 0 ∧ wr = w) (fun _ _ _ => 0)
    case atStart => exact ⟨rfl, rfl, rfl⟩
    case round =>
      obtain ⟨rfl, rfl, rfl⟩ := hrel
      go_wp2
      go_ret
      exact ⟨rfl, 0, rfl⟩
  · have hpos : 0 < R.length := List.length_pos_iff.2 hn
    obtain ⟨b, cap, _, h0, _, _, hcell⟩ := h.row hpos
    have HC := hide hcell
    rw [if_neg hn]
    clear hcell hn
    go_enter Try.func31, Try.ntmps31
    go_wp2
    go_loopw [3, 4] (fun bv iv wr => ∃ (k q : Nat) (f : Int), bv = .int .i64 f ∧ iv = .int .i64 k ∧ k ≤ R.length ∧ wr = w.drewN q ∧ Hid (f = if k = 0 then -1 else (fstTo R k : Int))) (fun _ iv _ => R.length - (intOf iv).toNat)
    case atStart => exact ⟨0, 0, -1, rfl, rfl, Nat.zero_le _, rfl, rfl⟩
    case round =>
      obtain ⟨k, q, f, rfl, rfl, hk, rfl, HF⟩ := hrel
      by_cases hlt : k < R.length
      · have hlt' : (k : Int) < (R.length : Int) := by omega
        by_cases hk0 : k = 0
        · subst hk0
          obtain rfl : f = -1 := by have := HF.out; simpa using this
          go_wp2
          go_quiet (fail)
          go_wp2
          go_roundw
          case rel => exact ⟨1, _, _, rfl, rfl, by omega, rfl, by show _ = _; rw [if_neg (by omega), fst_step]; split <;> rfl⟩
          case measure => simp [intOf]; omega
        · have hfl := fstTo_lt R k (by omega)
          obtain ⟨j, hj⟩ : ∃ j, fstTo R k = j := ⟨_, rfl⟩
          have HS := hide (fst_step (R := R) k)
          have e := HF.out
          rw [if_neg hk0, hj] at e
          rw [hj] at hfl HS
          subst e
          obtain ⟨c1, _⟩ := HC.out k hlt
          obtain ⟨c2, _⟩ := HC.out j (by omega)
          have hf0 : ¬ (j : Int) < 0 := by omega
          have hf1 : (j : Int) < (R.length : Int) := by omega
          clear HF hj
          by_cases hl : (pt R k).key < (pt R j).key
          · have e1 := HS.out
            rw [if_pos hl] at e1
            have HE := hide e1
            clear e1 HS
            go_wp2
            go_quiet (fail)
            go_wp2
            go_roundw
            case rel => exact ⟨k + 1, _, _, rfl, by go_num, by omega, rfl, by show _ = _; rw [if_neg (by omega), HE.out]⟩
            case measure => simp [intOf]; omega
          · have e1 := HS.out
            rw [if_neg hl] at e1
            have HE := hide e1
            clear e1 HS
            go_wp2
            go_quiet (fail)
            go_wp2
            go_roundw
            case rel => exact ⟨k + 1, _, _, rfl, by go_num, by omega, rfl, by show _ = _; rw [if_neg (by omega), HE.out]⟩
            case measure => simp [intOf]; omega
      · obtain rfl : k = R.length := by omega
        have e := HF.out
        rw [if_neg (by omega)] at e
        have HE := hide e
        clear e HF
        go_wp2
        go_ret
        exact ⟨by rw [HE.out]; rfl, q, rfl⟩

end Go.Proofs.Ytjhgjohnfkgleab
