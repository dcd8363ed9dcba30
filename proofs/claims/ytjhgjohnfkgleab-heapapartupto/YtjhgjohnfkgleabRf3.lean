import Derived.Test.YtjhgjohnfkgleabRf2
namespace Go.Proofs.Ytjhgjohnfkgleab
open Go.RowKit Go.Maps
set_option maxRecDepth 20000

/-- What stands in the loop of the document's Pop. -/
structure Popping (w wr : World) (R : List (It Int)) (f k : Nat) (v : Value) : Prop where
  bel : Below w.heap.size w wr
  row : wr.ownsRow (w.heap.size + 1) 65 2 v (skip R f k).length (flatR (skip R f k))
  box : wr.cell? ⟨w.heap.size, 0, none⟩ = some (.int .i64 (pt R f).key) ∧ wr.cell? ⟨w.heap.size, 1, none⟩ = some (.int .i64 (pt R f).val)
  sz : w.heap.size + 1 ≤ wr.heap.size

theorem World.ownsRow.base0 {w : World} {base : Nat} {e : TypeId} {size : Nat} {v : Value} {n : Nat} {xs : List Value} (h : w.ownsRow base e size v n xs) : w.ownsRow 0 e size v n xs := by
  refine ⟨h.1, ?_⟩
  rcases h.2 with h2 | ⟨g, cap, cur, rfl, h1, r⟩
  · exact .inl h2
  · exact .inr ⟨g, cap, cur, rfl, Nat.zero_le _, r⟩

theorem Popping.cell {w wr : World} {R : List (It Int)} {f k : Nat} {v u : Value} {a : Addr} (h : Popping w wr R f k v) (ha : w.cell? a = some u) : wr.cell? a = some u := (h.bel.cell (World.block_lt_of_cell? _ _ ha)).trans ha

theorem Popping.app {w wr w' : World} {R : List (It Int)} {f k g cap : Nat} {v : Value} (h : Popping w wr R f k v) (hk : k < R.length) (hkf : k ≠ f)
    (hown : w'.ownsRow (w.heap.size + 1) 65 2 (.slice (some ⟨g, 0, none⟩) ((skip R f k).length + 1) cap) ((skip R f k).length + 1) (flatR (skip R f k ++ [pt R k]))) (hgrow : wr.grownBy w' v.ownBlock) : Popping w w' R f (k + 1) (.slice (some ⟨g, 0, none⟩) ((skip R f k).length + 1) cap) := by
  have hlo : ∀ b, v.ownBlock = some b → w.heap.size + 1 ≤ b := fun b hb => (World.ownsRow.lt h.row b hb).1
  have hsz := h.sz
  have hX : ∀ o, w'.cell? ⟨w.heap.size, o, none⟩ = wr.cell? ⟨w.heap.size, o, none⟩ := fun o => World.cell?_of_block (hgrow.block w.heap.size (by omega) (fun e => by have := hlo _ e.symm; omega))
  refine ⟨h.bel.grown hgrow h.bel.size (fun b hb => by have := hlo b hb; omega), ?_, ⟨(hX 0).trans h.box.1, (hX 1).trans h.box.2⟩, Nat.le_trans hsz hgrow.size⟩
  rw [skip_on hk hkf, List.length_append]
  exact hown

theorem pop_fin {w wr : World} {K : Nat → Nat} {g : Nat} {R : List (It Int)} {f : Nat} {v : Value} (h : Rq w K g R) (hp : Popping w wr R f R.length v) :
    ∃ K', Rq (wr.setCell ⟨g, 0, none⟩ v) K' g (skip R f R.length) ∧ Fr K K' w (wr.setCell ⟨g, 0, none⟩ v) := by
  obtain ⟨v0, hhd, _, _, _⟩ := h.is
  have hgl := heap_lt hhd
  have er : wr.heap[g]? = _ := (hp.bel.block g hgl).trans hhd
  have hlo : ∀ b, v.ownBlock = some b → w.heap.size + 1 ≤ b ∧ b < wr.heap.size := fun b hb => World.ownsRow.lt hp.row b hb
  have hs := hp.sz
  refine ⟨fun k => if k < w.heap.size then K k else if v.ownBlock = some k then 1 else 0, ⟨⟨v, by rw [heap_setCell_at _ er]; rfl, ?_, fun e => ?_, fun k hk => ?_⟩, ?_, fun k hk => ?_⟩, ⟨hp.bel.os, hp.bel.tape, hp.bel.output, by rw [size_setCell]; omega, fun k hk h0 => ?_, fun k hk => by simp only [if_pos hk]⟩⟩
  · refine row_move (World.ownsRow.base0 hp.row) fun k hk => setCell_others _ _ _ _ _ ?_
    have := hlo k hk
    omega
  · have := hlo g e
    omega
  · have := hlo k hk
    have hk' : ¬ k < w.heap.size := by omega
    simp [hk', hk]
  · simp only [if_pos hgl]; exact h.kg
  · rw [size_setCell]
    by_cases hl : k < w.heap.size
    · omega
    · simp only [if_neg hl] at hk
      by_cases e : v.ownBlock = some k
      · exact (hlo k e).2
      · simp [e] at hk
  · rw [setCell_others _ _ _ _ _ (fun e => h.kg (by rw [← e]; exact h0))]
    exact hp.bel.block k hk

set_option maxHeartbeats 2000000 in
theorem rpop_any {w : World} {K : Nat → Nat} {g : Nat} {R : List (It Int)} (h : Rq w K g R) (hR : R.length ≤ 5864062014804) :
    Calls Try.prog 14 #[.pointer (some ⟨g, 0, none⟩)] w fun e w' => e = .returned (.tuple #[.int .i64 (pkK R), .int .i64 (pkV R), .bool (pkB R)]) ∧ ∃ K', Rq w' K' g (rest R) ∧ Fr K K' w w' := by
  have hf := rfirst_any h (by omega)
  by_cases hn : R = []
  · subst hn
    rw [if_pos rfl] at hf
    go_enter Try.func14, Try.ntmps14
    go_wp2_with fail
    refine hf.mono ?_
    rintro e w1 ⟨rfl, q, rfl⟩
    go_wp2
    go_ret3
    exact ⟨by simp [pkK, pkV, pkB], K, h.drewN q, (Fr.refl K w).drewN q⟩
  · have hpos : 0 < R.length := List.length_pos_iff.2 hn
    have hlt := fstTo_lt R R.length hpos
    rw [if_neg hn] at hf
    have HK := hide (show pkK R = (pt R (fstTo R R.length)).key by unfold pkK; rw [if_neg hn])
    have HV := hide (show pkV R = (pt R (fstTo R R.length)).val by unfold pkV; rw [if_neg hn])
    have HB := hide (show pkB R = true by simp [pkB, hn])
    have HRE := hide (show rest R = skip R (fstTo R R.length) R.length by rw [skip_all]; rfl)
    obtain ⟨f, hfe⟩ : ∃ f, fstTo R R.length = f := ⟨_, rfl⟩
    rw [hfe] at hf hlt HK HV HRE
    have hf0 : ¬ (f : Int) < 0 := by omega
    have hf1 : (f : Int) < (R.length : Int) := by omega
    clear hfe hn
    go_enter Try.func14, Try.ntmps14
    go_wp2_with fail
    refine hf.mono ?_
    rintro e w1 ⟨rfl, q, hw1⟩
    have hq := h.drewN q
    have HFR := hide ((Fr.refl K w).drewN q)
    rw [← hw1] at hq HFR
    clear hw1 hf
    obtain ⟨b, cap, hkb, h0, _, _, hcell⟩ := hq.row hpos
    obtain ⟨c1, c2⟩ := hcell _ hlt
    have HC := hide hcell
    have HQ := hide hq
    clear hcell hq
    go_wp2
    go_loopw [7, 8] (fun rv jv wr => ∃ k : Nat, jv = .int .i64 k ∧ k ≤ R.length ∧ Hid (Popping w1 wr R f k rv)) (fun _ jv _ => R.length - (intOf jv).toNat)
    case atStart =>
      refine ⟨0, rfl, Nat.zero_le _, ⟨?_, World.ownsRow_nil _ _ _ _, ?_, ?_⟩⟩
      · exact (Below.refl _ _).alloc (Nat.le_refl _) _
      · exact ⟨cellOf (heap_alloc_new w1 _) rfl, cellOf (heap_alloc_new w1 _) rfl⟩
      · rw [size_alloc']; exact Nat.le_refl _

    case round =>
      obtain ⟨k, rfl, hk, HP⟩ := hrel
      obtain ⟨va, vc, hv⟩ := row_shape HP.out.row
      subst hv
      have e0 := HP.out.cell h0
      by_cases hkl : k < R.length
      · have hkl' : (k : Int) < (R.length : Int) := by omega
        obtain ⟨d1, d2⟩ := HC.out k hkl
        have d1 := HP.out.cell d1
        have d2 := HP.out.cell d2
        by_cases hkf : k = f
        · subst hkf
          have HE := hide (skip_at hkl rfl)
          go_wp2
          go_roundw
          case rel => exact ⟨k + 1, by go_num, by omega, HP.out.bel, by rw [HE.out]; exact HP.out.row, HP.out.box, HP.out.sz⟩
          case measure => simp [intOf]; omega
        · have hkf' : ¬ (k : Int) = (f : Int) := by omega
          have hkf2 : ((k : Int) != (f : Int)) = true := by simpa using hkf'
          have HROW := hide HP.out.row
          have hsl := skip_len R f k
          have hsz := HP.out.sz
          obtain ⟨y, hy⟩ : ∃ y, pt R k = y := ⟨_, rfl⟩
          rw [hy] at d1 d2
          have HY := hide hy
          clear hy
          go_wp2_with (at_builtin; refine wpList_rit rfl _ _ rfl (w1.heap.size + 1) _ (skip R f k) y HROW.out _ rfl rfl (by omega) hsz ?_)
          intro gg cp w6 hown hgrow hat hlt6
          have HP2 := hide (HP.out.app hkl hkf (by rw [HY.out]; exact hown) hgrow)
          clear hown hgrow hat hlt6
          go_wp2
          go_roundw
          case rel => exact ⟨k + 1, by go_num, by omega, HP2.out⟩
          case measure => simp [intOf]; omega
      · obtain rfl : k = R.length := by omega
        obtain ⟨_, hhd, _, hng, hkv⟩ := HQ.out.is
        have hgl := heap_lt hhd
        have er : wr.heap[g]? = _ := (HP.out.bel.block g hgl).trans hhd
        have fr := frozenOf (k := 0) er
        obtain ⟨x1, x2⟩ := HP.out.box
        have hgw : ¬ g = w1.heap.size := by omega
        have HF := hide (pop_fin HQ.out HP.out)
        have HRW := hide HFR
        clear er hhd hng hkv
        go_wp2
        go_quiet (fail)
        go_wp2
        go_ret3
        obtain ⟨K', q1, q2⟩ := HF.out
        refine ⟨by rw [HK.out, HV.out, HB.out]; rfl, K', ?_, ?_⟩
        · rw [HRE.out]; exact q1.drewN _
        · exact (HFR.out.trans q2).drewN _

end Go.Proofs.Ytjhgjohnfkgleab
