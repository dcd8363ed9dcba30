import Derived.Test.YtjhgjohnfkgleabRf
namespace Go.Proofs.Ytjhgjohnfkgleab
open Go.RowKit Go.Maps
set_option maxRecDepth 20000

theorem infoRit : (Try.prog.info? 65).map (fun i => (i.zero, i.size, i.bytes)) = some (some (.agg #[.int .i64 0, .int .i64 0]), 2, 16) := by kernel_rfl

/-- One item is put behind a row of the document's items. -/
theorem wpList_rit {w : World} {ops : Array Oper} {rest : List Oper} {o : Oper} {a : Act} {Q : Exit → Act → World → Prop} (hgd : o.guard = none) (s x : Operand)
    (ho : o.op = .call { callee := .builtin .append, args := #[s, x], argTypes := #[58, 58] }) (base : Nat) (v : Value) (R : List (It Int)) (y : It Int) (hown : w.ownsRow base 65 2 v R.length (flatR R))
    (c : Nat) (hs : a.eval s = v) (hx : a.eval x = .slice (some ⟨w.heap.size, 0, none⟩) 1 c) (hn : R.length ≤ 6000000000000) (hb : base ≤ w.heap.size)
    (h : ∀ g cap w', w'.ownsRow base 65 2 (.slice (some ⟨g, 0, none⟩) (R.length + 1) cap) (R.length + 1) (flatR (R ++ [y])) → w.grownBy w' v.ownBlock → (v.ownBlock = some g ∨ w.heap.size ≤ g) → g < w'.heap.size →
      wpList Try.prog ops Q rest (a.put o.dst (.slice (some ⟨g, 0, none⟩) (R.length + 1) cap)) w') :
    wpList Try.prog ops Q (o :: rest) a (w.alloc (.cells #[.int .i64 y.key, .int .i64 y.val] 65)) := by
  obtain ⟨i0, hi0, hz0, hz1, hz2⟩ := info_parts infoRit
  refine wpList_append_lies _ hgd s x 58 ho base 65 i0 _ 2 16 Try.underlying58 hi0 hz0 hz1 hz2 rfl (by omega) v R.length (flatR R) hs (hown.alloc _) ⟨w.heap.size, 0, none⟩ 1 c (cellsR y) hx rfl (World.news_of_block (cs := #[.int .i64 y.key, .int .i64 y.val]) (t := 65) (fr := (0, 0)) (heap_alloc_new w _)) (fun u hu => ?_) (by omega) (by unfold maxLen; omega) (by omega) (by rw [size_alloc']; omega) (w.heap.size + 1) (size_alloc' _ _) ?_
  · rcases List.mem_cons.1 hu with rfl | hu
    · rfl
    · rw [List.mem_singleton.1 hu]; rfl
  · intro g cap w' h1 h2 h3 h4
    refine h g cap w' (by rw [flatR_snoc]; exact h1) ((World.grownBy_alloc w _ _).trans h2) (h3.elim .inl (fun e => .inr (by omega))) h4

set_option maxHeartbeats 1000000 in
theorem rpush_any {w : World} {K : Nat → Nat} {g : Nat} {R : List (It Int)} (h : Rq w K g R) (x : It Int) (hR : R.length ≤ 5864062014804) :
    Calls Try.prog 12 #[.pointer (some ⟨g, 0, none⟩), .int .i64 x.key, .int .i64 x.val] w fun e w' => e = .returned (.tuple #[]) ∧ ∃ K', Rq w' K' g (R ++ [x]) ∧ Fr K K' w w' := by
  obtain ⟨v, hhead, hrow, hng, hkv⟩ := h.is
  have hgl := heap_lt hhead
  obtain ⟨a, p, rfl⟩ := row_shape hrow
  have c0 : w.cell? ⟨g, 0, none⟩ = some (.slice a R.length p) := cellOf hhead rfl
  have HROW := hide hrow
  have HHEAD := hide hhead
  have HNG := hide hng
  have HKV := hide hkv
  clear hrow hhead hng hkv
  go_enter Try.func12, Try.ntmps12
  go_wp2_with (at_builtin; refine wpList_rit rfl _ _ rfl 0 _ R x HROW.out _ rfl rfl (by omega) (Nat.zero_le _) ?_)
  intro gg cap w6 hown hgrow hat hlt
  have hne : ¬ gg = g := by
    rcases hat with e | e
    · intro e2; exact HNG.out (by rw [e, e2])
    · omega
  have e6 : w6.heap[g]? = some (.cells #[.slice a R.length p] 60 (0, 0)) := (hgrow.block g hgl (fun e => HNG.out e.symm)).trans HHEAD.out
  have f6 : w6.frozen? ⟨g, 0, none⟩ = false := frozenOf e6
  have d6 : w6.cell? ⟨g, 0, none⟩ = some (.slice a R.length p) := cellOf e6 rfl
  have HF : Hid (∃ K', Rq (w6.setCell ⟨g, 0, none⟩ (.slice (some ⟨gg, 0, none⟩) (R.length + 1) cap)) K' g (R ++ [x]) ∧ Fr K K' w (w6.setCell ⟨g, 0, none⟩ (.slice (some ⟨gg, 0, none⟩) (R.length + 1) cap))) := by
    have hs := hgrow.size
    refine ⟨fun k => if k < w.heap.size then K k else if k = gg then 1 else 0, ⟨⟨_, heap_setCell_at _ e6, ?_, ?_, fun k hk => ?_⟩, ?_, fun k hk => ?_⟩, ⟨hgrow.os, hgrow.tape, hgrow.output, by rw [size_setCell]; exact hs, fun k hk h0 => ?_, fun k hk => by simp only [if_pos hk]⟩⟩
    · rw [List.length_append]
      exact row_move hown fun k hk => setCell_others _ _ _ _ _ (by
        simp only [Value.ownBlock, Option.some.injEq] at hk
        have hk' : gg = k := hk
        omega)
    · show some gg ≠ some g
      simpa using hne
    · have hk' : gg = k := by simpa [Value.ownBlock] using hk
      subst hk'
      by_cases hl : gg < w.heap.size
      · simp only [if_pos hl]
        rcases hat with e | e
        · exact HKV.out gg e
        · omega
      · simp [hl]
    · simp only [if_pos hgl]; exact h.kg
    · rw [size_setCell]
      by_cases hl : k < w.heap.size
      · omega
      · simp only [if_neg hl] at hk
        by_cases e : k = gg
        · omega
        · simp [e] at hk
    · rw [setCell_others _ _ _ _ _ (fun e => h.kg (by rw [← e]; exact h0))]
      exact hgrow.block k hk (fun e => HKV.out k e.symm h0)
  clear hown hgrow hat hlt
  go_wp2
  (try simp only [Exit.inBlock, Exit.then]); refine bodyPost_end (results_none rfl _ _ _) rfl ?_
  exact ⟨rfl, HF.out⟩

set_option maxHeartbeats 1000000 in
theorem rpeek_any {w : World} {K : Nat → Nat} {g : Nat} {R : List (It Int)} (h : Rq w K g R) (hR : R.length ≤ 6000000000000) : Calls Try.prog 33 #[.pointer (some ⟨g, 0, none⟩)] w fun e w' => e = .returned (.tuple #[.int .i64 (pkK R), .int .i64 (pkV R), .bool (pkB R)]) ∧ ∃ n, w' = w.drewN n := by
  have hf := rfirst_any h hR
  by_cases hn : R = []
  · subst hn
    rw [if_pos rfl] at hf
    go_enter Try.func33, Try.ntmps33
    go_wp2_with fail
    refine hf.mono ?_
    rintro e w1 ⟨rfl, q, rfl⟩
    go_wp2
    go_ret3
    exact ⟨by simp [pkK, pkV, pkB], q, rfl⟩
  · have hpos : 0 < R.length := List.length_pos_iff.2 hn
    obtain ⟨b, cap, _, h0, _, _, hcell⟩ := h.row hpos
    have hlt := fstTo_lt R R.length hpos
    obtain ⟨c1, c2⟩ := hcell _ hlt
    rw [if_neg hn] at hf
    have HK := hide (show pkK R = (pt R (fstTo R R.length)).key by unfold pkK; rw [if_neg hn])
    have HV := hide (show pkV R = (pt R (fstTo R R.length)).val by unfold pkV; rw [if_neg hn])
    have HB := hide (show pkB R = true by simp [pkB, hn])
    obtain ⟨f, hfe⟩ : ∃ f, fstTo R R.length = f := ⟨_, rfl⟩
    rw [hfe] at c1 c2 hf hlt HK HV
    have hf0 : ¬ (f : Int) < 0 := by omega
    have hf1 : (f : Int) < (R.length : Int) := by omega
    clear hfe hcell hn
    go_enter Try.func33, Try.ntmps33
    go_wp2_with fail
    refine hf.mono ?_
    rintro e w1 ⟨rfl, q, rfl⟩
    go_wp2
    go_quiet (fail)
    go_wp2
    go_ret3
    exact ⟨by rw [HK.out, HV.out, HB.out]; rfl, _, World.drewN_drewN _ _ _⟩

def skip (R : List (It Int)) (f k : Nat) : List (It Int) := (R.take k).eraseIdx f

theorem skip_at {R : List (It Int)} {f k : Nat} (h : k < R.length) (hk : k = f) : skip R f (k + 1) = skip R f k := by
  subst hk
  unfold skip
  have hl : (R.take k).length = k := by simp; omega
  rw [List.take_succ_eq_append_getElem h, List.eraseIdx_append_of_length_le (by omega), hl, Nat.sub_self, List.eraseIdx_of_length_le (l := R.take k) (by omega)]
  simp

theorem skip_on {R : List (It Int)} {f k : Nat} (h : k < R.length) (hk : k ≠ f) : skip R f (k + 1) = skip R f k ++ [pt R k] := by
  unfold skip
  rw [List.take_succ_eq_append_getElem h, pt_eq h]
  by_cases hl : f < k
  · rw [List.eraseIdx_append_of_lt_length (by simp; omega)]
  · rw [List.eraseIdx_of_length_le (by simp; omega), List.eraseIdx_of_length_le (by simp; omega)]

theorem skip_all (R : List (It Int)) (f : Nat) : skip R f R.length = R.eraseIdx f := by unfold skip; rw [List.take_length]

theorem skip_len (R : List (It Int)) (f k : Nat) : (skip R f k).length ≤ R.length := by
  unfold skip
  exact Nat.le_trans (List.length_eraseIdx_le ..) (by simp; omega)

end Go.Proofs.Ytjhgjohnfkgleab
