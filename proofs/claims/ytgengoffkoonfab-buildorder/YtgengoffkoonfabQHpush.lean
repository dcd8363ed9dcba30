import Derived.Test.YtgengoffkoonfabQHops
namespace Go.Proofs.Ytgengoffkoonfab.H4
open Go.RowKit Go.Maps
set_option maxRecDepth 20000

theorem infoIt : (Try.prog.info? 125).map (fun i => (i.zero, i.size, i.bytes)) = some (some (.agg #[.int .i64 0, .int .i64 0, .int .i64 0]), 3, 24) := by kernel_rfl

theorem row_move {w w' : World} {base : Nat} {e : TypeId} {size : Nat} {v : Value} {n : Nat} {xs : List Value} (h : w.ownsRow base e size v n xs) (hb : ∀ k, v.ownBlock = some k → w'.heap[k]? = w.heap[k]?) : w'.ownsRow base e size v n xs := by
  refine ⟨h.1, ?_⟩
  rcases h.2 with h2 | ⟨g, cap, cur, rfl, h1, h2, r⟩
  · exact .inl h2
  · exact .inr ⟨g, cap, cur, rfl, h1, (hb g rfl).trans h2, r⟩

theorem row_shape {w : World} {base : Nat} {e : TypeId} {size : Nat} {v : Value} {n : Nat} {xs : List Value} (h : w.ownsRow base e size v n xs) : ∃ a c, v = .slice a n c := by
  rcases h.2 with ⟨rfl, rfl⟩ | ⟨g, cap, cur, rfl, _⟩
  · exact ⟨none, 0, rfl⟩
  · exact ⟨_, _, rfl⟩

theorem row_lt {w : World} {base : Nat} {e : TypeId} {size : Nat} {v : Value} {n : Nat} {xs : List Value} (h : w.ownsRow base e size v n xs) : ∀ k, v.ownBlock = some k → k < w.heap.size := fun k hk => (World.ownsRow.lt h k hk).2

theorem heap_lt {w : World} {g : Nat} {o : Obj} (h : w.heap[g]? = some o) : g < w.heap.size := (Array.getElem?_eq_some_iff.1 h).1

/-- What an append and the two stores leave. -/
theorem push_fin {w w6 : World} {K : Nat → Nat} {g gg cap6 : Nat} {R xs : List (It Int)} {n : Nat} {v : Value} {key val : Int} (h : Hq w K g R n) (hhead : w.heap[g]? = some (.cells #[v, .int .i64 n] 123 (0, 0))) (hng : v.ownBlock ≠ some g) (hkv : ∀ k, v.ownBlock = some k → K k ≠ 0)
    (hown : w6.ownsRow 0 125 3 (.slice (some ⟨gg, 0, none⟩) (xs.length + 1) cap6) (xs.length + 1) (flatI xs ++ [.int .i64 key, .int .i64 n, .int .i64 val]))
    (hgrow : (w.alloc (.cells #[.int .i64 key, .int .i64 n, .int .i64 val] 125)).grownBy w6 v.ownBlock) (hat : v.ownBlock = some gg ∨ gg = w.heap.size + 1) (hlt : gg < w6.heap.size) :
    At ((w6.setCell ⟨g, 0, none⟩ (.slice (some ⟨gg, 0, none⟩) (xs.length + 1) cap6)).setCell ⟨g, 1, none⟩ (.int .i64 ((n : Int) + 1))) g gg cap6 (xs ++ [⟨key, n, val⟩]) ((n : Int) + 1) ∧
    ∀ ys w7, At w7 g gg cap6 ys ((n : Int) + 1) → Only ((w6.setCell ⟨g, 0, none⟩ (.slice (some ⟨gg, 0, none⟩) (xs.length + 1) cap6)).setCell ⟨g, 1, none⟩ (.int .i64 ((n : Int) + 1))) w7 gg → Holds ys (R ++ [⟨key, n, val⟩]) ((n : Int) + 1) →
      ∃ K', Hq w7 K' g (R ++ [⟨key, n, val⟩]) (n + 1) ∧ Fr K K' w w7 := by
  have hgl := heap_lt hhead
  have hs := hgrow.size
  rw [size_alloc'] at hs
  have e6 : w6.heap[g]? = some (.cells #[v, .int .i64 n] 123 (0, 0)) := by
    rw [hgrow.block g (by rw [size_alloc']; omega) (fun e => hng e.symm), Below.heap_alloc _ _ g hgl]; exact hhead
  have hne : g ≠ gg := by
    rcases hat with e | e
    · intro e2; exact hng (by rw [e, e2])
    · omega
  have e7 : ((w6.setCell ⟨g, 0, none⟩ (.slice (some ⟨gg, 0, none⟩) (xs.length + 1) cap6)).setCell ⟨g, 1, none⟩ (.int .i64 ((n : Int) + 1))).heap[g]? = some (.cells #[.slice (some ⟨gg, 0, none⟩) (xs.length + 1) cap6, .int .i64 ((n : Int) + 1)] 123 (0, 0)) := by
    exact heap_setCell_at _ (heap_setCell_at _ e6)
  refine ⟨?_, fun ys w7 hA hO hH => ?_⟩
  · rcases hown.2 with ⟨c, _⟩ | ⟨g', cap, cur, c, _, q1, q2, q3, q4, q5⟩
    · cases c
    · simp only [Value.slice.injEq, Option.some.injEq, Addr.mk.injEq] at c
      obtain ⟨⟨rfl, -, -⟩, -, rfl⟩ := c
      refine ⟨by rw [e7, List.length_append]; rfl, ⟨cur, ?_, q4, ?_⟩, by rw [List.length_append]; exact q2, q3, hne⟩
      · rw [setCell_others _ _ _ _ _ (fun e => hne e.symm), setCell_others _ _ _ _ _ (fun e => hne e.symm)]
        exact q1
      · rw [List.length_append, flatI_snoc]; exact q5
  · have hsz : w7.heap.size = w6.heap.size := by rw [hO.size, size_setCell, size_setCell]
    refine ⟨fun k => if k < w.heap.size then K k else if k = gg then 1 else 0, ⟨.inr ⟨gg, cap6, ys, ?_, ?_, ?_⟩, ?_, fun k hk => ?_⟩, ⟨hO.os.trans hgrow.os, hO.tape.trans hgrow.tape, hO.output.trans hgrow.output, by omega, fun k hk h0 => ?_, fun k hk => by simp only [if_pos hk]⟩⟩
    · rw [show ((n + 1 : Nat) : Int) = (n : Int) + 1 by omega]; exact hA
    · rw [show ((n + 1 : Nat) : Int) = (n : Int) + 1 by omega]; exact hH
    · by_cases hl : gg < w.heap.size
      · simp only [if_pos hl]
        rcases hat with e | e
        · exact hkv gg e
        · omega
      · simp [hl]
    · simp only [if_pos hgl]; exact h.kg
    · by_cases hl : k < w.heap.size
      · omega
      · simp only [if_neg hl] at hk
        by_cases e : k = gg
        · omega
        · simp [e] at hk
    · have hkg : k ≠ g := fun e => h.kg (by rw [← e]; exact h0)
      have hkk : k ≠ gg := by
        rcases hat with e | e
        · intro e2; exact hkv gg e (by rw [← e2]; exact h0)
        · omega
      rw [hO.block k hkk, setCell_others _ _ _ _ _ hkg, setCell_others _ _ _ _ _ hkg]
      exact (hgrow.block k (by rw [size_alloc']; omega) (fun e => hkv k e.symm h0)).trans (Below.heap_alloc _ _ k hk)

set_option maxHeartbeats 1000000 in
theorem push_any {w : World} {K : Nat → Nat} {g : Nat} {R : List (It Int)} {n : Nat} (h : Hq w K g R n) (key val : Int) (hR : R.length ≤ 5864062014804) (hn : n ≤ 10000000000000) :
    Calls Try.prog 60 #[.pointer (some ⟨g, 0, none⟩), .int .i64 key, .int .i64 val] w fun e w' => e = .returned (.tuple #[]) ∧ ∃ K', Hq w' K' g (R ++ [⟨key, n, val⟩]) (n + 1) ∧ Fr K K' w w' := by
  obtain ⟨v, xs, hhead, hrow, hH, hng, hkv⟩ := h.open
  have hgl := heap_lt hhead
  have hrl := row_lt hrow
  obtain ⟨a, p, rfl⟩ := row_shape hrow
  have hL : xs.length ≤ 5864062014804 := by rw [hH.len]; exact hR
  have c0 : w.cell? ⟨g, 0, none⟩ = some (.slice a xs.length p) := cellOf hhead rfl
  have c1 : w.cell? ⟨g, 1, none⟩ = some (.int .i64 n) := cellOf hhead rfl
  have k0 : (w.alloc (.cells #[.int .i64 key, .int .i64 n, .int .i64 val] 125)).cell? ⟨g, 0, none⟩ = some (.slice a xs.length p) := cellAlloc _ c0
  have HROW : Hid (∀ W : World, W.heap = (w.alloc (.cells #[.int .i64 key, .int .i64 n, .int .i64 val] 125)).heap → W.ownsRow 0 125 3 (.slice a xs.length p) xs.length (flatI xs)) := fun W hW => row_move hrow fun x hx => by rw [hW]; exact Below.heap_alloc _ _ x (hrl x hx)
  have HG6 : Hid (∀ (w5 w6 : World), w5.heap = (w.alloc (.cells #[.int .i64 key, .int .i64 n, .int .i64 val] 125)).heap → w5.grownBy w6 (Value.slice a xs.length p).ownBlock → (w6.cell? ⟨g, 0, none⟩ = some (.slice a xs.length p) ∧ w6.cell? ⟨g, 1, none⟩ = some (.int .i64 n)) ∧ w6.frozen? ⟨g, 0, none⟩ = false ∧ w6.frozen? ⟨g, 1, none⟩ = false) := fun w5 w6 h5 hg => by
    have e1 : w6.heap[g]? = some (.cells #[.slice a xs.length p, .int .i64 n] 123 (0, 0)) := by
      rw [hg.block g (by rw [h5, size_alloc']; omega) (fun e => hng e.symm), h5, Below.heap_alloc _ _ g hgl]; exact hhead
    exact ⟨⟨cellOf e1 rfl, cellOf e1 rfl⟩, frozenOf e1, frozenOf e1⟩
  obtain ⟨i0, hi0, hz0, hz1, hz2⟩ := info_parts infoIt
  have HI0 := hide hi0
  have HZ0 := hide hz0
  have HZ1 := hide hz1
  have HZ2 := hide hz2
  have HP1 : Hid (0 < 1) := by show 0 < 1; omega
  have HP3 : Hid (0 < 3) := by show 0 < 3; omega
  have HPM : Hid (xs.length + 1 ≤ maxLen) := by show _ ≤ _; unfold maxLen; omega
  have HPB : Hid ((xs.length + 1) * 24 ≤ 140737488355328) := by show _ ≤ _; omega
  have H1C : Hid (∀ u ∈ [Value.int .i64 key, .int .i64 n, .int .i64 val], u.oneCell' = true) := fun u hu => by
    rcases List.mem_cons.1 hu with rfl | hu
    · rfl
    · rcases List.mem_cons.1 hu with rfl | hu
      · rfl
      · rw [List.mem_singleton.1 hu]; rfl
  have HH := hide hH
  have HQ := hide h
  have HHEAD := hide hhead
  have HNG := hide hng
  have HKV := hide hkv
  clear hi0 hz0 hz1 hz2 hrow hH h hhead hng hkv hrl hR
  go_enter Try.func60, Try.ntmps60
  go_wp2
  go_region_law (refine step_append_lies _ (by rfl) _ _ _ (by rfl) 0 125 i0 _ 3 24 Try.underlying121 HI0.out HZ0.out HZ1.out HZ2.out rfl HP3.out (.slice a xs.length p) xs.length (flatI xs) (by simp [Act.eval]) (HROW.out _ (by rfl)) ⟨w.heap.size, 0, none⟩ 1 1 [.int .i64 key, .int .i64 n, .int .i64 val] (by simp [Act.eval]) (by rfl) (World.news_of_block (cs := #[.int .i64 key, .int .i64 n, .int .i64 val]) (t := 125) (fr := (0, 0)) (heap_alloc_new w _)) H1C.out HP1.out HPM.out HPB.out (Nat.zero_le _) (w.heap.size + 1) (by simp) ?_; intro gg cap6 w6 hown6 hgrow6 hat6 hlt6; obtain ⟨⟨t0, t1⟩, tf0, tf1⟩ := HG6.out _ w6 (by rfl) hgrow6; have HALL := hide (And.intro hown6 (And.intro hgrow6 (And.intro hat6 hlt6))); clear hown6 hgrow6 hat6 hlt6)
  all_goals
    obtain ⟨hown6, hgrow6, hat6, hlt6⟩ := HALL.out
    obtain ⟨hA7, hfin⟩ := push_fin HQ.out HHEAD.out HNG.out HKV.out hown6 ⟨hgrow6.os, hgrow6.tape, hgrow6.output, hgrow6.size, fun k hk hne => hgrow6.block k hk hne⟩ hat6 hlt6
    have HA7 := hide hA7
    have HFIN := hide hfin
    have hgg : ¬ gg = g := fun e => hA7.ne e.symm
    clear hown6 hgrow6 hat6 hlt6 HALL hA7 hfin c0 c1 k0
    go_wp2_with fail
    refine (rise_at HA7.out xs.length (by simp) (by simp; omega) (up_snoc HH.out.tree _)).mono ?_
    rintro e w7 ⟨rfl, ys, q1, q2, q3, q4⟩
    have hf2 := HFIN.out ys w7 q1 q2 (HH.out.push ⟨key, n, val⟩ rfl q3 q4)
    go_wp2
    (try simp only [Exit.inBlock, Exit.then]); refine bodyPost_end (results_none rfl _ _ _) rfl ?_
    exact ⟨rfl, hf2⟩

end Go.Proofs.Ytgengoffkoonfab.H4
