import Derived.Test.YtdpoggapenjjfaaGreatDoorG38Inq
namespace Go.Proofs.YtdpoggapenjjfaaGreatDoor
open Go.RowKit Go.Maps
set_option maxRecDepth 20000
set_option linter.unusedVariables false

theorem run_app_own (w : World) (base : Nat) (tx ty : TypeId) (v x : Value) (l news : List Int) (hown : OB w base v l) (hs : Src Tryz.prog 1 tx x news.length (news.map (Value.int .u8)) w)
    (hb : l.length + news.length ≤ 140737488355328) (hbase : base ≤ w.heap.size) :
    ∃ v' w', (Builtin.append_ #[22, tx] ty #[v, x]).run Tryz.prog w = .ok v' w' ∧ OB w' base v' (l ++ news) ∧ Grew w w' v v' ∧ OB w' base v l := by
  obtain ⟨i, hi, hz, hsz, hby⟩ := info_parts info5
  have hs' : Src Tryz.prog i.size tx x news.length (news.map (Value.int .u8)) w := by rw [hsz]; exact hs
  have hkeep : ∀ v' w', OB w' base v' (l ++ news) → Grew w w' v v' → (v'.ownBlock ≠ v.ownBlock ∨ v' = v) → OB w' base v l := by
    intro v' w' ho hg hne
    rcases hg with ⟨e, rfl⟩ | ⟨e, hbel⟩ | ⟨e, hsz2, hgr⟩
    · exact hown
    · exact hown.below hbel (Nat.le_refl _)
    · rcases hne with h | rfl
      · exact absurd e h
      · rcases hown.2 with ⟨rfl, h0⟩ | ⟨g, cap, cur, rfl, hbg, hg, hnc, hcm, hcs, htake⟩
        · obtain rfl : l = [] := List.eq_nil_of_length_eq_zero h0
          exact World.ownsRow_nil _ _ _ _
        · have h1 := ho.1
          rcases ho.2 with ⟨hx, _⟩ | ⟨g', cap', cur', he, q1, q2, q3, q4, q5, q6⟩
          · simp at hx
          · simp only [Value.slice.injEq, Option.some.injEq, Addr.mk.injEq] at he
            obtain ⟨⟨rfl, -, -⟩, hln, rfl⟩ := he
            have : news = [] := by
              have := hln
              rw [List.length_append] at this
              exact List.eq_nil_of_length_eq_zero (by omega)
            subst this
            rw [List.append_nil] at ho
            exact ho
  rcases hown.2 with ⟨rfl, h0⟩ | ⟨g, cap, cur, rfl, hbg, hg, hnc, hcm, hcs, htake⟩
  · obtain ⟨v', w', hr, h1, h2⟩ := run_app w base tx ty _ x l news hown hs hb hbase
    refine ⟨v', w', hr, h1, h2, ?_⟩
    obtain rfl : l = [] := List.eq_nil_of_length_eq_zero h0
    exact World.ownsRow_nil _ _ _ _
  · by_cases hroom : l.length + news.length ≤ cap
    · have hfit : l.length * i.size + (news.map (Value.int .u8)).length ≤ cur.size := by rw [hsz, hcs]; simp; omega
      have hst := run_storeCells_at Tryz.prog g (l.length * i.size) 5 (news.map (Value.int .u8)) 0 cur w hg (by simpa using hfit) hs.one
      simp only [Nat.add_zero] at hst
      have hr : (Builtin.append_ #[22, tx] ty #[.slice (some ⟨g, 0, none⟩) l.length cap, x]).run Tryz.prog w =
          .ok (.slice (some ⟨g, 0, none⟩) (l.length + news.length) cap) (w.setRow g (cur.toList.take (l.length * i.size) ++ news.map (Value.int .u8) ++ cur.toList.drop (l.length * i.size + (news.map (Value.int .u8)).length)).toArray) := by
        rcases hs'.kind with ⟨e', hk⟩ | hk <;> simp [Builtin.append_, run_underlying Tryz.underlying22, run_underlying hk, sizeOf, typeInfo, hi, hs'.len, hroom, hs'.cells, Addr.add_lit, hst]
      have hsize : (cur.toList.take (l.length * i.size) ++ news.map (Value.int .u8) ++ cur.toList.drop (l.length * i.size + (news.map (Value.int .u8)).length)).toArray.size = cap * 1 := by
        rw [hsz]
        simp only [List.size_toArray, List.length_append, List.length_take, List.length_drop, Array.length_toList, List.length_map]
        omega
      refine ⟨_, _, hr, ⟨by simp, .inr ⟨g, cap, _, by rw [List.length_append], hbg, setRow_heap w g cur _ 5 _ hg, by rw [List.length_append]; exact hroom, hcm, hsize, ?_⟩⟩, .inr (.inr ⟨rfl, by simp [World.setRow], ⟨rfl, rfl, rfl, by simp, fun k _ hk => setRow_other w g k _ (fun e => hk (by simp [Value.ownBlock, e]))⟩⟩), ⟨by simp, .inr ⟨g, cap, _, rfl, hbg, setRow_heap w g cur _ 5 _ hg, hnc, hcm, hsize, ?_⟩⟩⟩
      · rw [hsz, htake]
        simp only [List.map_append]
        rw [List.take_append_of_le_length (by simp)]
        exact List.take_of_length_le (by simp)
      · rw [hsz, htake, List.append_assoc, List.take_append_of_le_length (by simp)]
        exact List.take_of_length_le (by simp)
    · obtain ⟨v', w', hr, h1, h2⟩ := run_app w base tx ty _ x l news hown hs hb hbase
      have hn : v'.ownBlock ≠ (Value.slice (some ⟨g, 0, none⟩) l.length cap).ownBlock ∨ v' = Value.slice (some ⟨g, 0, none⟩) l.length cap := by
        rcases h2 with ⟨e, _⟩ | ⟨e, _⟩ | ⟨e, hs2, hg2⟩
        · exact .inr e
        · left
          rw [e]
          have := (hown.lt g rfl).2
          intro q
          simp [Value.ownBlock] at q
          omega
        · exfalso
          have holds : ∀ j u, (l.map (Value.int .u8))[j]? = some u → w.drew.cell? ((⟨g, 0, none⟩ : Addr).add j) = some u := World.ownsRow.cells hown (g := g) rfl
          have hr2 := run_append_grow_src (P := Tryz.prog) w 22 tx ty 5 i (.int .u8 0) Tryz.underlying22 hi hz (some ⟨g, 0, none⟩) l.length cap (l.map (Value.int .u8)) (run_firstCells_some w.drew i.size l.length ⟨g, 0, none⟩ l.length cap _ (by rw [hsz]; simp) holds) x news.length _ hs' (by omega) (by omega) (by rw [hby]; exact growslice_fits (by omega) (by omega))
          rw [hr] at hr2
          injection hr2 with hv hw
          rw [hv] at e
          have := (hown.lt g rfl).2
          simp [Value.ownBlock] at e
          omega
      exact ⟨v', w', hr, h1, h2, hkeep v' w' h1 h2 hn⟩

theorem wpList_appO {w : World} {ops : Array Oper} {rest : List Oper} {o : Oper} {a : Act} {Q : Exit → Act → World → Prop} (hgd : o.guard = none) (s x : Operand) (tx : TypeId)
    (ho : o.op = .call { callee := .builtin .append, args := #[s, x], argTypes := #[22, tx] }) (base : Nat) (v xv : Value) (l news : List Int) (hv : a.eval s = v) (hown : OB w base v l) (hx : a.eval x = xv) (hs : Src Tryz.prog 1 tx xv news.length (news.map (Value.int .u8)) w)
    (hb : l.length + news.length ≤ 140737488355328) (hbase : base ≤ w.heap.size)
    (h : ∀ v' w', OB w' base v' (l ++ news) → Grew w w' v v' → OB w' base v l → wpList Tryz.prog ops Q rest (a.put o.dst v') w') : wpList Tryz.prog ops Q (o :: rest) a w := by
  refine wpList_plain hgd fun K hK => ?_
  obtain ⟨v', w', hr, h2, h3, h4⟩ := run_app_own w base tx o.type v xv l news hown hs hb hbase
  unfold Oper.wp
  simp [execOp, ho, resolve, invoke, builtin, hv, hx, hr, Result.andThen]
  exact hK _ _ (h v' w' h2 h3 h4)

theorem set0_ob {w : World} {base g p : Nat} {n : Nat} {l : List Int} (c : Int) (h : OB w base (.slice (some ⟨g, 0, none⟩) n p) l) (hn : n = l.length) : OB (w.setCell ⟨g, 0, none⟩ (.int .u8 c)) base (.slice (some ⟨g, 0, none⟩) n p) (l.set 0 c) := by
  subst hn; exact h.setAt c

set_option maxHeartbeats 2000000 in
theorem spoil8_any (u : Value) (l : List Int) (m : Int) (w : World) (B : Nat) (h : OB w B u l) (hB : B ≤ w.heap.size) (hl : l.length ≤ 140737488351232) :
    Calls Tryz.prog 6 #[u, .int .u8 m] w fun e w' => e = .returned (.tuple #[]) ∧ OB w' B u (List.replicate l.length m) ∧ w.grownBy w' u.ownBlock := by
  have HO0 := hide h
  obtain ⟨a, c, rfl⟩ := h.shape
  have hcap := h.sb
  have hcc : l.length ≤ c ∧ c ≤ 9223372036854775807 := by
    obtain ⟨a', c', e, q1, q2, _⟩ := hcap
    simp only [Value.slice.injEq] at e
    obtain ⟨-, -, rfl⟩ := e
    unfold maxLen at q2
    omega
  obtain ⟨hc1, hc2⟩ := hcc
  obtain ⟨N, HN⟩ : ∃ N : Nat, Hid (N = l.length) := ⟨_, rfl⟩
  have HSL : Hid (0 < N → ∃ b, a = some ⟨b, 0, none⟩) := fun h0 => by
    obtain ⟨b, p, e, _⟩ := h.some (by rw [← HN.out]; exact h0)
    simp only [Value.slice.injEq] at e
    exact ⟨b, e.1⟩
  rw [← HN.out] at HO0 hl hc1 ⊢
  clear h hcap
  go_enter Tryz.func6, Tryz.ntmps6
  go_wp2
  go_loopw [4] (fun i wr => ∃ k : Nat, k ≤ N ∧ i = .int .i64 k ∧ Hid (OB wr B (.slice a N c) (List.replicate k m ++ l.drop k)) ∧ Hid (w.grownBy wr (Value.slice a N c).ownBlock)) (fun i _ => N - (intOf i).toNat)
  case atStart => exact ⟨0, Nat.zero_le _, rfl, HO0, World.grownBy.refl _ _⟩
  case round =>
    obtain ⟨k, hk, rfl, HO, HG⟩ := hrel
    by_cases hlt : k < N
    · have hlt' : (k : Int) < (N : Int) := by omega
      obtain ⟨b, rfl⟩ := HSL.out (by omega)
      have hL : (List.replicate k m ++ l.drop k).length = N := by rw [List.length_append, List.length_replicate, List.length_drop, HN.out]; have := HN.out; omega
      obtain ⟨D, HD⟩ : ∃ D, Hid (D = List.replicate k m ++ l.drop k) := ⟨_, rfl⟩
      rw [← HD.out] at HO hL
      have HOL : Hid (OB wr B (.slice (some ⟨b, 0, none⟩) D.length c) D) := by rw [hL]; exact HO
      obtain ⟨k1, k2⟩ := HOL.out.cellAt (j := k) (by omega)
      have HNX : Hid (OB (wr.setCell ⟨b, k, none⟩ (.int .u8 m)) B (.slice (some ⟨b, 0, none⟩) N c) (List.replicate (k + 1) m ++ l.drop (k + 1)) ∧ w.grownBy (wr.setCell ⟨b, k, none⟩ (.int .u8 m)) (Value.slice (some ⟨b, 0, none⟩) N c).ownBlock) := by
        refine ⟨?_, HG.out.trans ⟨rfl, rfl, rfl, by rw [size_setCell]; exact Nat.le_refl _, fun j _ hne => setCell_others _ _ _ _ j (fun e => hne (by simp [Value.ownBlock, e]))⟩⟩
        have := HOL.out.setAt (j := k) m
        rw [hL, HD.out, set_mid m l k (by rw [← HN.out]; exact hlt)] at this
        exact this
      clear hL
      go_wp2
      go_roundw
      case rel => exact ⟨k + 1, by omega, by go_num, HNX.out.1, HNX.out.2⟩
      case measure => simp [intOf]; omega
    · obtain rfl : k = N := by omega
      have hlt' : ¬ (k : Int) < (k : Int) := by omega
      have HE : Hid (List.replicate k m ++ l.drop k = List.replicate k m) := by show _ = _; rw [List.drop_of_length_le (by have := HN.out; omega), List.append_nil]
      rw [HE.out] at HO
      obtain ⟨D, HD⟩ : ∃ D, Hid (D = List.replicate k m) := ⟨_, rfl⟩
      have HDL : Hid (D.length = k) := by show _ = _; rw [HD.out, List.length_replicate]
      rw [← HD.out] at HO
      have hBw : B ≤ wr.heap.size := Nat.le_trans hB HG.out.size
      obtain ⟨y, HY⟩ : ∃ y, Hid (y = IntKind.u8.wrap (m + 1)) := ⟨_, rfl⟩
      have HALC : Hid (OB (wr.alloc (.cells #[.int .u8 m, .int .u8 y] 5)) B (.slice a k c) D) := HO.out.alloc _
      have HSR : Hid (Src Tryz.prog 1 22 (.slice (some ⟨wr.heap.size, 0, none⟩) 2 2) ([m, y] : List Int).length (([m, y] : List Int).map (Value.int .u8)) (wr.alloc (.cells #[.int .u8 m, .int .u8 y] 5))) := built_src wr [m, y]
      have hwy : IntKind.u8.wrap (m + 1) = y := HY.out.symm
      have HBW := hide hBw
      clear hBw
      go_wp2_with (at_builtin; refine wpList_appO rfl _ _ 22 rfl B (.slice a k c) _ D [m, y] rfl HALC.out rfl HSR.out (by rw [HDL.out]; simp; omega) (by have := HBW.out; simp; omega) ?_)
      intro v3 w3 ho3 hg3 hk3
      obtain ⟨b3, p3, rfl, hp1, hp2⟩ : ∃ b p, v3 = .slice (some ⟨b, 0, none⟩) (D ++ [m, y]).length p ∧ (D ++ [m, y]).length ≤ p ∧ p ≤ 9223372036854775807 := ho3.some (by simp)
      obtain ⟨q1, q2⟩ := ho3.cellAt (j := 0) (by simp)
      have HG3 := hide hg3
      have HK3 := hide hk3
      have hlen : (D ++ [m, y]).length = k + 2 := by rw [List.length_append, HDL.out]; rfl
      rw [hlen] at hp1 ⊢
      have HFIN : Hid (OB (w3.setCell ⟨b3, 0, none⟩ (.int .u8 m)) B (.slice a k c) D ∧ w.grownBy (w3.setCell ⟨b3, 0, none⟩ (.int .u8 m)) (Value.slice a k c).ownBlock) := by
        have halc := grownBy_alloc' wr (.cells #[.int .u8 m, .int .u8 y] 5) (Value.slice a k c).ownBlock
        have hwr := HO.out.lt
        rcases HG3.out with ⟨e, rfl⟩ | ⟨e, hbel⟩ | ⟨e, hs, hgr⟩
        · exfalso
          simp only [Value.slice.injEq] at e
          have := e.2.1
          rw [List.length_append, HDL.out] at this
          simp at this
        · have hb3 : b3 = wr.heap.size + 1 := by simpa [Value.ownBlock] using e
          refine ⟨HK3.out.move fun j hj => setCell_others _ _ _ _ j (by have := (hwr j hj).2; omega), ?_⟩
          refine HG.out.trans (halc.trans ⟨hbel.os, hbel.tape, hbel.output, by rw [size_setCell]; exact hbel.size, fun j hj hne => ?_⟩)
          rw [setCell_others _ _ _ _ j (by rw [size_alloc'] at hj; omega)]
          exact hbel.block j hj
        · have hb3 : (Value.slice a k c).ownBlock = some b3 := by rw [← e]; rfl
          have hab : a = some ⟨b3, 0, none⟩ := by
            rcases HK3.out.2 with ⟨hx, _⟩ | ⟨g, cap, cur, he, _⟩
            · rw [hx] at hb3; simp [Value.ownBlock] at hb3
            · simp only [Value.slice.injEq] at he
              obtain ⟨ha, -, -⟩ := he
              rw [ha] at hb3 ⊢
              simp [Value.ownBlock] at hb3
              rw [hb3]
          refine ⟨?_, ?_⟩
          · subst hab
            have := set0_ob m HK3.out HDL.out.symm
            have ed : D.set 0 m = D := by rw [HD.out]; cases k <;> rfl
            rwa [ed] at this
          · refine HG.out.trans (halc.trans (hgr.trans ⟨rfl, rfl, rfl, by rw [size_setCell]; exact Nat.le_refl _, fun j hj hne => setCell_others _ _ _ _ j (fun e2 => hne (by rw [hb3, e2]))⟩))
      clear ho3 hg3 hk3 hlen
      go_wp2
      refine bodyPost_end (results_none rfl _ _ _) rfl ?_
      rw [← HD.out]
      exact ⟨rfl, HFIN.out.1, HFIN.out.2⟩
end Go.Proofs.YtdpoggapenjjfaaGreatDoor

