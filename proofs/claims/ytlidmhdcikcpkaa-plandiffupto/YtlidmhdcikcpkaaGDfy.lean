import Derived.Test.YtlidmhdcikcpkaaGDfw
namespace Go.Proofs.Ytlidmhdcikcpkaa
open Go.RowKit Go.Maps
set_option maxRecDepth 20000
set_option linter.unusedVariables false
set_option linter.unusedSimpArgs false

theorem ychanged_any (vo vn : Value) (O N : List Int) (p : Nat) (w : World) (ho : SB w vo O) (hn : SB w vn N) (hp : p < N.length) :
    Calls Try.prog 26 #[vo, vn, .int .i64 (p : Int)] w fun e w' => e = .returned (.bool (decide (N.getD p 0 ≠ O.getD p 0))) ∧ ∃ n, w' = w.drewN n := by
  have HO := hide ho
  obtain ⟨oa, oc, rfl, o1, o2, -⟩ := ho.open11
  obtain ⟨na, nc, rfl, n1, n2, -⟩ := hn.open11
  obtain ⟨nb, no, rfl, hc⟩ := hn.byte (Below.refl _ _) hp
  have hp' : (p : Int) < (N.length : Int) := by omega
  obtain ⟨x, hx⟩ : ∃ x, x = N.getD p 0 := ⟨_, rfl⟩
  rw [← hx] at hc ⊢
  clear ho hn hx
  by_cases hq : p < O.length
  · have hq' : (p : Int) < (O.length : Int) := by omega
    obtain ⟨ob, oo, rfl, hd⟩ := HO.out.byte (Below.refl _ _) hq
    obtain ⟨y, hy⟩ : ∃ y, y = O.getD p 0 := ⟨_, rfl⟩
    rw [← hy] at hd ⊢
    clear hy
    have e : decide (x ≠ y) = (x != y) := by by_cases h : x = y <;> simp [h]
    rw [e]
    clear e
    go_enter Try.func26, Try.ntmps26
    go_wp2
    go_quiet (fail)
    go_wp2
    go_ret
    exact ⟨rfl, _, rfl⟩
  · have hq' : ¬ (p : Int) < (O.length : Int) := by omega
    have e : O.getD p 0 = 0 := by simp only [List.getD, List.getElem?_eq_none (Nat.le_of_not_lt hq)]; rfl
    rw [e]
    have e : decide (x ≠ 0) = (x != 0) := by by_cases h : x = 0 <;> simp [h]
    rw [e]
    clear e
    go_enter Try.func26, Try.ntmps26
    go_wp2
    go_ret
    exact ⟨rfl, 0, rfl⟩

/-- append of bytes, as a step of a region that draws its order. -/
theorem stepApp {ops : Array Oper} {o : Oper} {a : Act} {w : World} {Kk : Act → World → Prop} {Q : Exit → Act → World → Prop} {E : Prop}
    (hg : o.guard = none) (s x : Operand) (hop : o.op = Op.call { callee := Callee.builtin Builtin.append, args := #[s, x], argTypes := #[34, 34] })
    (base : Nat) (v xv : Value) (l news : List Int) (n m : Nat) (hs : a.eval s = v) (hx : a.eval x = xv) (hown : OB w base v l) (hsrc : Src Try.prog 1 34 xv news.length (news.map (Value.int .u8)) w) (hne : news ≠ []) (hb : l.length + news.length ≤ 140737488355328) (hbase : base ≤ w.heap.size) (hln : l.length + news.length = m)
    (hK : ∀ g cap w', OB w' base (.slice (some ⟨g, 0, none⟩) m cap) (l ++ news) → Grew w w' v (.slice (some ⟨g, 0, none⟩) m cap) → Kk (a.put o.dst (.slice (some ⟨g, 0, none⟩) m cap)) w') :
    if Region.wanted o (yielded ops a.tmps) = true then Oper.wp Try.prog o a w Kk Q else E := by
  subst hln
  have hw : Region.wanted o (yielded ops a.tmps) = true := by simp [Region.wanted, hg]
  rw [if_pos hw]
  obtain ⟨v', w', hr, h2, h3⟩ := run_app w base 34 o.type v xv l news hown hsrc hb hbase
  have hn : 0 < news.length := List.length_pos_iff.2 hne
  obtain ⟨g, cap, rfl, _, _⟩ := World.ownsRow.form h2 (by rw [List.length_append]; omega)
  rw [List.length_append] at h2 h3 hr
  unfold Oper.wp
  simp [execOp, hop, resolve, invoke, builtin, hs, hx, hr, Result.andThen]
  exact hK g cap w' h2 h3

theorem undrew15 {w w' : World} {r : Option Nat} (h : w.drew.grownBy w' r) : w.grownBy w' r := ⟨h.os, h.tape, h.output, h.size, h.block⟩

/-- Writes under way: their lists lie apart. -/
structure DW (w : World) (base : Nat) (v : Value) (R : List We) : Prop where
  ow : OW w base v R
  ap : R.Pairwise (fun e f => ∀ k, e.dv.ownBlock = some k → f.dv.ownBlock ≠ some k)

theorem DW.nil (w : World) (base : Nat) : DW w base (.slice none 0 0) [] := ⟨⟨OR.nil _ _ _ _, fun e he => by simp at he⟩, List.Pairwise.nil⟩
theorem DW.drewN {w : World} {base : Nat} {v : Value} {R : List We} (h : DW w base v R) (n : Nat) : DW (w.drewN n) base v R := ⟨⟨h.ow.1.move fun _ _ => rfl, fun e he => ⟨(h.ow.2 e he).1.move fun _ _ => rfl, (h.ow.2 e he).2⟩⟩, h.ap⟩

theorem DW.push {base : Nat} {wr w3 : World} {v v3 : Value} {R : List We} {a0 : Int} {o : Obj} (h : DW wr base v R) (ho3 : OR 41 2 w3 base v3 (R.map We.cs ++ [#[.int .i64 a0, .slice none 0 0]])) (hg : (wr.alloc o).grownBy w3 v.ownBlock) (hat : v3.ownBlock = v.ownBlock ∨ v3.ownBlock = some (wr.alloc o).heap.size) (hbase : base ≤ wr.heap.size) : DW w3 base v3 (R ++ [⟨a0, .slice none 0 0, []⟩]) := by
  refine ⟨ow_step h.ow (Below.refl _ _) (World.ownsRow_nil _ _ _ _) ho3 hg hat hbase, ?_⟩
  rw [List.pairwise_append]
  refine ⟨h.ap, List.pairwise_singleton _ _, fun e he f hf k hk => ?_⟩
  rw [List.mem_singleton.1 hf]
  simp [Value.ownBlock]

/-- The last one's list gets longer. -/
theorem DW.grow {base g m cap : Nat} {wr W w6 : World} {dv v6 : Value} {D : List We} {a0 : Int} {l l' : List Int} {o : Obj} (h : DW wr base (.slice (some ⟨g, 0, none⟩) m cap) (D ++ [⟨a0, dv, l⟩])) (hW : W.heap = (wr.alloc o).heap) (hgr : Grew W w6 dv v6) (ho : OB w6 base v6 l') (h6 : v6.oneCell' = true) :
    DW (w6.setCell ⟨g, D.length * 2 + 1, none⟩ v6) base (.slice (some ⟨g, 0, none⟩) m cap) (D ++ [⟨a0, v6, l'⟩]) := by
  have hWs : W.heap.size = wr.heap.size + 1 := by rw [hW]; exact size_alloc' _ _
  have hlast := h.ow.2 ⟨a0, dv, l⟩ (by simp)
  have hgl := h.ow.1.lt g rfl
  have hdg : dv.ownBlock ≠ some g := fun e => hlast.2 g e rfl
  have hkeep : ∀ k, k < wr.heap.size → dv.ownBlock ≠ some k → w6.heap[k]? = wr.heap[k]? := fun k hk hd => (hgr.by.block k (by omega) (fun e => hd e.symm)).trans (by rw [hW]; exact Below.heap_alloc _ _ k hk)
  have hset : ∀ k, k ≠ g → (w6.setCell ⟨g, D.length * 2 + 1, none⟩ v6).heap[k]? = w6.heap[k]? := fun k hk => Below.heap_setCell w6 _ _ k hk
  have h6g : v6.ownBlock ≠ some g := fun e => by
    rcases hgr.at with q | q
    · rw [q] at e; have := Option.some.inj e; omega
    · rw [q] at e; exact hdg e
  have hap := List.pairwise_append.1 h.ap
  have hD : ∀ e ∈ D, ∀ k, e.dv.ownBlock = some k → dv.ownBlock ≠ some k ∧ k ≠ g ∧ k < wr.heap.size := fun e he k hk => by
    have q := h.ow.2 e (List.mem_append_left _ he)
    refine ⟨hap.2.2 e he ⟨a0, dv, l⟩ (by simp) k hk, fun e9 => q.2 k hk (by rw [e9]; rfl), (q.1.lt k hk).2⟩
  have h6D : ∀ e ∈ D, ∀ k, e.dv.ownBlock = some k → v6.ownBlock ≠ some k := fun e he k hk e9 => by
    obtain ⟨q1, q2, q3⟩ := hD e he k hk
    rcases hgr.at with q | q
    · rw [q] at e9; have := Option.some.inj e9; omega
    · rw [q] at e9; exact q1 e9
  refine ⟨⟨?_, fun e he => ?_⟩, ?_⟩
  · have h1 : OR 41 2 w6 base (.slice (some ⟨g, 0, none⟩) m cap) (D.map We.cs ++ [#[.int .i64 a0, dv]]) := by
      have := h.ow.1.move (w' := w6) (fun k hk => by
        have e9 : k = g := by simp [Value.ownBlock] at hk; exact hk.symm
        subst e9
        exact hkeep _ hgl.2 hdg)
      rw [List.map_append] at this
      exact this
    have h2 := h1.setLast (u := v6) h6
    rw [List.length_map] at h2
    rw [List.map_append]
    exact h2
  · rcases List.mem_append.1 he with he | he
    · have q := h.ow.2 e (List.mem_append_left _ he)
      refine ⟨q.1.move fun k hk => ?_, q.2⟩
      obtain ⟨q1, q2, q3⟩ := hD e he k hk
      exact (hset k q2).trans (hkeep k q3 q1)
    · obtain rfl := List.mem_singleton.1 he
      refine ⟨ho.move fun k hk => hset k (fun e9 => h6g (by rw [← e9]; exact hk)), fun k hk e9 => h6g ?_⟩
      simp [Value.ownBlock] at e9
      rw [e9]
      exact hk
  · rw [List.pairwise_append]
    refine ⟨hap.1, List.pairwise_singleton _ _, fun e he f hf k hk => ?_⟩
    rw [List.mem_singleton.1 hf]
    exact h6D e he k hk

theorem DW.last {base m cap g : Nat} {w : World} {dv : Value} {D : List We} {a0 : Int} {l : List Int} (h : DW w base (.slice (some ⟨g, 0, none⟩) m cap) (D ++ [⟨a0, dv, l⟩])) : w.cell? ⟨g, D.length * 2 + 1, none⟩ = some dv ∧ (∀ o, w.frozen? ⟨g, o, none⟩ = false) ∧ D.length + 1 ≤ cap ∧ cap ≤ 9223372036854775807 ∧ g < w.heap.size ∧ base ≤ g := by
  have hsr := h.ow.1.sr
  have hl := h.ow.1.lt g rfl
  obtain ⟨b9, o9, h9, _, hr9⟩ := hsr.row (i := D.length) (by simp)
  simp only [Option.some.injEq, Addr.mk.injEq] at h9
  obtain ⟨rfl, rfl, -⟩ := h9
  obtain ⟨a8, c8, e8, h7, h6⟩ := h.ow.1.shape
  simp only [Value.slice.injEq] at e8
  obtain ⟨-, -, rfl⟩ := e8
  have e7 : ((D ++ [(⟨a0, dv, l⟩ : We)]).map We.cs).getD D.length #[] = #[.int .i64 a0, dv] := by simp [List.getD, We.cs]
  rw [e7] at hr9
  have := hr9 1 dv rfl
  rw [Nat.zero_add] at this
  exact ⟨this, h.ow.1.free, by simpa using h7, h6, hl.2, hl.1⟩

set_option maxHeartbeats 16000000 in
theorem yDiff_any (vo vn : Value) (O N : List Int) (w : World) (ho : SB w vo O) (hn : SB w vn N) (hl : N.length ≤ 1048576) :
    Calls Try.prog 15 #[vo, vn] w fun e w' => ∃ v R, e = .returned v ∧ prs R = wrs N (chS O N N.length) ∧ SW w' v R ∧ Below w.heap.size w w' := by
  have HO := hide ho
  have HN := hide hn
  obtain ⟨oa, oc, rfl, o1, o2, -⟩ := ho.open11
  obtain ⟨na, nc, rfl, n1, n2, -⟩ := hn.open11
  clear ho hn
  go_enter Try.func15, Try.ntmps15
  go_wp2
  go_loopw [5, 6, 7, 8, 9, 10] (fun t la i _ _ _ wr => ∃ (j m L : Nat) (ta : Option Addr) (tc : Nat) (R : List We), t = .slice ta m tc ∧ la = .int .i64 (L : Int) ∧ i = .int .i64 (j : Int) ∧ j ≤ N.length ∧ (m ≤ j ∧ L ≤ j) ∧ Hid ((m ≠ 0 → L = (sl (chS O N j)).2) ∧ prs R = wrs N (chS O N j) ∧ (chS O N j).length = m) ∧ Hid (DW wr w.heap.size (.slice ta m tc) R) ∧ Hid (Below w.heap.size w wr)) (fun _ _ i _ _ _ _ => N.length - (intOf i).toNat)
  case atStart => exact ⟨0, 0, 0, none, 0, [], rfl, rfl, rfl, Nat.zero_le _, ⟨Nat.zero_le _, Nat.zero_le _⟩, ⟨fun h => absurd rfl h, rfl, rfl⟩, DW.nil _ _, Below.refl _ _⟩
  case round =>
    obtain ⟨j, m, L, ta, tc, R, rfl, rfl, rfl, hj, ⟨hm, hL⟩, HP, HDW, HB⟩ := hrel
    by_cases hlt : j < N.length
    · have hlt' : (j : Int) < (N.length : Int) := by omega
      have HCH := hide (ychanged_any _ _ O N j wr (HO.out.below HB.out) (HN.out.below HB.out) hlt)
      by_cases hxy : N.getD j 0 = O.getD j 0
      · have HC : Hid (chS O N (j + 1) = chS O N j) := if_pos hxy
        rw [show decide (N.getD j 0 ≠ O.getD j 0) = false from decide_eq_false (fun h => h hxy)] at HCH
        clear hxy
        go_wp2_with fail
        refine HCH.out.mono ?_
        rintro e w2 ⟨rfl, n2, h2⟩
        rw [h2]
        clear h2 w2
        go_wp2
        go_roundw
        case rel => exact ⟨j + 1, m, L, ta, tc, R, rfl, rfl, by go_num, by omega, ⟨by omega, by omega⟩, by show _ ∧ _; rw [HC.out]; exact HP.out, HDW.out.drewN _, below_drewN HB.out _⟩
        case measure => simp [intOf]; omega
      · rw [show decide (N.getD j 0 ≠ O.getD j 0) = true from decide_eq_true hxy] at HCH
        have HC : Hid (chS O N (j + 1) = cs1 (chS O N j) j) := if_neg hxy
        have HIN := hide (ch_in (O := O) (N := N) (k := j))
        obtain ⟨S, hS⟩ : ∃ S, S = chS O N j := ⟨_, rfl⟩
        rw [← hS] at HP HC HIN
        clear hS hxy
        obtain ⟨nb, no, hna⟩ : ∃ nb no, na = some ⟨nb, no, none⟩ := by
          obtain ⟨b9, o9, h9, _⟩ := HN.out.byte (Below.refl _ _) hlt
          exact ⟨b9, o9, h9⟩
        subst hna
        have HNC : Hid (∀ W, Below w.heap.size w W → ∀ i, i < N.length → W.cell? ⟨nb, no + i, none⟩ = some (.int .u8 (N.getD i 0))) := fun W hW i hi => by
          obtain ⟨b9, o9, h9, hc9⟩ := HN.out.byte hW hi
          simp only [Option.some.injEq, Addr.mk.injEq] at h9
          obtain ⟨rfl, rfl, -⟩ := h9
          exact hc9
        have HRL : Hid (R.length = m) := by have h1 := congrArg List.length HP.out.2.1; rw [prs, wrs, List.length_map, List.length_map, HP.out.2.2] at h1; exact h1
        go_wp2_with fail
        refine HCH.out.mono ?_
        rintro e w2 ⟨rfl, n2, h2⟩
        have HDW2 : Hid (DW w2 w.heap.size (.slice ta m tc) R) := by rw [h2]; exact HDW.out.drewN _
        have HB2 : Hid (Below w.heap.size w w2) := by rw [h2]; exact below_drewN HB.out _
        clear h2 HDW HB HCH
        by_cases hfar : m = 0 ∨ ¬ j ≤ L + 8
        · have HC2 : Hid (chS O N (j + 1) = S ++ [(j, j + 1)]) := by
            show _ = _
            rw [HC.out]
            refine if_neg (fun q => ?_)
            rcases hfar with h | h
            · exact q.1 (List.eq_nil_of_length_eq_zero (by rw [HP.out.2.2, h]))
            · exact h (by rw [HP.out.1 (fun e => q.1 (List.eq_nil_of_length_eq_zero (by rw [HP.out.2.2, e])))]; exact q.2)
          have hfb : ((m : Int) == 0) = decide (m = 0) := by
            by_cases h : m = 0
            · subst h; rfl
            · simp [h]
          have HOa := hide (HDW2.out.ow.1.alloc (.cells #[.int .i64 (j : Int), .slice none 0 0] 41))
          have HSTEP : Hid (∀ v3 w3, OR 41 2 w3 w.heap.size v3 (R.map We.cs ++ [#[.int .i64 (j : Int), .slice none 0 0]]) → (w2.alloc (.cells #[.int .i64 (j : Int), .slice none 0 0] 41)).grownBy w3 (Value.slice ta m tc).ownBlock → (v3.ownBlock = (Value.slice ta m tc).ownBlock ∨ v3.ownBlock = some (w2.heap.size + 1)) → ∃ g3 c3, v3 = .slice (some ⟨g3, 0, none⟩) (m + 1) c3 ∧ DW w3 w.heap.size (.slice (some ⟨g3, 0, none⟩) (m + 1) c3) (R ++ [⟨(j : Int), .slice none 0 0, []⟩]) ∧ Below w.heap.size w w3) := fun v3 w3 ho3 hg3 hat3 => by
            have hb3 := (HB2.out.alloc HB2.out.size _).grown hg3 (by rw [size_alloc']; have := HB2.out.size; omega) (fun k hk => by have := (HDW2.out.ow.1.lt k hk).1; omega)
            have hd3 := HDW2.out.push ho3 hg3 (by rw [size_alloc']; exact hat3) HB2.out.size
            obtain ⟨g3, c3, rfl, _, _⟩ := World.ownsRow.form ho3.2 (by simp)
            rw [List.length_append, List.length_map, HRL.out, List.length_singleton] at hd3 ⊢
            exact ⟨g3, c3, rfl, hd3, hb3⟩
          by_cases hm0 : m = 0
          · subst hm0
            go_wp2_with (at_builtin; refine wpRow rfl _ _ 36 41 2 32 _ rfl Try.underlying36 infoW rfl (by omega) w.heap.size (.slice ta 0 tc) (R.map We.cs) #[.int .i64 (j : Int), .slice none 0 0] w2.heap.size 1 (0, 0) rfl HOa.out rfl (heap_alloc_new _ _) rfl (by simp [Value.oneCell']) (by rw [List.length_map, HRL.out]; omega) (by rw [List.length_map, HRL.out]; omega) (by rw [size_alloc']; have := HB2.out.size; omega) ?_)
            intro v3 w3 ho3 hg3 hat3
            obtain ⟨g, c3, rfl, hd3, hb3⟩ := HSTEP.out v3 w3 ho3 hg3 hat3
            have HD3 := hide hd3
            have HB3 := hide hb3
            clear ho3 hg3 hat3 hd3 hb3 HSTEP HOa
            have HD4 : Hid (∃ dv l, DW w3 w.heap.size (.slice (some ⟨g, 0, none⟩) (0 + 1) c3) (R ++ [⟨(j : Int), dv, l⟩]) ∧ l = (N.drop j).take (j - j)) := ⟨_, _, HD3.out, (by simp)⟩
            have HKD : Hid (R.length + 1 = 0 + 1) := (by show _ = _; rw [HRL.out])
            have hk1 : ((0 + 1 : Nat) : Int) - 1 = ((R.length : Nat) : Int) := by have h9 := HKD.out; omega
            have hk2 : R.length < 0 + 1 := by have h9 := HKD.out; omega
            obtain ⟨K, hK⟩ : ∃ K, K = R.length := ⟨_, rfl⟩
            rw [← hK] at hk1 hk2
            have HKK := hide hK
            obtain ⟨M, hM⟩ : ∃ M, M = 0 + 1 := ⟨_, rfl⟩
            rw [← hM] at hk1 hk2 HD4 HKD ⊢
            have HMM := hide hM
            clear hK hM HD3
            obtain ⟨h9, h8⟩ : M ≤ c3 ∧ c3 ≤ 9223372036854775807 := by
              obtain ⟨dv, l, h1, _⟩ := HD4.out
              obtain ⟨_, _, h7, h6, _⟩ := h1.last
              exact ⟨by have h5 := HKD.out; omega, h6⟩
            have hM5 : M ≤ 1048577 := by have h7 := HMM.out; omega
            go_wp2
            go_loopw [10] (fun q wr => ∃ (i : Nat), q = .int .i64 (i : Int) ∧ (j ≤ i ∧ i ≤ j + 1) ∧ Hid (∃ dv l, DW wr w.heap.size (.slice (some ⟨g, 0, none⟩) M c3) (R ++ [⟨(j : Int), dv, l⟩]) ∧ l = (N.drop j).take (i - j)) ∧ Hid (Below w.heap.size w wr)) (fun q _ => j + 1 - (intOf q).toNat)
            case atStart => exact ⟨j, by go_num, ⟨Nat.le_refl _, by omega⟩, HD4.out, HB3.out⟩
            case round =>
              obtain ⟨i, rfl, ⟨hi0, hi1⟩, HDQ, HBQ⟩ := hrel
              by_cases hij : i ≤ j
              · have hij' : (i : Int) ≤ (j : Int) := by omega
                obtain ⟨dv, l, hdw, hll⟩ := HDQ.out
                have HLL := hide hll
                have hln : l.length = i - j := by rw [hll]; exact prt_len (s := (j, i)) (by simp only; omega) (by simp only; omega)
                have HDD := hide hdw
                obtain ⟨da, dc, hdv⟩ := (hdw.ow.2 ⟨(j : Int), dv, l⟩ (by simp)).1.shape
                rw [hln] at hdv
                obtain ⟨n, hn⟩ : ∃ n, n = i - j := ⟨_, rfl⟩
                rw [← hn] at hdv hln
                have HNN := hide hn
                simp only at hdv
                subst hdv
                have hn5 : n ≤ 1048576 := by omega
                obtain ⟨z0, zf, z3, z4, z5, z6⟩ := hdw.last
                rw [← HKK.out] at z0
                have z1 : wr.frozen? ⟨g, K * 2 + 1, none⟩ = false := zf _
                obtain ⟨x, hx⟩ : ∃ x, x = N.getD i 0 := ⟨_, rfl⟩
                have y0 : wr.cell? ⟨nb, no + i, none⟩ = some (.int .u8 x) := by rw [hx]; exact HNC.out wr HBQ.out i (by omega)
                have HXX := hide hx
                have hbx : Below wr.heap.size wr (wr.alloc (.cells #[.int .u8 x] 5)) := (Below.refl _ _).alloc (Nat.le_refl _) _
                have z7 : (wr.alloc (.cells #[.int .u8 x] 5)).cell? ⟨g, K * 2 + 1, none⟩ = some (.slice da n dc) := (hbx.cell z5).trans z0
                have HGL := hide z5
                have HROW : Hid (∀ W : World, W.heap = (wr.alloc (.cells #[.int .u8 x] 5)).heap → OB W w.heap.size (.slice da n dc) l) := fun W hW => OB.move (w := wr) (HDD.out.ow.2 _ (List.mem_append_right _ (List.mem_singleton.2 rfl))).1 fun k hk => by rw [hW]; exact Below.heap_alloc _ _ k (((HDD.out.ow.2 _ (List.mem_append_right _ (List.mem_singleton.2 rfl))).1).lt k hk).2
                have HSRC : Hid (∀ W : World, W.heap = (wr.alloc (.cells #[.int .u8 x] 5)).heap → Src Try.prog 1 34 (.slice (some ⟨wr.heap.size, 0, none⟩) 1 1) ([x] : List Int).length (([x] : List Int).map (Value.int .u8)) W) := fun W hW => SB.src (v := .slice (some ⟨wr.heap.size, 0, none⟩) 1 1) (l := [x]) ((built_sb wr [x] (by unfold maxLen; simp)).move fun a u hu _ => by
                  have e9 : W.cell? a = (wr.alloc (.cells (([x] : List Int).map (Value.int .u8)).toArray 5)).cell? a := by unfold World.cell?; rw [hW]; rfl
                  rw [e9]; exact hu)
                have HLEN : Hid (l.length + ([x] : List Int).length ≤ 140737488355328) := by show _ ≤ _; simp; omega
                have HLEM : Hid (l.length + ([x] : List Int).length = n + 1) := by show _ = _; simp; omega
                have HSZ : Hid (∀ W : World, W.heap = (wr.alloc (.cells #[.int .u8 x] 5)).heap → w.heap.size ≤ W.heap.size) := fun W hW => by rw [hW, size_alloc']; have := HBQ.out.size; omega
                have HG6 : Hid (∀ (W w6 : World) (u : Value), W.heap = (wr.alloc (.cells #[.int .u8 x] 5)).heap → Grew W w6 (.slice da n dc) u → w6.cell? ⟨g, K * 2 + 1, none⟩ = some (.slice da n dc) ∧ w6.frozen? ⟨g, K * 2 + 1, none⟩ = false) := fun W w6 u hW hg => by
                  have e1 : w6.heap[g]? = wr.heap[g]? := (hg.by.block g (by rw [hW, size_alloc']; have := HGL.out; omega) (fun e => (HDD.out.ow.2 _ (List.mem_append_right _ (List.mem_singleton.2 rfl))).2 g e.symm rfl)).trans (by rw [hW]; exact Below.heap_alloc _ _ g HGL.out)
                  have e3 : w6.cell? ⟨g, K * 2 + 1, none⟩ = wr.cell? ⟨g, K * 2 + 1, none⟩ := by unfold World.cell?; simp only [e1]
                  have e4 : w6.frozen? ⟨g, K * 2 + 1, none⟩ = wr.frozen? ⟨g, K * 2 + 1, none⟩ := by unfold World.frozen?; simp only [e1]
                  exact ⟨e3.trans z0, e4.trans z1⟩
                have hiN : (i : Int) < (N.length : Int) := by omega
                have hiN2 : i < N.length := by omega
                have HOS : Hid (∀ (W w6 : World), W.heap = (wr.alloc (.cells #[.int .u8 x] 5)).heap → W.os = wr.os → W.tape = wr.tape → W.output = wr.output → Below w.heap.size w W) := fun W w6 hW h1 h2 h3 => by
                  have hb := HBQ.out.alloc HBQ.out.size (.cells #[.int .u8 x] 5)
                  exact ⟨h1.trans hb.os, h2.trans hb.tape, h3.trans hb.output, by rw [hW]; exact hb.size, fun k hk => by rw [hW]; exact hb.block k hk⟩
                clear hdw hll hn hx hln hbx zf
                go_wp2
                go_region_law (refine stepApp (by rfl) _ _ (by rfl) w.heap.size (.slice da n dc) (.slice (some ⟨wr.heap.size, 0, none⟩) 1 1) l [x] n (n + 1) (by simp [Act.eval, Act.put]) (by simp [Act.eval, Act.put]) (HROW.out _ (by rfl)) (HSRC.out _ (by rfl)) (by simp) HLEN.out (HSZ.out _ (by rfl)) HLEM.out ?_; intro gg cap6 w6 hown6 hgrow6; obtain ⟨t0, tf⟩ := HG6.out _ w6 _ (by rfl) hgrow6; have HW6 := hide (HOS.out _ w6 (by rfl) (by rfl) (by rfl) (by rfl)); have HALL := hide (And.intro hown6 hgrow6); have HDN := hide (HDD.out.grow (by rfl) hgrow6 hown6 (by rfl)); clear hown6 hgrow6)
                all_goals
                  have HB6 : Hid (Below w.heap.size w (w6.setCell ⟨g, K * 2 + 1, none⟩ (.slice (some ⟨gg, 0, none⟩) (n + 1) cap6))) := (HW6.out.grown (undrew15 HALL.out.2.by) HW6.out.size (fun k hk => ((HDD.out.ow.2 _ (List.mem_append_right _ (List.mem_singleton.2 rfl))).1.lt k hk).1)).setCell z6 _
                  rw [← HKK.out] at HDN
                  clear HALL HROW HSRC HG6 HOS HSZ z0 z1 z7 t0 tf
                  go_wp2
                  go_roundw
                  case rel => exact ⟨i + 1, by go_num, ⟨by omega, by omega⟩, ⟨_, _, HDN.out, by rw [HLL.out, HXX.out]; exact (prt_ext (by omega) (by omega)).symm⟩, HB6.out⟩
                  case measure => simp [intOf]; omega
              · have hij' : ¬ (i : Int) ≤ (j : Int) := by omega
                obtain rfl : i = j + 1 := by omega
                go_wp2
                go_roundw
                case rel =>
                  obtain ⟨dv, l, hdw, hll⟩ := HDQ.out
                  refine ⟨j + 1, M, j + 1, _, c3, _, rfl, by go_num, by go_num, by omega, ⟨by have h1 := HMM.out; omega, by omega⟩, ⟨?_, ?_, ?_⟩, hdw, HBQ.out⟩
                  · intro _; rw [HC2.out, sl_app]
                  · rw [HC2.out, wrs_app, ← HP.out.2.1, hll]; simp [prs, wrs, prt]
                  · rw [HC2.out, List.length_append, HP.out.2.2, HMM.out]; rfl
                case measure => simp [intOf]; omega
          · have hmb : ((m : Int) == 0) = false := by simpa using hm0
            have hfr : ¬ j ≤ L + 8 := hfar.resolve_left hm0
            have hfr' : (8 : Int) < (j : Int) - (L : Int) := by omega
            clear hfb
            go_wp2_with (at_builtin; refine wpRow rfl _ _ 36 41 2 32 _ rfl Try.underlying36 infoW rfl (by omega) w.heap.size (.slice ta m tc) (R.map We.cs) #[.int .i64 (j : Int), .slice none 0 0] w2.heap.size 1 (0, 0) rfl HOa.out rfl (heap_alloc_new _ _) rfl (by simp [Value.oneCell']) (by rw [List.length_map, HRL.out]; omega) (by rw [List.length_map, HRL.out]; omega) (by rw [size_alloc']; have := HB2.out.size; omega) ?_)
            intro v3 w3 ho3 hg3 hat3
            obtain ⟨g, c3, rfl, hd3, hb3⟩ := HSTEP.out v3 w3 ho3 hg3 hat3
            have HD3 := hide hd3
            have HB3 := hide hb3
            clear ho3 hg3 hat3 hd3 hb3 HSTEP HOa
            have HD4 : Hid (∃ dv l, DW w3 w.heap.size (.slice (some ⟨g, 0, none⟩) (m + 1) c3) (R ++ [⟨(j : Int), dv, l⟩]) ∧ l = (N.drop j).take (j - j)) := ⟨_, _, HD3.out, (by simp)⟩
            have HKD : Hid (R.length + 1 = m + 1) := (by show _ = _; rw [HRL.out])
            have hk1 : ((m + 1 : Nat) : Int) - 1 = ((R.length : Nat) : Int) := by have h9 := HKD.out; omega
            have hk2 : R.length < m + 1 := by have h9 := HKD.out; omega
            obtain ⟨K, hK⟩ : ∃ K, K = R.length := ⟨_, rfl⟩
            rw [← hK] at hk1 hk2
            have HKK := hide hK
            obtain ⟨M, hM⟩ : ∃ M, M = m + 1 := ⟨_, rfl⟩
            rw [← hM] at hk1 hk2 HD4 HKD ⊢
            have HMM := hide hM
            clear hK hM HD3
            obtain ⟨h9, h8⟩ : M ≤ c3 ∧ c3 ≤ 9223372036854775807 := by
              obtain ⟨dv, l, h1, _⟩ := HD4.out
              obtain ⟨_, _, h7, h6, _⟩ := h1.last
              exact ⟨by have h5 := HKD.out; omega, h6⟩
            have hM5 : M ≤ 1048577 := by have h7 := HMM.out; omega
            go_wp2
            go_loopw [10] (fun q wr => ∃ (i : Nat), q = .int .i64 (i : Int) ∧ (j ≤ i ∧ i ≤ j + 1) ∧ Hid (∃ dv l, DW wr w.heap.size (.slice (some ⟨g, 0, none⟩) M c3) (R ++ [⟨(j : Int), dv, l⟩]) ∧ l = (N.drop j).take (i - j)) ∧ Hid (Below w.heap.size w wr)) (fun q _ => j + 1 - (intOf q).toNat)
            case atStart => exact ⟨j, by go_num, ⟨Nat.le_refl _, by omega⟩, HD4.out, HB3.out⟩
            case round =>
              obtain ⟨i, rfl, ⟨hi0, hi1⟩, HDQ, HBQ⟩ := hrel
              by_cases hij : i ≤ j
              · have hij' : (i : Int) ≤ (j : Int) := by omega
                obtain ⟨dv, l, hdw, hll⟩ := HDQ.out
                have HLL := hide hll
                have hln : l.length = i - j := by rw [hll]; exact prt_len (s := (j, i)) (by simp only; omega) (by simp only; omega)
                have HDD := hide hdw
                obtain ⟨da, dc, hdv⟩ := (hdw.ow.2 ⟨(j : Int), dv, l⟩ (by simp)).1.shape
                rw [hln] at hdv
                obtain ⟨n, hn⟩ : ∃ n, n = i - j := ⟨_, rfl⟩
                rw [← hn] at hdv hln
                have HNN := hide hn
                simp only at hdv
                subst hdv
                have hn5 : n ≤ 1048576 := by omega
                obtain ⟨z0, zf, z3, z4, z5, z6⟩ := hdw.last
                rw [← HKK.out] at z0
                have z1 : wr.frozen? ⟨g, K * 2 + 1, none⟩ = false := zf _
                obtain ⟨x, hx⟩ : ∃ x, x = N.getD i 0 := ⟨_, rfl⟩
                have y0 : wr.cell? ⟨nb, no + i, none⟩ = some (.int .u8 x) := by rw [hx]; exact HNC.out wr HBQ.out i (by omega)
                have HXX := hide hx
                have hbx : Below wr.heap.size wr (wr.alloc (.cells #[.int .u8 x] 5)) := (Below.refl _ _).alloc (Nat.le_refl _) _
                have z7 : (wr.alloc (.cells #[.int .u8 x] 5)).cell? ⟨g, K * 2 + 1, none⟩ = some (.slice da n dc) := (hbx.cell z5).trans z0
                have HGL := hide z5
                have HROW : Hid (∀ W : World, W.heap = (wr.alloc (.cells #[.int .u8 x] 5)).heap → OB W w.heap.size (.slice da n dc) l) := fun W hW => OB.move (w := wr) (HDD.out.ow.2 _ (List.mem_append_right _ (List.mem_singleton.2 rfl))).1 fun k hk => by rw [hW]; exact Below.heap_alloc _ _ k (((HDD.out.ow.2 _ (List.mem_append_right _ (List.mem_singleton.2 rfl))).1).lt k hk).2
                have HSRC : Hid (∀ W : World, W.heap = (wr.alloc (.cells #[.int .u8 x] 5)).heap → Src Try.prog 1 34 (.slice (some ⟨wr.heap.size, 0, none⟩) 1 1) ([x] : List Int).length (([x] : List Int).map (Value.int .u8)) W) := fun W hW => SB.src (v := .slice (some ⟨wr.heap.size, 0, none⟩) 1 1) (l := [x]) ((built_sb wr [x] (by unfold maxLen; simp)).move fun a u hu _ => by
                  have e9 : W.cell? a = (wr.alloc (.cells (([x] : List Int).map (Value.int .u8)).toArray 5)).cell? a := by unfold World.cell?; rw [hW]; rfl
                  rw [e9]; exact hu)
                have HLEN : Hid (l.length + ([x] : List Int).length ≤ 140737488355328) := by show _ ≤ _; simp; omega
                have HLEM : Hid (l.length + ([x] : List Int).length = n + 1) := by show _ = _; simp; omega
                have HSZ : Hid (∀ W : World, W.heap = (wr.alloc (.cells #[.int .u8 x] 5)).heap → w.heap.size ≤ W.heap.size) := fun W hW => by rw [hW, size_alloc']; have := HBQ.out.size; omega
                have HG6 : Hid (∀ (W w6 : World) (u : Value), W.heap = (wr.alloc (.cells #[.int .u8 x] 5)).heap → Grew W w6 (.slice da n dc) u → w6.cell? ⟨g, K * 2 + 1, none⟩ = some (.slice da n dc) ∧ w6.frozen? ⟨g, K * 2 + 1, none⟩ = false) := fun W w6 u hW hg => by
                  have e1 : w6.heap[g]? = wr.heap[g]? := (hg.by.block g (by rw [hW, size_alloc']; have := HGL.out; omega) (fun e => (HDD.out.ow.2 _ (List.mem_append_right _ (List.mem_singleton.2 rfl))).2 g e.symm rfl)).trans (by rw [hW]; exact Below.heap_alloc _ _ g HGL.out)
                  have e3 : w6.cell? ⟨g, K * 2 + 1, none⟩ = wr.cell? ⟨g, K * 2 + 1, none⟩ := by unfold World.cell?; simp only [e1]
                  have e4 : w6.frozen? ⟨g, K * 2 + 1, none⟩ = wr.frozen? ⟨g, K * 2 + 1, none⟩ := by unfold World.frozen?; simp only [e1]
                  exact ⟨e3.trans z0, e4.trans z1⟩
                have hiN : (i : Int) < (N.length : Int) := by omega
                have hiN2 : i < N.length := by omega
                have HOS : Hid (∀ (W w6 : World), W.heap = (wr.alloc (.cells #[.int .u8 x] 5)).heap → W.os = wr.os → W.tape = wr.tape → W.output = wr.output → Below w.heap.size w W) := fun W w6 hW h1 h2 h3 => by
                  have hb := HBQ.out.alloc HBQ.out.size (.cells #[.int .u8 x] 5)
                  exact ⟨h1.trans hb.os, h2.trans hb.tape, h3.trans hb.output, by rw [hW]; exact hb.size, fun k hk => by rw [hW]; exact hb.block k hk⟩
                clear hdw hll hn hx hln hbx zf
                go_wp2
                go_region_law (refine stepApp (by rfl) _ _ (by rfl) w.heap.size (.slice da n dc) (.slice (some ⟨wr.heap.size, 0, none⟩) 1 1) l [x] n (n + 1) (by simp [Act.eval, Act.put]) (by simp [Act.eval, Act.put]) (HROW.out _ (by rfl)) (HSRC.out _ (by rfl)) (by simp) HLEN.out (HSZ.out _ (by rfl)) HLEM.out ?_; intro gg cap6 w6 hown6 hgrow6; obtain ⟨t0, tf⟩ := HG6.out _ w6 _ (by rfl) hgrow6; have HW6 := hide (HOS.out _ w6 (by rfl) (by rfl) (by rfl) (by rfl)); have HALL := hide (And.intro hown6 hgrow6); have HDN := hide (HDD.out.grow (by rfl) hgrow6 hown6 (by rfl)); clear hown6 hgrow6)
                all_goals
                  have HB6 : Hid (Below w.heap.size w (w6.setCell ⟨g, K * 2 + 1, none⟩ (.slice (some ⟨gg, 0, none⟩) (n + 1) cap6))) := (HW6.out.grown (undrew15 HALL.out.2.by) HW6.out.size (fun k hk => ((HDD.out.ow.2 _ (List.mem_append_right _ (List.mem_singleton.2 rfl))).1.lt k hk).1)).setCell z6 _
                  rw [← HKK.out] at HDN
                  clear HALL HROW HSRC HG6 HOS HSZ z0 z1 z7 t0 tf
                  go_wp2
                  go_roundw
                  case rel => exact ⟨i + 1, by go_num, ⟨by omega, by omega⟩, ⟨_, _, HDN.out, by rw [HLL.out, HXX.out]; exact (prt_ext (by omega) (by omega)).symm⟩, HB6.out⟩
                  case measure => simp [intOf]; omega
              · have hij' : ¬ (i : Int) ≤ (j : Int) := by omega
                obtain rfl : i = j + 1 := by omega
                go_wp2
                go_roundw
                case rel =>
                  obtain ⟨dv, l, hdw, hll⟩ := HDQ.out
                  refine ⟨j + 1, M, j + 1, _, c3, _, rfl, by go_num, by go_num, by omega, ⟨by have h1 := HMM.out; omega, by omega⟩, ⟨?_, ?_, ?_⟩, hdw, HBQ.out⟩
                  · intro _; rw [HC2.out, sl_app]
                  · rw [HC2.out, wrs_app, ← HP.out.2.1, hll]; simp [prs, wrs, prt]
                  · rw [HC2.out, List.length_append, HP.out.2.2, HMM.out]; rfl
                case measure => simp [intOf]; omega
        · have hm0 : m ≠ 0 := fun e => hfar (.inl e)
          have hnr : j ≤ L + 8 := by
            by_cases h : j ≤ L + 8
            · exact h
            · exact absurd (.inr h) hfar
          have hmb : ((m : Int) == 0) = false := by simpa using hm0
          have hnr' : ¬ (8 : Int) < (j : Int) - (L : Int) := by omega
          have HNE : Hid (S ≠ []) := fun e => hm0 (by rw [← HP.out.2.2, e]; rfl)
          have HLE : Hid (L = (sl S).2) := HP.out.1 hm0
          have HLS := hide (HIN.out _ (sl_mem HNE.out))
          have HC2 : Hid (chS O N (j + 1) = S.dropLast ++ [((sl S).1, j + 1)]) := by show _ = _; rw [HC.out]; exact if_pos ⟨HNE.out, by rw [← HLE.out]; exact hnr⟩
          have HSP := hide (sl_split HNE.out)
          have hRne : R ≠ [] := fun e => hm0 (by rw [← HRL.out, e]; rfl)
          obtain ⟨D, E, hDE⟩ : ∃ D E, R = D ++ [E] := ⟨R.dropLast, R.getLast hRne, (List.dropLast_concat_getLast hRne).symm⟩
          obtain ⟨ea, ed, el⟩ := E
          have HPD : Hid (prs D = wrs N S.dropLast ∧ ea = ((sl S).1 : Int) ∧ el = (N.drop (sl S).1).take (L - (sl S).1)) := by
            have h1 := HP.out.2.1
            rw [← HSP.out, hDE, wrs_app] at h1
            simp only [prs, List.map_append, List.map_cons, List.map_nil] at h1
            have h2 := List.append_inj' h1 rfl
            simp only [wrs, List.map_cons, List.map_nil, prt, List.cons.injEq, Prod.mk.injEq, and_true] at h2
            rw [HLE.out]
            exact ⟨h2.1, h2.2.1, h2.2.2⟩
          obtain ⟨A, hA⟩ : ∃ A, A = (sl S).1 := ⟨_, rfl⟩
          obtain ⟨S', hS'⟩ : ∃ S', S' = S.dropLast := ⟨_, rfl⟩
          rw [← hA, ← hS'] at HPD HC2
          have hAL : A < L := by rw [hA, HLE.out]; exact HLS.out.1
          obtain ⟨h1, h2, h3⟩ := HPD.out
          subst h2
          have HDL : Hid (D.length + 1 = m) := by have h9 := HRL.out; rw [hDE] at h9; show _ = _; simpa using h9
          obtain ⟨g, hg⟩ : ∃ g, ta = some ⟨g, 0, none⟩ := by
            rcases HDW2.out.ow.1.2.2 with ⟨he, _⟩ | ⟨g, cap, cur, he, _⟩
            · simp only [Value.slice.injEq] at he; omega
            · simp only [Value.slice.injEq] at he; exact ⟨g, he.1⟩
          subst hg
          have HD3 : Hid (DW w2 w.heap.size (.slice (some ⟨g, 0, none⟩) m tc) (D ++ [⟨(A : Int), ed, el⟩])) := by have h9 := HDW2.out; rw [hDE] at h9; exact h9
          have HEL := hide h3
          have HB3 := HB2
          have HPR := hide h1
          clear hA hS' hDE h1 h3 hRne hfar
          have HD4 : Hid (∃ dv l, DW w2 w.heap.size (.slice (some ⟨g, 0, none⟩) (m) tc) (D ++ [⟨(A : Int), dv, l⟩]) ∧ l = (N.drop A).take (L - A)) := ⟨_, _, HD3.out, HEL.out⟩
          have HKD : Hid (D.length + 1 = m) := HDL.out
          have hk1 : ((m : Nat) : Int) - 1 = ((D.length : Nat) : Int) := by have h9 := HKD.out; omega
          have hk2 : D.length < m := by have h9 := HKD.out; omega
          obtain ⟨K, hK⟩ : ∃ K, K = D.length := ⟨_, rfl⟩
          rw [← hK] at hk1 hk2
          have HKK := hide hK
          obtain ⟨M, hM⟩ : ∃ M, M = m := ⟨_, rfl⟩
          rw [← hM] at hk1 hk2 HD4 HKD hmb ⊢
          have hnd : decide ((8 : Int) < (j : Int) - (L : Int)) = false := decide_eq_false hnr'
          have HMM := hide hM
          clear hK hM HD3
          obtain ⟨h9, h8⟩ : M ≤ tc ∧ tc ≤ 9223372036854775807 := by
            obtain ⟨dv, l, h1, _⟩ := HD4.out
            obtain ⟨_, _, h7, h6, _⟩ := h1.last
            exact ⟨by have h5 := HKD.out; omega, h6⟩
          have hM5 : M ≤ 1048577 := by have h7 := HMM.out; omega
          go_wp2
          go_loopw [10] (fun q wr => ∃ (i : Nat), q = .int .i64 (i : Int) ∧ (L ≤ i ∧ i ≤ j + 1) ∧ Hid (∃ dv l, DW wr w.heap.size (.slice (some ⟨g, 0, none⟩) M tc) (D ++ [⟨(A : Int), dv, l⟩]) ∧ l = (N.drop A).take (i - A)) ∧ Hid (Below w.heap.size w wr)) (fun q _ => j + 1 - (intOf q).toNat)
          case atStart => exact ⟨L, by go_num, ⟨Nat.le_refl _, by omega⟩, HD4.out, HB3.out⟩
          case round =>
            obtain ⟨i, rfl, ⟨hi0, hi1⟩, HDQ, HBQ⟩ := hrel
            by_cases hij : i ≤ j
            · have hij' : (i : Int) ≤ (j : Int) := by omega
              obtain ⟨dv, l, hdw, hll⟩ := HDQ.out
              have HLL := hide hll
              have hln : l.length = i - A := by rw [hll]; exact prt_len (s := (A, i)) (by simp only; omega) (by simp only; omega)
              have HDD := hide hdw
              obtain ⟨da, dc, hdv⟩ := (hdw.ow.2 ⟨(A : Int), dv, l⟩ (by simp)).1.shape
              rw [hln] at hdv
              obtain ⟨n, hn⟩ : ∃ n, n = i - A := ⟨_, rfl⟩
              rw [← hn] at hdv hln
              have HNN := hide hn
              simp only at hdv
              subst hdv
              have hn5 : n ≤ 1048576 := by omega
              obtain ⟨z0, zf, z3, z4, z5, z6⟩ := hdw.last
              rw [← HKK.out] at z0
              have z1 : wr.frozen? ⟨g, K * 2 + 1, none⟩ = false := zf _
              obtain ⟨x, hx⟩ : ∃ x, x = N.getD i 0 := ⟨_, rfl⟩
              have y0 : wr.cell? ⟨nb, no + i, none⟩ = some (.int .u8 x) := by rw [hx]; exact HNC.out wr HBQ.out i (by omega)
              have HXX := hide hx
              have hbx : Below wr.heap.size wr (wr.alloc (.cells #[.int .u8 x] 5)) := (Below.refl _ _).alloc (Nat.le_refl _) _
              have z7 : (wr.alloc (.cells #[.int .u8 x] 5)).cell? ⟨g, K * 2 + 1, none⟩ = some (.slice da n dc) := (hbx.cell z5).trans z0
              have HGL := hide z5
              have HROW : Hid (∀ W : World, W.heap = (wr.alloc (.cells #[.int .u8 x] 5)).heap → OB W w.heap.size (.slice da n dc) l) := fun W hW => OB.move (w := wr) (HDD.out.ow.2 _ (List.mem_append_right _ (List.mem_singleton.2 rfl))).1 fun k hk => by rw [hW]; exact Below.heap_alloc _ _ k (((HDD.out.ow.2 _ (List.mem_append_right _ (List.mem_singleton.2 rfl))).1).lt k hk).2
              have HSRC : Hid (∀ W : World, W.heap = (wr.alloc (.cells #[.int .u8 x] 5)).heap → Src Try.prog 1 34 (.slice (some ⟨wr.heap.size, 0, none⟩) 1 1) ([x] : List Int).length (([x] : List Int).map (Value.int .u8)) W) := fun W hW => SB.src (v := .slice (some ⟨wr.heap.size, 0, none⟩) 1 1) (l := [x]) ((built_sb wr [x] (by unfold maxLen; simp)).move fun a u hu _ => by
                have e9 : W.cell? a = (wr.alloc (.cells (([x] : List Int).map (Value.int .u8)).toArray 5)).cell? a := by unfold World.cell?; rw [hW]; rfl
                rw [e9]; exact hu)
              have HLEN : Hid (l.length + ([x] : List Int).length ≤ 140737488355328) := by show _ ≤ _; simp; omega
              have HLEM : Hid (l.length + ([x] : List Int).length = n + 1) := by show _ = _; simp; omega
              have HSZ : Hid (∀ W : World, W.heap = (wr.alloc (.cells #[.int .u8 x] 5)).heap → w.heap.size ≤ W.heap.size) := fun W hW => by rw [hW, size_alloc']; have := HBQ.out.size; omega
              have HG6 : Hid (∀ (W w6 : World) (u : Value), W.heap = (wr.alloc (.cells #[.int .u8 x] 5)).heap → Grew W w6 (.slice da n dc) u → w6.cell? ⟨g, K * 2 + 1, none⟩ = some (.slice da n dc) ∧ w6.frozen? ⟨g, K * 2 + 1, none⟩ = false) := fun W w6 u hW hg => by
                have e1 : w6.heap[g]? = wr.heap[g]? := (hg.by.block g (by rw [hW, size_alloc']; have := HGL.out; omega) (fun e => (HDD.out.ow.2 _ (List.mem_append_right _ (List.mem_singleton.2 rfl))).2 g e.symm rfl)).trans (by rw [hW]; exact Below.heap_alloc _ _ g HGL.out)
                have e3 : w6.cell? ⟨g, K * 2 + 1, none⟩ = wr.cell? ⟨g, K * 2 + 1, none⟩ := by unfold World.cell?; simp only [e1]
                have e4 : w6.frozen? ⟨g, K * 2 + 1, none⟩ = wr.frozen? ⟨g, K * 2 + 1, none⟩ := by unfold World.frozen?; simp only [e1]
                exact ⟨e3.trans z0, e4.trans z1⟩
              have hiN : (i : Int) < (N.length : Int) := by omega
              have hiN2 : i < N.length := by omega
              have HOS : Hid (∀ (W w6 : World), W.heap = (wr.alloc (.cells #[.int .u8 x] 5)).heap → W.os = wr.os → W.tape = wr.tape → W.output = wr.output → Below w.heap.size w W) := fun W w6 hW h1 h2 h3 => by
                have hb := HBQ.out.alloc HBQ.out.size (.cells #[.int .u8 x] 5)
                exact ⟨h1.trans hb.os, h2.trans hb.tape, h3.trans hb.output, by rw [hW]; exact hb.size, fun k hk => by rw [hW]; exact hb.block k hk⟩
              clear hdw hll hn hx hln hbx zf
              go_wp2
              go_region_law (refine stepApp (by rfl) _ _ (by rfl) w.heap.size (.slice da n dc) (.slice (some ⟨wr.heap.size, 0, none⟩) 1 1) l [x] n (n + 1) (by simp [Act.eval, Act.put]) (by simp [Act.eval, Act.put]) (HROW.out _ (by rfl)) (HSRC.out _ (by rfl)) (by simp) HLEN.out (HSZ.out _ (by rfl)) HLEM.out ?_; intro gg cap6 w6 hown6 hgrow6; obtain ⟨t0, tf⟩ := HG6.out _ w6 _ (by rfl) hgrow6; have HW6 := hide (HOS.out _ w6 (by rfl) (by rfl) (by rfl) (by rfl)); have HALL := hide (And.intro hown6 hgrow6); have HDN := hide (HDD.out.grow (by rfl) hgrow6 hown6 (by rfl)); clear hown6 hgrow6)
              all_goals
                have HB6 : Hid (Below w.heap.size w (w6.setCell ⟨g, K * 2 + 1, none⟩ (.slice (some ⟨gg, 0, none⟩) (n + 1) cap6))) := (HW6.out.grown (undrew15 HALL.out.2.by) HW6.out.size (fun k hk => ((HDD.out.ow.2 _ (List.mem_append_right _ (List.mem_singleton.2 rfl))).1.lt k hk).1)).setCell z6 _
                rw [← HKK.out] at HDN
                clear HALL HROW HSRC HG6 HOS HSZ z0 z1 z7 t0 tf
                go_wp2
                go_roundw
                case rel => exact ⟨i + 1, by go_num, ⟨by omega, by omega⟩, ⟨_, _, HDN.out, by rw [HLL.out, HXX.out]; exact (prt_ext (by omega) (by omega)).symm⟩, HB6.out⟩
                case measure => simp [intOf]; omega
            · have hij' : ¬ (i : Int) ≤ (j : Int) := by omega
              obtain rfl : i = j + 1 := by omega
              go_wp2
              go_roundw
              case rel =>
                obtain ⟨dv, l, hdw, hll⟩ := HDQ.out
                refine ⟨j + 1, M, j + 1, _, tc, _, rfl, by go_num, by go_num, by omega, ⟨by have h1 := HMM.out; omega, by omega⟩, ⟨?_, ?_, ?_⟩, hdw, HBQ.out⟩
                · intro _; rw [HC2.out, sl_app]
                · rw [HC2.out, wrs_app, ← HPR.out, hll]; simp [prs, wrs, prt]
                · have e1 : S'.length = D.length := by have h9 := congrArg List.length HPR.out; simp only [prs, wrs, List.length_map] at h9; exact h9.symm
                  rw [HC2.out, List.length_append, e1, HMM.out]; exact HDL.out
              case measure => simp [intOf]; omega
    · have hje : ¬ (j : Int) < (N.length : Int) := by omega
      obtain rfl : j = N.length := by omega
      go_wp2
      go_ret
      exact ⟨_, rfl, R, HP.out.2.1, HDW.out.ow.sw, HB.out⟩
end Go.Proofs.Ytlidmhdcikcpkaa

