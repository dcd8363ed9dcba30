import Derived.Test.YthjgabncifghaabRBNum
namespace Go.Proofs.Ythjgabncifghaab
open Go.RowKit Go.Maps
set_option maxRecDepth 20000

theorem pow_le (n : Nat) (hn : n = 1 ∨ n = 2 ∨ n = 4) : (1 : Int) ≤ 256 ^ n ∧ (256 : Int) ^ n ≤ 4294967296 := by
  obtain rfl | rfl | rfl := hn <;> decide

theorem rbnumber_any {w : World} {K : Nat → Nat} {g : Nat} {u : Value} {st : BSt} (h : BuV false w K g u st) (v : Int) (n : Nat) (hn : n = 1 ∨ n = 2 ∨ n = 4) (hv1 : v ≤ 9223372036854775807) (hl : st.l.length + 4 ≤ 140737488355328) :
    Calls Try.prog 66 #[.pointer (some ⟨g, 0, none⟩), .int .i64 v, .int .i64 (n : Int)] w fun e w' => e = .returned (.tuple #[]) ∧ ∃ K', Bu false w' K' g (numSt st v n) ∧ Fr K K' w w' := by
  have H := hide h
  have ht := h.top
  obtain ⟨c0, c1, c2⟩ := S3.at h.s
  have hfz := S3.free h.s
  obtain ⟨a, c, rfl⟩ := h.o.shape
  have hp := h.pos
  have hn4 : n ≤ 4 := by omega
  clear h
  by_cases he : st.e = 0
  case neg =>
    have HS : Hid (numSt st v n = st) := by show _ = _; unfold numSt; rw [if_pos he]
    have he' : (st.e != 0) = true := by simpa using he
    clear c0 c1 hp
    go_enter Try.func66, Try.ntmps66
    go_wp2
    (try simp only [Exit.inBlock, Exit.then]); refine bodyPost_ret (results_none rfl _ _ _) rfl ?_
    rw [HS.out]
    exact ⟨rfl, K, ⟨_, H.out⟩, Fr.refl _ _⟩
  case pos =>
  have hm := hp he
  rw [he] at c2
  obtain ⟨P, HP, hP1, hP2⟩ : ∃ P : Int, Hid (P = 256 ^ n) ∧ 1 ≤ P ∧ P ≤ 4294967296 := ⟨_, rfl, (pow_le n hn).1, (pow_le n hn).2⟩
  clear hp
  by_cases hw : wide v n
  case pos =>
    have HS : Hid (numSt st v n = { st with e := 21 }) := by show _ = _; unfold numSt; rw [if_neg (by simp [he]), if_pos hw]
    have HE := hide (H.out.err 21 (by omega))
    clear he
    by_cases h0 : v < 0
    · clear hw
      go_enter Try.func66, Try.ntmps66
      go_wp2
      (try simp only [Exit.inBlock, Exit.then]); refine bodyPost_ret (results_none rfl _ _ _) rfl ?_
      rw [HS.out]
      exact ⟨rfl, K, ⟨_, HE.out.1⟩, HE.out.2⟩
    · have h1 : P ≤ v := by
        rcases hw with h | h
        · exact absurd h h0
        · rw [HP.out]; exact h
      clear hw
      go_enter Try.func66, Try.ntmps66
      go_wp2_with fail
      refine (greatest_any n hn4 _).mono ?_
      rintro e w1 ⟨rfl, hw1⟩
      subst hw1
      rw [← HP.out]
      go_wp2
      (try simp only [Exit.inBlock, Exit.then]); refine bodyPost_ret (results_none rfl _ _ _) rfl ?_
      rw [HS.out]
      exact ⟨rfl, K, ⟨_, HE.out.1⟩, HE.out.2⟩
  case neg =>
  have h0 : ¬ v < 0 := fun h => hw (.inl h)
  have h1 : ¬ P ≤ v := fun h => hw (.inr (by rw [← HP.out]; exact h))
  by_cases hr : st.m - st.l.length < n
  case pos =>
    have HS : Hid (numSt st v n = { st with e := 22 }) := by show _ = _; unfold numSt; rw [if_neg (by simp [he]), if_neg hw, if_pos hr]
    clear he hw
    go_enter Try.func66, Try.ntmps66
    go_wp2_with fail
    refine (greatest_any n hn4 _).mono ?_
    rintro e w1 ⟨rfl, hw1⟩
    subst hw1
    rw [← HP.out]
    go_wp2
    go_quiet (fail)
    go_wp2
    (try simp only [Exit.inBlock, Exit.then]); refine bodyPost_ret (results_none rfl _ _ _) rfl ?_
    rw [HS.out]
    exact ⟨rfl, K, ⟨_, ((H.out.drewN _).err 22 (by omega)).1⟩, ((Fr.refl K _).drewN _).trans ((H.out.drewN _).err 22 (by omega)).2⟩
  case neg =>
    have HS : Hid (numSt st v n = { st with l := st.l ++ bytesLE v n }) := by show _ = _; unfold numSt; rw [if_neg (by simp [he]), if_neg hw, if_neg hr]
    clear he hw
    go_enter Try.func66, Try.ntmps66
    go_wp2_with fail
    refine (greatest_any n hn4 _).mono ?_
    rintro e w1 ⟨rfl, hw1⟩
    subst hw1
    rw [← HP.out]
    go_wp2
    go_quiet (fail)
    go_wp2_with fail
    have HD : Hid (BuV false (w1.drewN nq) K g (.slice a st.l.length c) st) := H.out.drewN nq
    refine (bytesOf_any v n hn4 (by omega) hv1 _).mono ?_
    rintro e w2 ⟨a2, p2, rfl, ho2, hb2⟩
    have h2 : BuV false w2 K g (.slice a st.l.length c) st := HD.out.far hb2.size (fun k hk => hb2.block k (HD.out.sup k hk))
    have HF2 : Hid (Fr K K w1 w2) := ((Fr.refl K w1).drewN nq).trans (Fr.of_below hb2)
    obtain ⟨x0, x1, x2⟩ := S3.at h2.s
    have HB := hide h2
    have HO2 := hide ho2
    have HL : Hid (st.l.length + (bytesLE v n).length ≤ 140737488355328) := by show _ ≤ _; rw [length_bytesLE]; omega
    clear h2 ho2 hb2 c0 c1 c2 hfz x0 x2
    go_wp2_with (at_builtin; refine wpList_app rfl _ _ 28 rfl 0 _ _ st.l (bytesLE v n) rfl HB.out.o rfl HO2.out.sb.src HL.out (Nat.zero_le _) ?_)
    intro v' w3 ho hgr
    have hgl := HB.out.s.lt
    have e1 : w3.heap[g]? = w2.heap[g]? := hgr.by.block g hgl (fun e => HB.out.ng e.symm)
    have hs2 : S3 74 w3 g (.int .i64 st.m) (.slice a st.l.length c) (.int .i64 st.e) := HB.out.s.same e1
    obtain ⟨d0, d1, d2⟩ := hs2.at
    have hfz2 := hs2.free
    have HFIN : Hid (∃ K', BuV false (w3.setCell ⟨g, 1, none⟩ v') K' g v' { st with l := st.l ++ bytesLE v n } ∧ Fr K K' w1 (w3.setCell ⟨g, 1, none⟩ v')) := by
      obtain ⟨K', h1, h2⟩ := HB.out.put hgr.by ho (by
        rcases hgr.at with e | e
        · exact .inr (fun k hk => by rw [e] at hk; cases hk; exact Nat.le_refl _)
        · exact .inl e)
      exact ⟨K', h1, HF2.out.trans h2⟩
    obtain ⟨av, cv, rfl⟩ := ho.shape
    clear ho hgr hs2 e1 d0 d2
    go_wp2
    (try simp only [Exit.inBlock, Exit.then]); refine bodyPost_end (results_none rfl _ _ _) rfl ?_
    obtain ⟨K', h1, h2⟩ := HFIN.out
    rw [HS.out, ← List.length_append]
    exact ⟨rfl, K', ⟨_, h1⟩, h2⟩

set_option linter.unusedSimpArgs false in
set_option maxHeartbeats 4000000 in
theorem rbtext_any {w : World} {K : Nat → Nat} {g : Nat} {u : Value} {st : BSt} (h : BuV false w K g u st) (s : ByteArray) (hl : st.l.length + s.size ≤ 140737488355328) :
    Calls Try.prog 57 #[.pointer (some ⟨g, 0, none⟩), .string s] w fun e w' => e = .returned (.tuple #[]) ∧ ∃ K', Bu false w' K' g (textSt st s) ∧ Fr K K' w w' := by
  have H := hide h
  have ht := h.top
  obtain ⟨c0, c1, c2⟩ := S3.at h.s
  have hfz := S3.free h.s
  obtain ⟨a, c, rfl⟩ := h.o.shape
  have hp := h.pos
  clear h
  by_cases he : st.e = 0
  case neg =>
    have HS : Hid (textSt st s = st) := by show _ = _; unfold textSt; rw [if_pos he]
    have he' : (st.e != 0) = true := by simpa using he
    clear c0 c1 hp
    go_enter Try.func57, Try.ntmps57
    go_wp2
    (try simp only [Exit.inBlock, Exit.then]); refine bodyPost_ret (results_none rfl _ _ _) rfl ?_
    rw [HS.out]
    exact ⟨rfl, K, ⟨_, H.out⟩, Fr.refl _ _⟩
  case pos =>
  have hm := hp he
  rw [he] at c2
  clear hp
  by_cases hr : st.m - st.l.length < s.size
  case pos =>
    have HS : Hid (textSt st s = { st with e := 22 }) := by show _ = _; unfold textSt; rw [if_neg (by simp [he]), if_pos hr]
    clear he
    go_enter Try.func57, Try.ntmps57
    go_wp2
    go_quiet (fail)
    go_wp2
    (try simp only [Exit.inBlock, Exit.then]); refine bodyPost_ret (results_none rfl _ _ _) rfl ?_
    rw [HS.out]
    exact ⟨rfl, K, ⟨_, ((H.out.drewN _).err 22 (by omega)).1⟩, ((Fr.refl K _).drewN _).trans ((H.out.drewN _).err 22 (by omega)).2⟩
  case neg =>
    have HS : Hid (textSt st s = { st with l := st.l ++ strL s }) := by show _ = _; unfold textSt; rw [if_neg (by simp [he]), if_neg hr]
    have HSZ := hide (length_strL s)
    clear he
    go_enter Try.func57, Try.ntmps57
    go_wp2
    go_quiet (fail)
    go_wp2
    have HD : Hid (BuV false (w.drewN nq) K g (.slice a st.l.length c) st) := H.out.drewN nq
    go_loopw [4] (fun i wr => ∃ k : Nat, k ≤ s.size ∧ i = .int .i64 k ∧ Hid (∃ K' v', BuV false wr K' g v' { st with l := st.l ++ (strL s).take k } ∧ Fr K K' w wr)) (fun i _ => s.size - (intOf i).toNat)
    case atStart => exact ⟨0, Nat.zero_le _, rfl, K, _, by simpa using HD.out, (Fr.refl K w).drewN nq⟩
    case round =>
      clear c0 c1 c2 hfz HD
      obtain ⟨k, hk, rfl, HQ⟩ := hrel
      obtain ⟨K1, v1, hb1, hf1⟩ := HQ.out
      by_cases hlt : k < s.size
      · obtain ⟨l1, HL1⟩ : ∃ l1, Hid (l1 = st.l ++ (strL s).take k) := ⟨_, rfl⟩
        rw [← HL1.out] at hb1
        have hll : l1.length = st.l.length + k := by rw [HL1.out, List.length_append, List.length_take, HSZ.out]; omega
        have HLL : Hid (l1.length + 1 ≤ 140737488355328) := by show _ ≤ _; omega
        obtain ⟨c0, c1, c2⟩ := S3.at hb1.s
        have hfz := S3.free hb1.s
        obtain ⟨a1, p1, rfl⟩ := hb1.o.shape
        have hgl := hb1.s.lt
        obtain ⟨c, hc⟩ : ∃ c : Int, ((s[k]'hlt).toNat : Int) = c := ⟨_, rfl⟩
        have HC : Hid ((strL s).take (k + 1) = (strL s).take k ++ [c]) := by
          have hkl : k < (strL s).length := by rw [HSZ.out]; exact hlt
          show _ = _
          rw [List.take_succ_eq_append_getElem hkl, ← hc]
          congr 2
          simp [strL]
          rfl
        have HB1 := hide hb1
        have HF1 := hide hf1
        have k1 : (wr.alloc (.cells #[.int .u8 c] 5)).cell? ⟨g, 1, none⟩ = some (.slice a1 l1.length p1) := (((Below.refl wr.heap.size wr).alloc (Nat.le_refl _) _).cell hgl).trans c1
        have HROW : Hid (∀ W : World, W.heap = (wr.alloc (.cells #[.int .u8 c] 5)).heap → W.ownsRow 0 5 1 (.slice a1 l1.length p1) l1.length (l1.map (Value.int .u8))) := fun W hW => OB.move (w := wr) HB1.out.o fun x hx => by rw [hW]; exact Below.heap_alloc _ _ x (HB1.out.o.lt x hx).2
        have HG6 : Hid (∀ (w6 : World), (wr.alloc (.cells #[.int .u8 c] 5)).drew.grownBy w6 (Value.slice a1 l1.length p1).ownBlock → w6.cell? ⟨g, 1, none⟩ = some (.slice a1 l1.length p1) ∧ w6.frozen? ⟨g, 1, none⟩ = false) := fun w6 hg => by
          have e1 : w6.heap[g]? = wr.heap[g]? := (hg.block g (by show g < (wr.alloc _).heap.size; rw [size_alloc']; omega) (fun e => HB1.out.ng e.symm)).trans (Below.heap_alloc _ _ g hgl)
          have hs : S3 74 w6 g (.int .i64 st.m) (.slice a1 l1.length p1) (.int .i64 st.e) := HB1.out.s.same e1
          exact ⟨hs.at.2.1, hs.free 1⟩
        obtain ⟨i5, hi5, hz50, hz51, hz52⟩ := info_parts info5
        have HI5 := hide hi5
        have HZ50 := hide hz50
        have HZ51 := hide hz51
        have HZ52 := hide hz52
        have HP1 : Hid (0 < 1) := by show 0 < 1; omega
        have HPM : Hid (l1.length + 1 ≤ maxLen) := by show _ ≤ _; unfold maxLen; have := HLL.out; omega
        have HPB : Hid ((l1.length + 1) * 1 ≤ 140737488355328) := by show _ ≤ _; have := HLL.out; omega
        clear hb1 hf1 HQ c0 c2 hll hi5 hz50 hz51 hz52
        go_wp2
        go_region_law (refine step_append_lies _ (by rfl) _ _ _ (by rfl) 0 5 i5 _ 1 1 Try.underlying28 HI5.out HZ50.out HZ51.out HZ52.out rfl HP1.out (.slice a1 l1.length p1) l1.length (l1.map (Value.int .u8)) (by simp [Act.eval, Act.put]) (HROW.out _ (by rfl)) ⟨wr.heap.size, 0, none⟩ 1 1 [.int .u8 c] (by simp [Act.eval, Act.put]) (by rfl) (World.news_of_block (cs := #[.int .u8 c]) (t := 5) (fr := (0, 0)) (heap_alloc_new wr _)) (fun u hu => by rw [List.mem_singleton.1 hu]; rfl) HP1.out HPM.out HPB.out (Nat.zero_le _) (wr.heap.size + 1) (by simp) ?_; intro gg cap6 w6 hown6 hgrow6 hat6 hlt6; obtain ⟨t4, tf⟩ := HG6.out w6 hgrow6; have HALL := hide (And.intro hown6 (And.intro hgrow6 hat6)); clear hown6 hgrow6 hat6 hlt6)
        all_goals
          obtain ⟨hown6, hgrow6, hat6⟩ := HALL.out
          obtain ⟨K7, hb7, hf7⟩ := HB1.out.app1 hown6 hgrow6 hat6
          have HN : Hid (∃ K' v', BuV false (w6.setCell ⟨g, 1, none⟩ (.slice (some ⟨gg, 0, none⟩) (l1.length + 1) cap6)) K' g v' { st with l := st.l ++ (strL s).take (k + 1) } ∧ Fr K K' w (w6.setCell ⟨g, 1, none⟩ (.slice (some ⟨gg, 0, none⟩) (l1.length + 1) cap6))) := by
            refine ⟨K7, .slice (some ⟨gg, 0, none⟩) (l1.length + 1) cap6, ?_, HF1.out.trans hf7⟩
            have e : st.l ++ (strL s).take (k + 1) = l1 ++ [c] := by rw [HC.out, ← List.append_assoc, ← HL1.out]
            rw [e]
            exact hb7
          clear hown6 hgrow6 hat6 hb7 hf7 HALL t4 tf k1
          go_wp2
          go_roundw
          case rel => exact ⟨k + 1, by omega, by go_num, HN.out⟩
          case measure => simp [intOf]; omega
      · have hkn : k = s.size := by omega
        have HB1 := hide (And.intro hb1 hf1)
        clear hb1 hf1 HQ
        have hlt' : ¬ (k : Int) < (s.size : Int) := by omega
        go_wp2
        (try simp only [Exit.inBlock, Exit.then]); refine bodyPost_end (results_none rfl _ _ _) rfl ?_
        have h1 := HB1.out
        rw [List.take_of_length_le (by rw [HSZ.out]; omega)] at h1
        rw [HS.out]
        exact ⟨rfl, K1, ⟨v1, h1.1⟩, h1.2⟩
end Go.Proofs.Ythjgabncifghaab
