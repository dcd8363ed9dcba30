import Derived.Test.YtjmjjjpanioifaaGBNum
namespace Go.Proofs.Ytjmjjjpanioifaa
open Go.RowKit Go.Maps
set_option maxRecDepth 20000

theorem shr_run (v : Int) (k : Nat) (hk : k < 4) (w : World) : (Op.shift BinOp.shr IntKind.i64 v IntKind.i64 (IntKind.i64.wrap (8 * (k : Int)))).run Try.prog w = .ok (.int .i64 (v / 256 ^ k)) w := by
  obtain rfl | rfl | rfl | rfl : k = 0 ∨ k = 1 ∨ k = 2 ∨ k = 3 := by omega
  all_goals rw [IntKind.wrap_i64]
  all_goals simp

/-- One byte more. -/
theorem BuV.app1 {p : Bool} {w w6 : World} {K : Nat → Nat} {g gg cap : Nat} {v : Value} {st : BSt} {c : Int} {o : Obj} (h : BuV p w K g v st) (hown : w6.ownsRow 0 5 1 (.slice (some ⟨gg, 0, none⟩) (st.l.length + 1) cap) (st.l.length + 1) (st.l.map (Value.int .u8) ++ [.int .u8 c])) (hgrow : (w.alloc o).drew.grownBy w6 v.ownBlock) (hat : v.ownBlock = some gg ∨ gg = w.heap.size + 1) :
    ∃ K', BuV p (w6.setCell ⟨g, spot p, none⟩ (.slice (some ⟨gg, 0, none⟩) (st.l.length + 1) cap)) K' g (.slice (some ⟨gg, 0, none⟩) (st.l.length + 1) cap) { st with l := st.l ++ [c] } ∧ Fr K K' w (w6.setCell ⟨g, spot p, none⟩ (.slice (some ⟨gg, 0, none⟩) (st.l.length + 1) cap)) := by
  have ho : OB w6 0 (.slice (some ⟨gg, 0, none⟩) (st.l.length + 1) cap) (st.l ++ [c]) := by
    unfold OB
    rw [List.length_append, List.map_append]
    exact hown
  refine h.put ((grownBy_drew (grownBy_alloc' w o _)).trans hgrow) ho ?_
  rcases hat with e | e
  · exact .inl (by rw [e]; rfl)
  · exact .inr (fun k hk => by simp [Value.ownBlock] at hk; omega)

set_option linter.unusedSimpArgs false in
set_option maxHeartbeats 4000000 in
theorem bnumber_any {w : World} {K : Nat → Nat} {g : Nat} {u : Value} {st : BSt} (h : BuV true w K g u st) (v : Int) (n : Nat) (hn : n = 1 ∨ n = 2 ∨ n = 4) (hv0 : -9223372036854775808 ≤ v) (hv1 : v ≤ 9223372036854775807) (hl : st.l.length + 4 ≤ 140737488355328) :
    Calls Try.prog 68 #[.pointer (some ⟨g, 0, none⟩), .int .i64 v, .int .i64 (n : Int)] w fun e w' => e = .returned (.tuple #[]) ∧ ∃ K', Bu true w' K' g (numSt st v n) ∧ Fr K K' w w' := by
  have H := hide h
  clear h
  by_cases he : st.e = 0
  case neg =>
    have HS : Hid (numSt st v n = st) := by show _ = _; unfold numSt; rw [if_pos he]
    have he' : (st.e != 0) = true := by simpa using he
    go_enter Try.func68, Try.ntmps68
    go_wp2_with fail
    refine (berr_any H.out).mono ?_
    rintro e w ⟨rfl, rfl⟩
    go_wp2
    (try simp only [Exit.inBlock, Exit.then]); refine bodyPost_ret (results_none rfl _ _ _) rfl ?_
    rw [HS.out]
    exact ⟨rfl, K, ⟨u, H.out⟩, Fr.refl _ _⟩
  case pos =>
  have HE := hide he
  by_cases hw : wide v n
  case pos =>
    have HW := hide hw
    have HS : Hid (numSt st v n = { st with e := 21 }) := by show _ = _; unfold numSt; rw [if_neg (by simp [he]), if_pos hw]
    clear he hw
    go_enter Try.func68, Try.ntmps68
    go_wp2_with fail
    refine (berr_any H.out).mono ?_
    rintro e w ⟨rfl, rfl⟩
    rw [HE.out]
    go_wp2_with fail
    refine (fits_no H.out v n hn hv0 hv1 HW.out).mono ?_
    rintro e w1 ⟨rfl, hb, hf⟩
    have HF := hide (And.intro hb hf)
    clear hb hf
    go_wp2
    (try simp only [Exit.inBlock, Exit.then]); refine bodyPost_ret (results_none rfl _ _ _) rfl ?_
    rw [HS.out]
    exact ⟨rfl, K, ⟨u, HF.out.1⟩, HF.out.2⟩
  case neg =>
  have HW := hide hw
  by_cases hr : st.m - st.l.length < n
  case pos =>
    have HR := hide hr
    have HS : Hid (numSt st v n = { st with e := 22 }) := by show _ = _; unfold numSt; rw [if_neg (by simp [he]), if_neg hw, if_pos hr]
    clear he hw hr
    go_enter Try.func68, Try.ntmps68
    go_wp2_with fail
    refine (berr_any H.out).mono ?_
    rintro e w ⟨rfl, rfl⟩
    rw [HE.out]
    go_wp2_with fail
    refine (fits_yes H.out v n hn HW.out).mono ?_
    rintro e w1 ⟨rfl, hw1⟩
    subst hw1
    go_wp2_with fail
    refine (room_no H.out n HE.out HR.out).mono ?_
    rintro e w1 ⟨rfl, hb, hf⟩
    have HF := hide (And.intro hb hf)
    clear hb hf
    go_wp2
    (try simp only [Exit.inBlock, Exit.then]); refine bodyPost_ret (results_none rfl _ _ _) rfl ?_
    rw [HS.out]
    exact ⟨rfl, K, ⟨u, HF.out.1⟩, HF.out.2⟩
  case neg =>
    have HR : Hid (¬ st.m - st.l.length < n) := hr
    have hr' : (n : Int) ≤ st.m - st.l.length := by omega
    have HS : Hid (numSt st v n = { st with l := st.l ++ bytesLE v n }) := by show _ = _; unfold numSt; rw [if_neg (by simp [he]), if_neg hw, if_neg hr]
    have hvp : 0 ≤ v := by
      by_cases h : v < 0
      · exact absurd (.inl h) hw
      · omega
    have hn4 : n ≤ 4 := by omega
    clear he hw hr
    go_enter Try.func68, Try.ntmps68
    go_wp2_with fail
    refine (berr_any H.out).mono ?_
    rintro e w ⟨rfl, rfl⟩
    rw [HE.out]
    go_wp2_with fail
    refine (fits_yes H.out v n hn HW.out).mono ?_
    rintro e w1 ⟨rfl, hw1⟩
    subst hw1
    go_wp2_with fail
    refine (room_yes H.out n HE.out (by omega)).mono ?_
    rintro e w2 ⟨rfl, hb, hf⟩
    have HF := hide (And.intro hb hf)
    clear hb hf
    go_wp2
    go_loopw [24] (fun i wr => ∃ k : Nat, k ≤ n ∧ i = .int .i64 k ∧ Hid (∃ K' v', BuV true wr K' g v' { st with l := st.l ++ bytesLE v k } ∧ Fr K K' w1 wr)) (fun i _ => n - (intOf i).toNat)
    case atStart => exact ⟨0, Nat.zero_le _, rfl, K, u, by simpa [bytesLE] using HF.out.1, HF.out.2⟩
    case round =>
      obtain ⟨k, hk, rfl, HQ⟩ := hrel
      obtain ⟨K1, v1, hb1, hf1⟩ := HQ.out
      by_cases hlt : k < n
      · obtain ⟨l1, HL1⟩ : ∃ l1, Hid (l1 = st.l ++ bytesLE v k) := ⟨_, rfl⟩
        rw [← HL1.out] at hb1
        have hll : l1.length = st.l.length + k := by rw [HL1.out, List.length_append, length_bytesLE]
        have HLL : Hid (l1.length + 1 ≤ 140737488355328) := by show _ ≤ _; omega
        obtain ⟨c0, c1, c2⟩ := S3.at hb1.s
        have hfz := S3.free hb1.s
        obtain ⟨a1, p1, rfl⟩ := hb1.o.shape
        have hgl := hb1.s.lt
        obtain ⟨q, HQ2⟩ : ∃ q, Hid (q = v / 256 ^ k) := ⟨_, rfl⟩
        have hsh : ∀ W : World, (Op.shift BinOp.shr IntKind.i64 v IntKind.i64 (IntKind.i64.wrap (8 * (k : Int)))).run Try.prog W = .ok (.int .i64 q) W := fun W => by rw [HQ2.out]; exact shr_run v k (by omega) W
        obtain ⟨c, HC⟩ : ∃ c, Hid (c = q % 256) := ⟨_, rfl⟩
        have hcw : IntKind.u8.wrap q = c := by rw [IntKind.wrap_u8, HC.out]
        have HB1 := hide hb1
        have HF1 := hide hf1
        have k1 : (wr.alloc (.cells #[.int .u8 c] 5)).cell? ⟨g, 0, none⟩ = some (.slice a1 l1.length p1) := (((Below.refl wr.heap.size wr).alloc (Nat.le_refl _) _).cell hgl).trans c0
        have HROW : Hid (∀ W : World, W.heap = (wr.alloc (.cells #[.int .u8 c] 5)).heap → W.ownsRow 0 5 1 (.slice a1 l1.length p1) l1.length (l1.map (Value.int .u8))) := fun W hW => OB.move (w := wr) HB1.out.o fun x hx => by rw [hW]; exact Below.heap_alloc _ _ x (HB1.out.o.lt x hx).2
        have HG6 : Hid (∀ (w6 : World), (wr.alloc (.cells #[.int .u8 c] 5)).drew.grownBy w6 (Value.slice a1 l1.length p1).ownBlock → w6.cell? ⟨g, 0, none⟩ = some (.slice a1 l1.length p1) ∧ w6.frozen? ⟨g, 0, none⟩ = false) := fun w6 hg => by
          have e1 : w6.heap[g]? = wr.heap[g]? := (hg.block g (by show g < (wr.alloc _).heap.size; rw [size_alloc']; omega) (fun e => HB1.out.ng e.symm)).trans (Below.heap_alloc _ _ g hgl)
          have hs : S3 110 w6 g (.slice a1 l1.length p1) (.int .i64 st.m) (.int .i64 st.e) := HB1.out.s.same e1
          exact ⟨hs.at.1, hs.free 0⟩
        obtain ⟨i5, hi5, hz50, hz51, hz52⟩ := info_parts info5
        have HI5 := hide hi5
        have HZ50 := hide hz50
        have HZ51 := hide hz51
        have HZ52 := hide hz52
        have HP1 : Hid (0 < 1) := by show 0 < 1; omega
        have HPM : Hid (l1.length + 1 ≤ maxLen) := by show _ ≤ _; unfold maxLen; have := HLL.out; omega
        have HPB : Hid ((l1.length + 1) * 1 ≤ 140737488355328) := by show _ ≤ _; have := HLL.out; omega
        clear hb1 hf1 HQ c1 c2 hi5 hz50 hz51 hz52 hll
        go_wp2
        go_region_law (refine step_append_lies _ (by rfl) _ _ _ (by rfl) 0 5 i5 _ 1 1 Try.underlying42 HI5.out HZ50.out HZ51.out HZ52.out rfl HP1.out (.slice a1 l1.length p1) l1.length (l1.map (Value.int .u8)) (by simp [Act.eval, Act.put]) (HROW.out _ (by rfl)) ⟨wr.heap.size, 0, none⟩ 1 1 [.int .u8 c] (by simp [Act.eval, Act.put]) (by rfl) (World.news_of_block (cs := #[.int .u8 c]) (t := 5) (fr := (0, 0)) (heap_alloc_new wr _)) (fun u hu => by rw [List.mem_singleton.1 hu]; rfl) HP1.out HPM.out HPB.out (Nat.zero_le _) (wr.heap.size + 1) (by simp) ?_; intro gg cap6 w6 hown6 hgrow6 hat6 hlt6; obtain ⟨t4, tf⟩ := HG6.out w6 hgrow6; have HALL := hide (And.intro hown6 (And.intro hgrow6 hat6)); clear hown6 hgrow6 hat6 hlt6)
        all_goals
          obtain ⟨hown6, hgrow6, hat6⟩ := HALL.out
          obtain ⟨K7, hb7, hf7⟩ := HB1.out.app1 hown6 hgrow6 hat6
          have HN : Hid (∃ K' v', BuV true (w6.setCell ⟨g, 0, none⟩ (.slice (some ⟨gg, 0, none⟩) (l1.length + 1) cap6)) K' g v' { st with l := st.l ++ bytesLE v (k + 1) } ∧ Fr K K' w1 (w6.setCell ⟨g, 0, none⟩ (.slice (some ⟨gg, 0, none⟩) (l1.length + 1) cap6))) := by
            refine ⟨K7, .slice (some ⟨gg, 0, none⟩) (l1.length + 1) cap6, ?_, HF1.out.trans hf7⟩
            have e : st.l ++ bytesLE v (k + 1) = l1 ++ [c] := by rw [bytesLE_snoc, ← List.append_assoc, ← HL1.out, HC.out, HQ2.out]
            rw [e]
            exact hb7
          clear hown6 hgrow6 hat6 hb7 hf7 HALL t4 tf k1
          go_wp2
          go_roundw
          case rel => exact ⟨k + 1, by omega, by go_num, HN.out⟩
          case measure => simp [intOf]; omega
      · have hkn : k = n := by omega
        have HB1 := hide (And.intro hb1 hf1)
        clear hb1 hf1 HQ
        have hlt' : ¬ (k : Int) < (n : Int) := by omega
        go_wp2
        (try simp only [Exit.inBlock, Exit.then]); refine bodyPost_end (results_none rfl _ _ _) rfl ?_
        rw [HS.out, ← hkn]
        exact ⟨rfl, K1, ⟨v1, HB1.out.1⟩, HB1.out.2⟩
end Go.Proofs.Ytjmjjjpanioifaa

