import Derived.Test.YtmbgjkghcpkoiaaGQe
import Derived.Test.YtmbgjkghcpkoiaaGQd
namespace Go.Proofs.Ytmbgjkghcpkoiaa.H4
open Go.RowKit Go.Maps
set_option maxRecDepth 20000

theorem SI.len {w : World} {v : Value} {l : List Int} (h : SI w v l) : ∃ a c, v = .slice a l.length c := by
  obtain ⟨a, c, rfl, _⟩ := h
  exact ⟨a, c, rfl⟩

/-- An element of a slice that is read. -/
theorem SI.cellAt {w w' : World} {ao : Option Addr} {cap n : Nat} {l : List Int} (h : SI w (.slice ao n cap) l) (hb : Below w.heap.size w w') {k : Nat} (hk : k < l.length) : ∃ b o, ao = some ⟨b, o, none⟩ ∧ w'.cell? ⟨b, o + k, none⟩ = some (.int .i64 (l.getD k 0)) := by
  obtain ⟨a, c, e, h1, h2, h3, h4⟩ := h
  simp only [Value.slice.injEq] at e
  obtain ⟨rfl, rfl, rfl⟩ := e
  cases ao with
  | none => have := h3 rfl; omega
  | some x =>
    obtain ⟨b, o, rfl⟩ := addr_lit (h4 x rfl 0 (by omega))
    have := h4 _ rfl k hk
    rw [Addr.add_lit] at this
    exact ⟨b, o, rfl, (hb.cell (World.block_lt_of_cell? _ _ this)).trans this⟩

theorem SI.drewN {w : World} {v : Value} {l : List Int} (h : SI w v l) (n : Nat) : SI (w.drewN n) v l := h.move fun _ _ ha _ => ha

theorem rahead_any (v : Value) (keys : List Int) (w : World) (hs : SI w v keys) (i j : Nat) (hi : i < keys.length) (hj : j < keys.length) :
    Calls Try.prog 27 #[v, .int .i64 i, .int .i64 j] w fun e w' => e = .returned (.bool (decide (Ah keys i j))) ∧ ∃ n, w' = w.drewN n := by
  obtain ⟨ao, cap, rfl⟩ := hs.len
  obtain ⟨b, o, rfl, c1⟩ := hs.cellAt (Below.refl _ _) hi
  obtain ⟨b', o', e, c2⟩ := hs.cellAt (Below.refl _ _) hj
  simp only [Option.some.injEq, Addr.mk.injEq] at e
  obtain ⟨rfl, rfl, -⟩ := e
  have HD : Hid (decide (Ah keys i j) = decide (keys.getD i 0 < keys.getD j 0 ∨ keys.getD i 0 = keys.getD j 0 ∧ (i : Int) < j)) := by
    show _ = _
    unfold Ah
    simp
  obtain ⟨p, hp⟩ : ∃ p, keys.getD i 0 = p := ⟨_, rfl⟩
  obtain ⟨q, hq⟩ : ∃ q, keys.getD j 0 = q := ⟨_, rfl⟩
  rw [hp] at c1
  rw [hq] at c2
  rw [hp, hq] at HD
  have hi' : (i : Int) < (keys.length : Int) := by omega
  have hj' : (j : Int) < (keys.length : Int) := by omega
  clear hp hq hs
  rw [HD.out]
  by_cases h1 : p < q
  · have h1' : decide (p < q) = true := by simpa using h1
    go_enter Try.func27, Try.ntmps27
    go_wp2
    go_quiet (fail)
    go_wp2
    go_ret
    exact ⟨by simp [h1], _, rfl⟩
  · have h1' : decide (p < q) = false := by simpa using h1
    by_cases h2 : p = q
    · subst h2
      go_enter Try.func27, Try.ntmps27
      go_wp2
      go_quiet (fail)
      go_wp2
      go_ret
      exact ⟨by simp, _, rfl⟩
    · have h2' : (p == q) = false := by simpa using h2
      go_enter Try.func27, Try.ntmps27
      go_wp2
      go_quiet (fail)
      go_wp2
      go_ret
      exact ⟨by simp [h1, h2], _, rfl⟩

/-- What stands in the loop that merges. -/
structure Mrg (w wr : World) (keys la lb : List Int) (i j : Nat) (v : Value) (K : Nat → Nat) (out : List Int) : Prop where
  herd : Herd w wr [(K, tl v out)]
  eq : out ++ mrgL keys (la.drop i) (lb.drop j) = mrgL keys la lb
  hi : i ≤ la.length
  hj : j ≤ lb.length

theorem Mrg.room {w wr : World} {keys la lb : List Int} {i j : Nat} {v : Value} {K : Nat → Nat} {out : List Int} (h : Mrg w wr keys la lb i j v K out) : out.length ≤ la.length + lb.length := by
  have := congrArg List.length h.eq
  rw [List.length_append, (mrgL_perm keys la lb).length_eq, List.length_append] at this
  omega

theorem Herd.sib {W w : World} {xs : List ((Nat → Nat) × Thing)} (H : Herd W w xs) {v : Value} {l : List Int} (h : SI W v l) : SI w v l := h.below H.bel

theorem rahead_int (v : Value) (keys : List Int) (w : World) (hs : SI w v keys) (x y : Int) (hx : 0 ≤ x ∧ x < keys.length) (hy : 0 ≤ y ∧ y < keys.length) :
    Calls Try.prog 27 #[v, .int .i64 x, .int .i64 y] w fun e w' => e = .returned (.bool (decide (Ah keys x y))) ∧ ∃ n, w' = w.drewN n := by
  obtain ⟨i, rfl⟩ := Int.eq_ofNat_of_zero_le hx.1
  obtain ⟨j, rfl⟩ := Int.eq_ofNat_of_zero_le hy.1
  exact rahead_any v keys w hs i j (by omega) (by omega)

theorem getD_mem {l : List Int} {i : Nat} (h : i < l.length) : l.getD i 0 ∈ l := by
  have : l.getD i 0 = l[i] := by simp [h]
  rw [this]
  exact List.getElem_mem h

theorem Mrg.takeA {w wr w' : World} {keys la lb : List Int} {i j : Nat} {v v' : Value} {K K' : Nat → Nat} {out : List Int} {x : Int} (h : Mrg w wr keys la lb i j v K out) (hi : i < la.length) (H' : Herd w w' [(K', tl v' (out ++ [x]))]) (he : mrgL keys (la.drop i) (lb.drop j) = x :: mrgL keys (la.drop (i + 1)) (lb.drop j)) : Mrg w w' keys la lb (i + 1) j v' K' (out ++ [x]) :=
  ⟨H', by rw [List.append_assoc, List.singleton_append, ← he]; exact h.eq, hi, h.hj⟩

theorem Mrg.takeB {w wr w' : World} {keys la lb : List Int} {i j : Nat} {v v' : Value} {K K' : Nat → Nat} {out : List Int} {x : Int} (h : Mrg w wr keys la lb i j v K out) (hj : j < lb.length) (H' : Herd w w' [(K', tl v' (out ++ [x]))]) (he : mrgL keys (la.drop i) (lb.drop j) = x :: mrgL keys (la.drop i) (lb.drop (j + 1))) : Mrg w w' keys la lb i (j + 1) v' K' (out ++ [x]) :=
  ⟨H', by rw [List.append_assoc, List.singleton_append, ← he]; exact h.eq, h.hi, hj⟩

set_option maxHeartbeats 2000000 in
theorem merge_any (v va vb : Value) (keys la lb : List Int) (w : World) (hs : SI w v keys) (ha : SI w va la) (hb : SI w vb lb) (hla : ∀ x ∈ la, 0 ≤ x ∧ x < keys.length) (hlb : ∀ x ∈ lb, 0 ≤ x ∧ x < keys.length) (hn : la.length + lb.length ≤ 6000000000000) :
    Calls Try.prog 23 #[v, va, vb] w fun e w' => ∃ a c, e = .returned (.slice a (mrgL keys la lb).length c) ∧ OI w' w.heap.size (.slice a (mrgL keys la lb).length c) (mrgL keys la lb) ∧ Below w.heap.size w w' := by
  obtain ⟨ao, ac, rfl⟩ := ha.len
  obtain ⟨bo, bc, rfl⟩ := hb.len
  have HS := hide hs
  have HA := hide ha
  have HB := hide hb
  have HLA := hide hla
  have HLB := hide hlb
  clear hs ha hb hla hlb
  have HST : Hid (∃ (K : Nat → Nat) (out : List Int) (a : Option Addr) (c : Nat), Value.slice none 0 0 = .slice a out.length c ∧ Mrg w w keys la lb 0 0 (.slice a out.length c) K out) :=
    ⟨fun _ => 0, [], none, 0, rfl, ⟨(Herd.nil w).front (x := tl (.slice none 0 0) []) ⟨World.ownsRow_nil _ _ _ _, fun k hk => by simp [Value.ownBlock] at hk, fun k hk => absurd rfl hk⟩, rfl, Nat.zero_le _, Nat.zero_le _⟩⟩
  go_enter Try.func23, Try.ntmps23
  go_wp2
  go_loopw [7, 8, 9] (fun ov iv jv wr => ∃ i j : Nat, iv = .int .i64 i ∧ jv = .int .i64 j ∧ i ≤ la.length ∧ j ≤ lb.length ∧ Hid (∃ (K : Nat → Nat) (out : List Int) (a : Option Addr) (c : Nat), ov = .slice a out.length c ∧ Mrg w wr keys la lb i j (.slice a out.length c) K out)) (fun _ iv jv _ => la.length + lb.length - (intOf iv).toNat - (intOf jv).toNat)
  case atStart => exact ⟨0, 0, rfl, rfl, Nat.zero_le _, Nat.zero_le _, HST.out⟩
  case round =>
    obtain ⟨i, j, rfl, rfl, hi, hj, HR⟩ := hrel
    obtain ⟨K, out, a, c, rfl, hM⟩ := HR.out
    have hroom := hM.room
    have HM := hide hM
    have H := hM.herd
    clear hM
    by_cases hdone : i < la.length ∨ j < lb.length
    · by_cases htake : i < la.length ∧ (j = lb.length ∨ (j < lb.length ∧ Ah keys (la.getD i 0) (lb.getD j 0)))
      · obtain ⟨hil, hj2⟩ := htake
        have hil' : (i : Int) < (la.length : Int) := by omega
        have HN : Hid (mrgL keys (la.drop i) (lb.drop j) = la.getD i 0 :: mrgL keys (la.drop (i + 1)) (lb.drop j)) := mrgL_a hil hj2
        obtain ⟨b1, o1, rfl, c1⟩ := HA.out.cellAt H.bel hil
        have hxr := HLA.out _ (getD_mem hil)
        obtain ⟨x, hx⟩ : ∃ x, la.getD i 0 = x := ⟨_, rfl⟩
        rw [hx] at c1 HN hxr hj2
        clear hx
        by_cases hje : j = lb.length
        · subst hje
          clear hj2 hdone
          go_wp2
          go_quiet (fail)
          have H2 := H.drewN nq
          obtain ⟨wd, hwd⟩ : ∃ wd, wr.drewN nq = wd := ⟨_, rfl⟩
          have c1' : wd.cell? ⟨b1, o1 + i, none⟩ = some (.int .i64 x) := by rw [← hwd]; exact c1
          rw [hwd] at H2 ⊢
          clear hwd c1
          go_wp2_with (at_builtin; refine wpList_int rfl _ _ rfl H2 0 rfl x _ rfl rfl (by omega) ?_)
          intro ad cap w' K' H'
          have HM' := hide (HM.out.takeA hil H' HN.out)
          clear H' H2 H
          go_wp2
          go_roundw
          case rel => exact ⟨i + 1, lb.length, by go_num, rfl, by omega, Nat.le_refl _, K', out ++ [x], ad, cap, by rw [List.length_append]; rfl, by rw [List.length_append]; exact HM'.out⟩
          case measure => simp [intOf]; omega
        · obtain ⟨hjl, hah⟩ : j < lb.length ∧ Ah keys x (lb.getD j 0) := by
            rcases hj2 with e | e
            · exact absurd e hje
            · exact e
          have hjl' : (j : Int) < (lb.length : Int) := by omega
          have hje' : ((j : Int) == (lb.length : Int)) = false := by simp; omega
          obtain ⟨b2, o2, rfl, c2⟩ := HB.out.cellAt H.bel hjl
          have hyr := HLB.out _ (getD_mem hjl)
          obtain ⟨y, hy⟩ : ∃ y, lb.getD j 0 = y := ⟨_, rfl⟩
          rw [hy] at c2 hah hyr
          have HCall : Hid (∀ n, Calls Try.prog 27 #[v, .int .i64 x, .int .i64 y] (wr.drewN n) fun e w'' => e = .returned (.bool true) ∧ ∃ m, w'' = wr.drewN m) := fun n => by
            have := rahead_int v keys (wr.drewN n) ((HS.out.below H.bel).drewN n) x y hxr hyr
            rw [decide_eq_true hah] at this
            exact Calls.quiet_of this
          clear hy hj2 hje hdone hxr hyr hah
          go_wp2
          go_quiet (first | (go_at_call 27; exact HCall.out _))
          have H2 := H.drewN nq
          obtain ⟨wd, hwd⟩ : ∃ wd, wr.drewN nq = wd := ⟨_, rfl⟩
          have c1' : wd.cell? ⟨b1, o1 + i, none⟩ = some (.int .i64 x) := by rw [← hwd]; exact c1
          rw [hwd] at H2 ⊢
          clear hwd c1 c2 HCall
          go_wp2_with (at_builtin; refine wpList_int rfl _ _ rfl H2 0 rfl x _ rfl rfl (by omega) ?_)
          intro ad cap w' K' H'
          have HM' := hide (HM.out.takeA hil H' HN.out)
          clear H' H2 H
          go_wp2
          go_roundw
          case rel => exact ⟨i + 1, j, by go_num, rfl, by omega, by omega, K', out ++ [x], ad, cap, by rw [List.length_append]; rfl, by rw [List.length_append]; exact HM'.out⟩
          case measure => simp [intOf]; omega
      · have hjl : j < lb.length := by
          rcases hdone with e | e
          · by_cases hje : j = lb.length
            · exact absurd ⟨e, .inl hje⟩ htake
            · omega
          · exact e
        have hnot : la.length ≤ i ∨ (i < la.length ∧ ¬ Ah keys (la.getD i 0) (lb.getD j 0)) := by
          by_cases hil : i < la.length
          · exact .inr ⟨hil, fun q => htake ⟨hil, .inr ⟨hjl, q⟩⟩⟩
          · exact .inl (by omega)
        have hjl' : (j : Int) < (lb.length : Int) := by omega
        have hje' : ((j : Int) == (lb.length : Int)) = false := by simp; omega
        have HN : Hid (mrgL keys (la.drop i) (lb.drop j) = lb.getD j 0 :: mrgL keys (la.drop i) (lb.drop (j + 1))) := mrgL_b hjl hnot
        obtain ⟨b2, o2, rfl, c2⟩ := HB.out.cellAt H.bel hjl
        have hyr := HLB.out _ (getD_mem hjl)
        obtain ⟨y, hy⟩ : ∃ y, lb.getD j 0 = y := ⟨_, rfl⟩
        rw [hy] at c2 HN hyr hnot
        clear hy htake hdone
        by_cases hil : i < la.length
        · have hil' : (i : Int) < (la.length : Int) := by omega
          obtain ⟨b1, o1, rfl, c1⟩ := HA.out.cellAt H.bel hil
          have hxr := HLA.out _ (getD_mem hil)
          obtain ⟨x, hx⟩ : ∃ x, la.getD i 0 = x := ⟨_, rfl⟩
          rw [hx] at c1 hnot hxr
          have hah : ¬ Ah keys x y := by
            rcases hnot with e | e
            · omega
            · exact e.2
          have HCall : Hid (∀ n, Calls Try.prog 27 #[v, .int .i64 x, .int .i64 y] (wr.drewN n) fun e w'' => e = .returned (.bool false) ∧ ∃ m, w'' = wr.drewN m) := fun n => by
            have := rahead_int v keys (wr.drewN n) ((HS.out.below H.bel).drewN n) x y hxr hyr
            rw [decide_eq_false hah] at this
            exact Calls.quiet_of this
          clear hx hnot hxr hyr hah
          go_wp2
          go_quiet (first | (go_at_call 27; exact HCall.out _))
          have H2 := H.drewN nq
          obtain ⟨wd, hwd⟩ : ∃ wd, wr.drewN nq = wd := ⟨_, rfl⟩
          have c2' : wd.cell? ⟨b2, o2 + j, none⟩ = some (.int .i64 y) := by rw [← hwd]; exact c2
          rw [hwd] at H2 ⊢
          clear hwd c1 c2 HCall
          go_wp2_with (at_builtin; refine wpList_int rfl _ _ rfl H2 0 rfl y _ rfl rfl (by omega) ?_)
          intro ad cap w' K' H'
          have HM' := hide (HM.out.takeB hjl H' HN.out)
          clear H' H2 H
          go_wp2
          go_roundw
          case rel => exact ⟨i, j + 1, rfl, by go_num, by omega, by omega, K', out ++ [y], ad, cap, by rw [List.length_append]; rfl, by rw [List.length_append]; exact HM'.out⟩
          case measure => simp [intOf]; omega
        · have hil' : ¬ (i : Int) < (la.length : Int) := by omega
          clear hnot hyr
          go_wp2
          go_quiet (fail)
          have H2 := H.drewN nq
          obtain ⟨wd, hwd⟩ : ∃ wd, wr.drewN nq = wd := ⟨_, rfl⟩
          have c2' : wd.cell? ⟨b2, o2 + j, none⟩ = some (.int .i64 y) := by rw [← hwd]; exact c2
          rw [hwd] at H2 ⊢
          clear hwd c2
          go_wp2_with (at_builtin; refine wpList_int rfl _ _ rfl H2 0 rfl y _ rfl rfl (by omega) ?_)
          intro ad cap w' K' H'
          have HM' := hide (HM.out.takeB hjl H' HN.out)
          clear H' H2 H
          go_wp2
          go_roundw
          case rel => exact ⟨i, j + 1, rfl, by go_num, by omega, by omega, K', out ++ [y], ad, cap, by rw [List.length_append]; rfl, by rw [List.length_append]; exact HM'.out⟩
          case measure => simp [intOf]; omega
    · have e1 : i = la.length := by omega
      have e2 : j = lb.length := by omega
      have HOUT : Hid (out = mrgL keys la lb) := by
        have := HM.out.eq
        rw [e1, e2, List.drop_length, List.drop_length, mrgL_nil, List.append_nil] at this
        exact this
      subst e1 e2
      go_wp2
      go_ret
      refine ⟨a, c, ?_, ?_, H.bel⟩
      · rw [← HOUT.out]; rfl
      · rw [← HOUT.out]; exact H.oi 0 rfl

end Go.Proofs.Ytmbgjkghcpkoiaa.H4

namespace Go.Proofs.Ytmbgjkghcpkoiaa.H4
open Go.RowKit Go.Maps
set_option maxRecDepth 20000

theorem btw_nil (v : Value) (lo : Nat) (w : World) :
    Calls Try.prog 19 #[v, .int .i64 lo, .int .i64 lo] w fun e w' => e = .returned (.slice none 0 0) ∧ w' = w := by
  go_enter Try.func19, Try.ntmps19
  go_wp2
  go_ret
  exact ⟨rfl, rfl⟩

theorem btw_one (v : Value) (lo hi : Nat) (w : World) (h1 : (hi : Int) - lo = 1) :
    Calls Try.prog 19 #[v, .int .i64 lo, .int .i64 hi] w fun e w' => e = .returned (.slice (some ⟨w.heap.size, 0, none⟩) 1 1) ∧ w' = w.alloc (.cells #[.int .i64 lo] 3) := by
  go_enter Try.func19, Try.ntmps19
  go_wp2
  go_ret
  exact ⟨rfl, rfl⟩

set_option maxHeartbeats 600000 in
theorem between_any (v : Value) (keys : List Int) (hk : keys.length ≤ 6000000000000) : ∀ (n lo hi : Nat) (w : World), SI w v keys → hi = lo + n → hi ≤ keys.length →
    Calls Try.prog 19 #[v, .int .i64 lo, .int .i64 hi] w fun e w' => ∃ (l : List Int) (a : Option Addr) (c : Nat), e = .returned (.slice a l.length c) ∧ OI w' w.heap.size (.slice a l.length c) l ∧ Below w.heap.size w w' ∧ l.Perm (places lo n) ∧ l.Pairwise (Ah keys) := by
  intro n
  induction n using Nat.strongRecOn with
  | ind n ih =>
    intro lo hi w hs he hle
    have HS := hide hs
    have HE := hide he
    have HIH := hide ih
    by_cases h0 : n = 0
    · obtain rfl : hi = lo := by omega
      refine (btw_nil v hi w).mono ?_
      rintro e w' ⟨rfl, rfl⟩
      refine ⟨[], none, 0, rfl, World.ownsRow_nil _ _ _ _, Below.refl _ _, ?_, List.Pairwise.nil⟩
      rw [h0]; exact List.Perm.refl _
    · by_cases h1 : n = 1
      · refine (btw_one v lo hi w (by omega)).mono ?_
        rintro e w' ⟨rfl, rfl⟩
        refine ⟨[(lo : Int)], some ⟨w.heap.size, 0, none⟩, 1, rfl, ?_, (Below.refl _ _).alloc (Nat.le_refl _) _, ?_, List.pairwise_singleton _ _⟩
        · exact OI.of_full (l := [(lo : Int)]) (heap_alloc_new w _) (Nat.le_refl _) (by show 1 ≤ maxLen; unfold maxLen; omega)
        · rw [h1]; exact List.Perm.refl _
      · have hd : ¬ (hi : Int) - lo < 1 := by omega
        have hd1 : ¬ (hi : Int) - lo = 1 := by omega
        obtain ⟨mid, hmid⟩ : ∃ mid : Nat, mid = lo + n / 2 := ⟨_, rfl⟩
        have em : (lo : Int) + ((hi : Int) - lo) / 2 = (mid : Int) := by omega
        have HMID := hide hmid
        have hA := ih (n / 2) (by omega) lo mid w hs hmid (by omega)
        clear hs he ih hmid
        go_enter Try.func19, Try.ntmps19
        go_wp2_with fail
        refine hA.mono ?_
        rintro e w1 ⟨la, a1, c1, rfl, oa, ba, pa, sa⟩
        have hB := HIH.out (n - n / 2) (by omega) mid hi w1 (HS.out.below ba) (by have := HE.out; have := HMID.out; omega) (by omega)
        have HA := hide (And.intro oa (And.intro ba (And.intro pa sa)))
        clear oa ba pa sa hA
        go_wp2_with fail
        refine hB.mono ?_
        rintro e w2 ⟨lb, a2, c2, rfl, ob, bb, pb, sb⟩
        obtain ⟨oa, ba, pa, sa⟩ := HA.out
        have hla : ∀ x ∈ la, (lo : Int) ≤ x ∧ x < (lo : Int) + (n / 2 : Nat) := fun x hx => places_mem (pa.mem_iff.1 hx)
        have hlb : ∀ x ∈ lb, (mid : Int) ≤ x ∧ x < (mid : Int) + (n - n / 2 : Nat) := fun x hx => places_mem (pb.mem_iff.1 hx)
        have e1 := pa.length_eq
        have e2 := pb.length_eq
        rw [places_len] at e1 e2
        have hEo := HE.out
        have hMo := HMID.out
        have hM := merge_any v (.slice a1 la.length c1) (.slice a2 lb.length c2) keys la lb w2 ((HS.out.below ba).below bb) (oa.sb.below bb) ob.sb (fun x hx => by have := hla x hx; omega) (fun x hx => by have := hlb x hx; omega) (by omega)
        have HFIN : Hid ((mrgL keys la lb).Perm (places lo n) ∧ (mrgL keys la lb).Pairwise (Ah keys)) := by
          refine ⟨?_, mrgL_sorted keys la lb sa sb fun x hx y hy => ?_⟩
          · refine (mrgL_perm keys la lb).trans ?_
            have := places_split lo (n / 2) (n - n / 2)
            rw [show n / 2 + (n - n / 2) = n by omega, ← hMo] at this
            rw [this]
            exact pa.append pb
          · have := hla x hx
            have := hlb y hy
            omega
        have HB2 := hide (ba.trans (bb.mono ba.size))
        have HB3 := hide (Nat.le_trans ba.size bb.size)
        clear oa ba pa sa ob bb pb sb hla hlb e1 e2 hEo hMo hB HA
        go_wp2_with fail
        refine hM.mono ?_
        rintro e w3 ⟨a3, c3, rfl, o3, b3⟩
        have HO := hide (And.intro o3 b3)
        clear o3 b3 hM
        go_wp2
        go_ret
        exact ⟨mrgL keys la lb, a3, c3, rfl, HO.out.1.base HB3.out, HB2.out.trans (HO.out.2.mono HB3.out), HFIN.out.1, HFIN.out.2⟩

theorem rorder_any (v : Value) (keys : List Int) (w : World) (hs : SI w v keys) (hk : keys.length ≤ 6000000000000) :
    Calls Try.prog 15 #[v] w fun e w' => ∃ a c, e = .returned (.slice a keys.length c) ∧ OI w' w.heap.size (.slice a keys.length c) (orderOf keys) ∧ Below w.heap.size w w' := by
  have hB := between_any v keys hk keys.length 0 keys.length w hs (by omega) (Nat.le_refl _)
  obtain ⟨ao, cap, rfl⟩ := hs.len
  go_enter Try.func15, Try.ntmps15
  go_wp2_with fail
  refine hB.mono ?_
  rintro e w1 ⟨l, a, c, rfl, o, b, p, s⟩
  obtain rfl := order_unique s p
  go_wp2
  go_ret
  rw [orderOf_len] at o ⊢
  exact ⟨a, c, rfl, o, b⟩

end Go.Proofs.Ytmbgjkghcpkoiaa.H4

