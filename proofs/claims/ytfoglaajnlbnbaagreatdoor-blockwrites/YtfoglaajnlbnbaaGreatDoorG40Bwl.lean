import Derived.Test.YtfoglaajnlbnbaaGreatDoorG38Rmw
import Derived.Test.YtfoglaajnlbnbaaGreatDoorG04OpenA
namespace Go.Proofs.YtfoglaajnlbnbaaGreatDoor
open Go.RowKit Go.Maps
set_option maxRecDepth 20000
set_option linter.unusedVariables false
set_option linter.unusedSimpArgs false

def tgv (g : Nat) (L : List Tk) : Thing :=
  ⟨fun w K => TBr w g L [] ∧ K g ≠ 0 ∧ ∀ k, K k ≠ 0 → k < w.heap.size, fun h a b => ⟨(b g h.2.1).trans h.1, h.2.1, fun k hk => Nat.lt_of_lt_of_le (h.2.2 k hk) a⟩, fun h => h.2.2⟩

def kOne (g : Nat) : Nat → Nat := fun k => if k = g then 1 else 0

theorem kOne_iff {g k : Nat} : kOne g k ≠ 0 ↔ k = g := by
  unfold kOne
  by_cases e : k = g
  · simp [e]
  · simp [e]

theorem Herd.perm10 {W w : World} {A B C D : (Nat → Nat) × Thing} (h : Herd W w [A, B, C, D]) : Herd W w [A, C, D, B] := by
  have up : ∀ (i : Nat) d, [A, C, D, B][i]? = some d → ∃ j, [A, B, C, D][j]? = some d ∧ j = (if i = 0 then 0 else if i = 1 then 2 else if i = 2 then 3 else 1) ∧ i < 4 := fun i d hd => by
    match i, hd with
    | 0, hd => exact ⟨0, hd, rfl, by omega⟩
    | 1, hd => exact ⟨2, hd, rfl, by omega⟩
    | 2, hd => exact ⟨3, hd, rfl, by omega⟩
    | 3, hd => exact ⟨1, hd, rfl, by omega⟩
    | i + 4, hd => simp at hd
  refine ⟨h.bel, fun i d hd => ?_, fun i d hd => ?_, fun i j d e hd he hne => ?_⟩
  · obtain ⟨j, hj, -⟩ := up i d hd
    exact h.rep j d hj
  · obtain ⟨j, hj, -⟩ := up i d hd
    exact h.up j d hj
  · obtain ⟨a, ha, ea, la⟩ := up i d hd
    obtain ⟨b, hb, eb, lb⟩ := up j e he
    refine h.sep a b d e ha hb ?_
    intro q
    rw [ea, eb] at q
    repeat' split at q
    all_goals omega

def marks8 : List Int := [165, 166, 167, 168, 169, 170, 171, 172]

theorem SB.first10 {w : World} {b o c : Nat} {l : List Int} (h : SB w (.slice (some ⟨b, o, none⟩) l.length c) l) {n : Nat} (hn : n ≤ l.length) : SB w (.slice (some ⟨b, o, none⟩) n c) (l.take n) := by
  obtain ⟨ao, cap, he, h1, h2, h3, h4⟩ := h
  simp only [Value.slice.injEq] at he
  obtain ⟨rfl, -, rfl⟩ := he
  refine ⟨_, c, by simp [Nat.min_eq_left hn], by simp; omega, h2, h3, fun x hx i hi => ?_⟩
  have hi' : i < n := by simp at hi; omega
  rw [h4 x hx i (by omega)]
  simp [List.getD_eq_getElem?_getD, hi']

theorem SB.rest10 {w : World} {b o c : Nat} {l : List Int} (h : SB w (.slice (some ⟨b, o, none⟩) l.length c) l) {n : Nat} (hn : n ≤ l.length) : SB w (.slice (some ⟨b, o + n, none⟩) (l.length - n) (c - n)) (l.drop n) := by
  obtain ⟨ao, cap, he, h1, h2, h3, h4⟩ := h
  simp only [Value.slice.injEq] at he
  obtain ⟨rfl, -, rfl⟩ := he
  refine ⟨some ⟨b, o + n, none⟩, c - n, by rw [List.length_drop], by rw [List.length_drop]; omega, by omega, (fun hx => by cases hx), fun x hx i hi => ?_⟩
  cases hx
  have hi' : n + i < l.length := by simp at hi; omega
  have := h4 ⟨b, o, none⟩ rfl (n + i) hi'
  rw [Addr.add_lit] at this
  rw [Addr.add_lit, Nat.add_assoc, this]
  simp [List.getD_eq_getElem?_getD, List.getElem?_drop]

theorem full_parts {w : World} {B g c N : Nat} {l : List Int} (hN : N = l.length) (h : OB w B (.slice (some ⟨g, 0, none⟩) (N + 8) c) (l ++ marks8)) : SB w (.slice (some ⟨g, 0, none⟩) N c) l ∧ SB w (.slice (some ⟨g, N, none⟩) 8 (c - N)) marks8 := by
  have e8 : (l ++ marks8).length = N + 8 := by rw [hN]; simp [marks8]
  have hs := h.sb
  rw [← e8] at hs
  have a := hs.first10 (n := N) (by rw [e8]; omega)
  have b := hs.rest10 (n := N) (by rw [e8]; omega)
  rw [hN, List.take_left] at a
  rw [hN, List.drop_left, ← hN, e8, Nat.zero_add, show N + 8 - N = 8 by omega] at b
  rw [hN]
  exact ⟨a, by rw [← hN]; exact b⟩

set_option maxHeartbeats 1000000 in
theorem wnil10 (ao ar : Option Addr) (n c m d : Nat) (k : Int) (f : Bool) (w : World) : Calls Tryz.prog 9 #[.pointer none, .slice ao n c, .slice ar m d, .int .i64 k, .bool f] w fun e w' => e = .returned (.int .i64 1) ∧ w' = w := by
  go_enter Tryz.func9, Tryz.ntmps9
  go_wp2
  go_ret
  exact ⟨rfl, rfl⟩

theorem put_small (fi n : Int) : (putRow [] fi n).length ≤ 32 := by
  unfold putRow
  split
  · rename_i q
    rw [List.nil_append, length_bts]
    obtain ⟨⟨⟨q0, q1⟩, -⟩, -⟩ := q
    omega
  · simp

set_option maxHeartbeats 16000000 in
theorem blockWrites_walk (fi n k : Int) (f : Bool) (v vr : Value) (R : List Tk) (l : List Int) (W : World) (h : SK W v R) (hb : ∀ t ∈ R, Bt t) (hn : R.length ≤ 5864062014700) (hl : SB W vr l) (hB : Byt l) (h47 : l.length ≤ 140737488351232) (hf0 : 0 ≤ fi) (hf1 : fi < 4294967296) (T : Ltab W ∧ Dtab W) (TH : Tab W) (O : Odr W) (X : Xodr W) :
    Calls Tryz.prog 4 #[.int .u32 fi, .int .i64 n, v, vr, .int .i64 k, .bool f] W fun e w' => e = .returned (.bool true) ∧ Below W.heap.size W w' := by
  have HS := hide h
  have HSR := hide hl
  have HBT := hide hb
  have HBY := hide hB
  have HTT := hide (And.intro T (And.intro TH (And.intro O X)))
  obtain ⟨ao, cap, rfl, hlc, hcm⟩ := h.open
  obtain ⟨ar, cr, rfl, hlr, hcr, -⟩ := hl
  unfold maxLen at hcr
  obtain ⟨N, HL⟩ : ∃ N : Nat, Hid (N = l.length) := ⟨_, rfl⟩
  have HSL : Hid (SB W (.slice ar N cr) l) := by rw [HL.out]; exact HSR
  rw [← HL.out] at hlr h47 ⊢
  clear h hb hB T TH O X HSR
  obtain ⟨row, HRW⟩ : ∃ r, Hid (putRow [] fi n = r) := ⟨_, rfl⟩
  have HR32 : Hid (row.length ≤ 32) := by rw [← HRW.out]; exact put_small fi n
  obtain ⟨pe, HPE⟩ : ∃ e, Hid (putE [] fi n = e) := ⟨_, rfl⟩
  have hpe : (pe != pe) = false := by simp
  have HNU : Hid (∀ (wx : World) (x : Int), Calls Tryz.prog 16 #[.int .i64 x] wx fun e w' => e = .returned (.int .i64 x) ∧ w' = wx) := fun wx x => bnum_any wx x
  have HNW := hide (hnewW (Herd.nil W))
  go_enter Tryz.func4, Tryz.ntmps4
  go_wp2_with fail
  refine HNW.out.mono ?_
  rintro e w1 ⟨g, K1, rfl, h1⟩
  have HNX := hide (hxnew h1)
  clear h1 HNW
  go_wp2_with fail
  refine HNX.out.mono ?_
  rintro e w2 ⟨gx, Kx, rfl, h2⟩
  have HP1 : Hid (Calls Tryz.prog 17 #[.pointer (some ⟨g, 0, none⟩), .int .u32 fi, .int .i64 n] w2 fun e w' => e = .returned (.int .i64 pe) ∧ ∃ K', Herd W w' [(K', tw g row), (Kx, tx gx [])]) := by
    rw [← HPE.out, ← HRW.out]
    exact hput h2 0 rfl fi n hf0 hf1
  clear h2 HNX
  go_wp2_with fail
  refine HP1.out.mono ?_
  rintro e w3 ⟨rfl, K3, h3⟩
  have HP2 : Hid (Calls Tryz.prog 18 #[.pointer (some ⟨gx, 0, none⟩), .int .u32 fi, .int .i64 n] w3 fun e w' => e = .returned (.int .i64 pe) ∧ ∃ K', Herd W w' [(K3, tw g row), (K', tx gx row)]) := by
    rw [← HPE.out, ← HRW.out]
    have h3' := h3
    rw [← HRW.out] at h3'
    exact hxput h3' 1 rfl fi n hf0 hf1
  clear h3 HP1
  go_wp2_with fail
  refine (HNU.out _ _).mono ?_
  rintro e w4 ⟨rfl, hw4⟩
  rw [hw4]
  clear hw4 w4
  go_wp2_with fail
  refine HP2.out.mono ?_
  rintro e w4 ⟨rfl, K4, h4⟩
  have HH4 := hide h4
  have HRM := hide (roomy_any _ R w4 (HS.out.below h4.bel) hn)
  clear h4 HP2
  go_wp2_with fail
  refine HRM.out.mono ?_
  rintro e w5 ⟨rfl, t5, b5⟩
  obtain ⟨gr, hgr⟩ : ∃ gr, w4.heap.size = gr := ⟨_, rfl⟩
  have h5 : Herd W w5 [(K3, tw g row), (K4, tx gx row), (kOne gr, tgv gr (R ++ List.replicate 9 m7))] := HH4.out.push b5 (x := tgv gr (R ++ List.replicate 9 m7)) (K := kOne gr) ⟨by rw [← hgr]; exact t5, kOne_iff.2 rfl, fun k hk => by rw [kOne_iff.1 hk, ← hgr]; exact (Array.getElem?_eq_some_iff.1 t5).1⟩ (fun k hk => by rw [kOne_iff.1 hk, hgr]; exact Nat.le_refl _)
  rw [hgr]
  have HH5 := hide h5
  have HO0 : Hid (OB (w5.alloc (.cells #[] 5)) w5.heap.size (.slice (some ⟨w5.heap.size, 0, none⟩) 0 0) []) := OB.of_full (l := []) (heap_alloc_new w5 _) (Nat.le_refl _) (by simp)
  have HSX : Hid (Src Tryz.prog 1 28 (.slice ar N cr) l.length (l.map (Value.int .u8)) (w5.alloc (.cells #[] 5))) := by
    have q := ((HSL.out.below h5.bel).below ((Below.refl _ _).alloc (Nat.le_refl _) (.cells #[] 5))).src
    exact q
  have hlen0 : ([] : List Int).length + l.length ≤ 140737488355328 := by rw [← HL.out]; simp; omega
  have HL0 := hide hlen0
  clear h5 t5 b5 HRM hgr HH4 hlen0
  go_wp2_with (at_builtin; refine wpList_app rfl _ _ 28 rfl w5.heap.size _ _ [] l rfl HO0.out rfl HSX.out HL0.out (by simp) ?_)
  intro v6 w6 o6 g6
  have HB6 : Hid (Below w5.heap.size w5 w6) := ((Below.refl _ _).alloc (Nat.le_refl _) _).grown g6.by (by simp) (fun k hk => by simp [Value.ownBlock] at hk; omega)
  have HO6 := hide o6
  have HLT6 := hide (OB.lt o6)
  obtain ⟨a6, c6, hv6⟩ := o6.shape
  subst hv6
  clear o6 g6 HO0 HSX
  rw [← HL.out] at HO6 HLT6 ⊢
  go_wp2_with (at_builtin; refine wpList_app rfl _ _ 28 rfl w5.heap.size _ _ l marks8 rfl (HO6.out.alloc _) rfl (built_src w6 marks8) (by rw [← HL.out]; show _ + 8 ≤ _; omega) (by have := HB6.out.size; simp; omega) ?_)
  intro v7 w7 o7 g7
  rcases o7.2 with ⟨_, hx⟩ | ⟨g8, c8, cur, rfl, k1, k2, k3, k4, k5, k6⟩
  · simp [marks8] at hx
  have e8 : (l ++ marks8).length = N + 8 := by rw [HL.out]; simp [marks8]
  rw [e8] at o7 k3 ⊢
  have HB7 : Hid (Below w5.heap.size w5 w7) := (HB6.out.alloc HB6.out.size _).grown g7.by (by have := HB6.out.size; simp; omega) (fun k hk => (HLT6.out k hk).1)
  have h7 : Herd W w7 [(K3, tw g row), (K4, tx gx row), (kOne gr, tgv gr (R ++ List.replicate 9 m7)), (kOw (.slice (some ⟨g8, 0, none⟩) (N + 8) c8), tl (.slice (some ⟨g8, 0, none⟩) (N + 8) c8) (l ++ marks8))] := HH5.out.push HB7.out (x := tl (.slice (some ⟨g8, 0, none⟩) (N + 8) c8) (l ++ marks8)) ⟨o7.base (Nat.zero_le _), fun k hk => kOw_iff.2 hk, fun k hk => (o7.lt k (kOw_iff.1 hk)).2⟩ (fun k hk => (o7.lt k (kOw_iff.1 hk)).1)
  obtain ⟨GV, HGV⟩ : ∃ G : (Nat → Nat) × Thing, Hid (G = (kOne gr, tgv gr (R ++ List.replicate 9 m7))) := ⟨_, rfl⟩
  obtain ⟨FL, HFL⟩ : ∃ G : (Nat → Nat) × Thing, Hid (G = (kOw (.slice (some ⟨g8, 0, none⟩) (N + 8) c8), tl (.slice (some ⟨g8, 0, none⟩) (N + 8) c8) (l ++ marks8))) := ⟨_, rfl⟩
  rw [← HGV.out, ← HFL.out] at h7
  have HTB : Hid (∀ (wx : World) (ys : List ((Nat → Nat) × Thing)) (i : Nat), Herd W wx ys → ys[i]? = some GV → TBr wx gr (R ++ List.replicate 9 m7) []) := fun wx ys i hh hi => by
    have q := hh.rep i _ hi
    rw [HGV.out] at q
    exact q.1
  have HFB : Hid (∀ (wx : World) (ys : List ((Nat → Nat) × Thing)) (i : Nat), Herd W wx ys → ys[i]? = some FL → SB wx (.slice (some ⟨g8, 0, none⟩) N c8) l ∧ SB wx (.slice (some ⟨g8, N, none⟩) 8 (c8 - N)) marks8) := fun wx ys i hh hi => by
    have q := hh.rep i _ hi
    rw [HFL.out] at q
    exact full_parts HL.out q.1
  have HGS : Hid (∀ (wx : World) (ys : List ((Nat → Nat) × Thing)) (i : Nat), Herd W wx ys → ys[i]? = some GV → SK wx (.slice (some ⟨gr, 0, none⟩) R.length (R.length + 9)) R) := fun wx ys i hh hi => by
    have q := (HTB.out wx ys i hh hi).sk (n := R.length) (c := R.length + 9) (by simp) (by omega) (by unfold maxLen; omega)
    rwa [List.take_left] at q
  obtain ⟨E, HEE⟩ : ∃ E, Hid (wtE R l k = E) := ⟨_, rfl⟩
  obtain ⟨RW, HRO⟩ : ∃ r, Hid ((if wtE R l k = 0 then row ++ blkB k.toNat f R l row.length else row) = r) := ⟨_, rfl⟩
  have hE : (E != E) = false := by simp
  have HBW : Hid (Calls Tryz.prog 9 #[.pointer (some ⟨g, 0, none⟩), .slice (some ⟨gr, 0, none⟩) R.length (R.length + 9), .slice (some ⟨g8, 0, none⟩) N c8, .int .i64 k, .bool f] w7 fun e w' => e = .returned (.int .i64 E) ∧ ∃ K', Herd W w' [(K', tw g RW), (K4, tx gx row), GV, FL]) := by
    refine (hblockWrite h7 0 rfl _ R (fun wr zs hz => HGS.out wr _ 2 hz rfl) (by omega) HBT.out _ l (fun wr zs hz => (HFB.out wr _ 3 hz rfl).1) HBY.out k f HTT.out.1 HTT.out.2.1 HTT.out.2.2.1).mono ?_
    rintro e w8 (⟨h0, rfl, h8⟩ | ⟨h0, rfl, K', h8⟩)
    · rw [← HEE.out, ← HRO.out, if_neg h0]
      exact ⟨rfl, K3, h8⟩
    · have hz := wt_gen (R := R) (l := l) (k := k)
      have hs : (blkB k.toNat f R l (row.length : Int)).length ≤ 4000000 := by
        have hsd : sdE R = 0 ∧ (l.length : Int) = lsay R := by
          unfold wtE at h0
          by_cases q1 : 16777216 < l.length
          · rw [if_pos q1] at h0; omega
          rw [if_neg q1] at h0
          by_cases q2 : k ≠ 0 ∧ k ≠ 1 ∧ k ≠ 2
          · rw [if_pos q2] at h0; omega
          rw [if_neg q2] at h0
          by_cases q3 : sdE R ≠ 0
          · rw [if_pos q3] at h0; exact absurd h0 q3
          rw [if_neg q3] at h0
          have q3' : sdE R = 0 := Classical.byContradiction q3
          by_cases q4 : (l.length : Int) ≠ sdN R
          · rw [if_pos q4] at h0; omega
          have q4' : (l.length : Int) = sdN R := Classical.byContradiction q4
          exact ⟨q3', by rw [q4', (sd_ok q3').2.1]⟩
        exact blk_le hsd.1 HBT.out hsd.2 (by omega) k.toNat f
      have h32 := HR32.out
      rw [← HEE.out, ← HRO.out, if_pos h0, h0]
      unfold joinE joinRow at *
      rw [if_neg (by omega)] at h8
      rw [if_neg (by omega)]
      exact ⟨rfl, K', h8⟩
  have hc8 : N + 8 ≤ c8 := k3
  have hc9 : (N : Int) ≤ (c8 : Int) := by omega
  have hcm8 : c8 ≤ 9223372036854775807 := by unfold maxLen at k4; omega
  clear h7 o7 g7 k1 k2 k3 k4 k5 k6 HB7 HB6 HO6 HLT6 HH5 e8
  go_wp2_with fail
  refine HBW.out.mono ?_
  rintro e w8 ⟨rfl, K8, h8⟩
  have HKW : Hid (Calls Tryz.prog 20 #[.pointer (some ⟨gx, 0, none⟩), .slice ao R.length cap, .slice ar N cr, .int .i64 k, .bool f] w8 fun e w' => e = .returned (.int .i64 E) ∧ ∃ K', Herd W w' [(K8, tw g RW), GV, FL, (K', tx gx RW)]) := by
    rw [← HEE.out]
    have h9 : Herd W w8 ([(K8, tw g RW), GV, FL] ++ [(K4, tx gx row)]) := h8.perm10
    refine (hkWrite h9 _ R (fun wr zs hz => HS.out.below hz.bel) (by omega) HBT.out _ l (rdb_of HSL.out) HBY.out k f HR32.out HTT.out.2.2.2).mono ?_
    rintro e w9 ⟨rfl, K9, h10⟩
    rw [HRO.out] at h10
    exact ⟨rfl, K9, h10⟩
  clear h8 HBW
  go_wp2_with fail
  refine HKW.out.mono ?_
  rintro e w9 ⟨rfl, K9, h9⟩
  have HH9 := hide h9
  clear h9 HKW
  go_wp2_with fail
  refine (HNU.out _ _).mono ?_
  rintro e w10 ⟨rfl, hw10⟩
  rw [hw10]
  clear hw10 w10
  have HAL : Hid (∀ (wx : World) (ys : List ((Nat → Nat) × Thing)) (i : Nat), Herd W wx ys → ys[i]? = some GV → Calls Tryz.prog 21 #[.slice (some ⟨gr, 0, none⟩) R.length (R.length + 9), .slice ao R.length cap] wx fun e w' => e = .returned (.bool true) ∧ ∃ n, w' = wx.drewN n) := fun wx ys i hh hi => by
    have q := alike_any _ _ R R wx (HGS.out wx ys i hh hi) (HS.out.below hh.bel)
    rwa [show eqK R R = true by simp [eqK]] at q
  have HSM : Hid (∀ (wx : World) (ys : List ((Nat → Nat) × Thing)) (i : Nat), Herd W wx ys → ys[i]? = some FL → Calls Tryz.prog 13 #[.slice (some ⟨g8, 0, none⟩) N c8, .slice ar N cr] wx fun e w' => e = .returned (.bool true) ∧ ∃ n, w' = wx.drewN n) := fun wx ys i hh hi => by
    have q := same_any _ _ l l wx (HFB.out wx ys i hh hi).1 (HSL.out.below hh.bel)
    rwa [show eqB l l = true by simp [eqB]] at q
  have HA1 := hide (HAL.out w9 _ 1 HH9.out rfl)
  go_wp2_with fail
  refine HA1.out.mono ?_
  rintro e w10 ⟨rfl, n10, hw10⟩
  rw [hw10]
  clear hw10 w10 HA1
  have HH10 := hide (HH9.out.drewN n10)
  have HA2 := hide (HSM.out _ _ 2 HH10.out rfl)
  clear HH9
  go_wp2_with fail
  refine HA2.out.mono ?_
  rintro e w11 ⟨rfl, n11, hw11⟩
  have HH11 : Hid (Herd W w11 [(K8, tw g RW), GV, FL, (K9, tx gx RW)]) := by rw [hw11]; exact HH10.out.drewN n11
  clear hw11 HA2 HH10
  obtain ⟨Z, HZ⟩ : ∃ Z : Nat, Hid (RW.length = Z) := ⟨_, rfl⟩
  have HA3 := hide (hlen HH11.out 0 rfl)
  rw [HZ.out] at HA3
  have hZ : ((Z : Int) != (Z : Int)) = false := by simp
  clear HH11
  go_wp2_with fail
  refine HA3.out.mono ?_
  rintro e w12 ⟨rfl, h12⟩
  have HA4 := hide (hxlen h12 3 rfl)
  rw [HZ.out] at HA4
  clear h12 HA3
  go_wp2_with fail
  refine HA4.out.mono ?_
  rintro e w13 ⟨rfl, h13⟩
  have HA5 := hide (hbytes h13 0 rfl)
  obtain ⟨PB, HPB⟩ : ∃ P, Hid (pack RW = P) := ⟨_, rfl⟩
  rw [HPB.out] at HA5
  clear h13 HA4
  go_wp2_with fail
  refine HA5.out.mono ?_
  rintro e w14 ⟨a14, c14, K14, rfl, h14⟩
  have HA6 := hide (hxbytes h14 3 rfl)
  rw [HPB.out] at HA6
  clear h14 HA5
  go_wp2_with fail
  refine HA6.out.mono ?_
  rintro e w15 ⟨a15, c15, K15, rfl, h15⟩
  have HH15 := hide h15
  have HA7 : Hid (Calls Tryz.prog 13 #[.slice a14 PB.length c14, .slice a15 PB.length c15] w15 fun e w' => e = .returned (.bool true) ∧ ∃ n, w' = w15.drewN n) := by
    have q1 : OB w15 0 (.slice a14 PB.length c14) PB := (h15.rep 4 _ rfl).1
    have q2 : OB w15 0 (.slice a15 PB.length c15) PB := (h15.rep 5 _ rfl).1
    have q := same_any _ _ PB PB w15 q1.sb q2.sb
    rwa [show eqB PB PB = true by simp [eqB]] at q
  clear h15 HA6
  go_wp2_with fail
  refine HA7.out.mono ?_
  rintro e w16 ⟨rfl, n16, hw16⟩
  have HH16 := hide (HH15.out.drewN n16)
  rw [← hw16] at HH16
  have HA8 := hide (wnil10 (some ⟨gr, 0, none⟩) (some ⟨g8, 0, none⟩) R.length (R.length + 9) N c8 k f w16)
  clear hw16 HA7 HH15
  go_wp2_with fail
  refine HA8.out.mono ?_
  rintro e w17 ⟨rfl, hw17⟩
  rw [hw17]
  clear hw17 HA8 w17
  go_wp2_with fail
  refine (HNU.out _ _).mono ?_
  rintro e w17 ⟨rfl, hw17⟩
  rw [hw17]
  clear hw17 w17
  have HA9 := hide (HSM.out _ _ 2 HH16.out rfl)
  go_wp2_with fail
  refine HA9.out.mono ?_
  rintro e w18 ⟨rfl, n18, hw18⟩
  have HH18 := hide (HH16.out.drewN n18)
  rw [← hw18] at HH18
  have HA10 := hide (HAL.out _ _ 1 HH18.out rfl)
  clear hw18 HA9 HH16
  go_wp2_with fail
  refine HA10.out.mono ?_
  rintro e w19 ⟨rfl, n19, hw19⟩
  have HH19 := hide (HH18.out.drewN n19)
  rw [← hw19] at HH19
  have HA11 := hide (spared_any gr R w19 (HTB.out _ _ 1 HH19.out rfl) hn)
  clear hw19 HA10 HH18
  go_wp2_with fail
  refine HA11.out.mono ?_
  rintro e w20 ⟨rfl, hw20⟩
  rw [hw20]
  clear hw20 w20 HA11
  have HFN : Hid (∀ (wx : World), Below w19.heap.size w19 wx → SB wx (.slice (some ⟨g8, N, none⟩) 8 (c8 - N)) marks8) := fun wx b => (HFB.out wx _ 2 (HH19.out.below b) rfl).2
  have HA12 : Hid (Calls Tryz.prog 13 #[.slice (some ⟨g8, N, none⟩) 8 (c8 - N), .slice (some ⟨w19.heap.size, 0, none⟩) 8 8] (w19.alloc (.cells #[.int .u8 165, .int .u8 166, .int .u8 167, .int .u8 168, .int .u8 169, .int .u8 170, .int .u8 171, .int .u8 172] 5)) fun e w' => e = .returned (.bool true) ∧ ∃ n, w' = (w19.alloc (.cells #[.int .u8 165, .int .u8 166, .int .u8 167, .int .u8 168, .int .u8 169, .int .u8 170, .int .u8 171, .int .u8 172] 5)).drewN n) := by
    have q2 : OB (w19.alloc (.cells (marks8.map (Value.int .u8)).toArray 5)) 0 (.slice (some ⟨w19.heap.size, 0, none⟩) marks8.length marks8.length) marks8 := OB.of_full (heap_alloc_new w19 _) (Nat.zero_le _) (by unfold maxLen; decide)
    have q := same_any _ _ marks8 marks8 _ (HFN.out _ ((Below.refl _ _).alloc (Nat.le_refl _) _)) q2.sb
    rwa [show eqB marks8 marks8 = true by simp [eqB]] at q
  have HBL := hide HH19.out.bel
  clear HFN HH19
  go_wp2_with fail
  refine HA12.out.mono ?_
  rintro e w20 ⟨rfl, n20, hw20⟩
  have HF : Hid (Below W.heap.size W w20) := by rw [hw20]; exact below_drewN (HBL.out.alloc HBL.out.size _) n20
  clear hw20 HA12 HBL
  go_wp2
  go_ret
  exact ⟨rfl, HF.out⟩
end Go.Proofs.YtfoglaajnlbnbaaGreatDoor

