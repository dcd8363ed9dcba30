import Derived.Test.YtelnnlgnpaepcaaDoorRGSpf
import Derived.Test.YtelnnlgnpaepcaaDoorRGLst
import Derived.Test.YtelnnlgnpaepcaaDoorRGEx
namespace Go.Proofs.YtelnnlgnpaepcaaDoorR
open Go.RowKit Go.Maps
set_option maxRecDepth 20000
set_option linter.unusedVariables false
set_option linter.unusedSimpArgs false

structure Gd11 (R : List Tk) (l : List Nat) (i : Nat) : Prop where
  few : l.getD i 0 ≤ 8192
  fit : (l.take i).sum + l.getD i 0 ≤ R.length
  pos : l.getD i 0 = 0 → R.length = 0
  say : sayS (seg R (l.take i).sum ((l.take i).sum + l.getD i 0)) ≤ 65535
  even : i + 1 < l.length → l.getD i 0 % 128 = 0

theorem spl_good (R : List Tk) (hs : ∀ t ∈ R, Snd t) : (spl R).sum = R.length ∧ 0 < (spl R).length ∧ ∀ i, i < (spl R).length → Gd11 R (spl R) i := by
  by_cases h : 0 < R.length
  · obtain ⟨h1, h2⟩ := spl_fine R hs h
    refine ⟨h1, by unfold spl; simp, fun i hi => ?_⟩
    obtain ⟨⟨a, b, c, d⟩, e⟩ := h2 i hi
    exact ⟨b, c, fun h0 => by omega, d, e⟩
  · obtain rfl : R = [] := List.eq_nil_of_length_eq_zero (by omega)
    have e : spl [] = [0] := rfl
    rw [e]
    refine ⟨rfl, by simp, fun i hi => ?_⟩
    obtain rfl : i = 0 := by simpa using hi
    exact ⟨by decide, by decide, fun _ => rfl, by decide, fun h => by simp at h⟩

theorem three11 {n N m l : Nat} (h : m < l) (q3 : n = 0 → N = 0) (q5 : m + 1 < l → n % 128 = 0) : (n = 0 ∧ N = 0) ∨ (0 < n ∧ n % 128 = 0) ∨ (0 < n ∧ ¬ n % 128 = 0 ∧ m + 1 = l) := by
  by_cases h0 : n = 0
  · exact .inl ⟨h0, q3 h0⟩
  · by_cases h1 : n % 128 = 0
    · exact .inr (.inl ⟨by omega, h1⟩)
    · refine .inr (.inr ⟨by omega, h1, ?_⟩)
      by_cases h2 : m + 1 < l
      · exact absurd (q5 h2) h1
      · omega

theorem sum_snoc (l : List Nat) (i : Nat) (h : i < l.length) : (l.take (i + 1)).sum = (l.take i).sum + l.getD i 0 := by
  rw [List.take_succ_eq_append_getElem h, List.sum_append]
  simp [List.getD_eq_getElem?_getD, List.getElem?_eq_getElem h]

theorem seg_snoc {R : List Tk} {f k : Nat} (h : f ≤ k) (hk : k < R.length) : sayS (seg R f (k + 1)) = sayS (seg R f k) + say (R.getD k tk0) := by
  rw [seg_app h (Nat.le_succ k), sayS_app]
  congr 1
  unfold seg
  have e : (R.drop k).take 1 = [R[k]] := by rw [List.drop_eq_getElem_cons hk]; rfl
  rw [show k + 1 - k = 1 by omega, e]
  simp [sayS, List.getD_eq_getElem?_getD, List.getElem?_eq_getElem hk]

theorem OI.some11 {w : World} {base : Nat} {v : Value} {l : List Int} (h : OI w base v l) (hl : 0 < l.length) : ∃ b p, v = .slice (.some ⟨b, 0, none⟩) l.length p ∧ l.length ≤ p ∧ p ≤ 9223372036854775807 := by
  rcases h.2 with ⟨rfl, h0⟩ | ⟨g, cap, cur, rfl, h1, h2, h3, h4, h5, h6⟩
  · omega
  · unfold maxLen at h4
    exact ⟨g, cap, rfl, h3, by omega⟩

theorem copy_zero (a : Addr) (c : Nat) (y : Option Addr) (d : Nat) (w : World) : (Builtin.copy_ #[22, 22] 3 #[.slice (some a) 0 c, .slice y 0 d]).run Tryd.prog w = .ok (.int .i64 0) w := by
  have hs : ((Tryd.prog.info? 29).map (·.size)).isSome = true := by kernel_rfl
  cases hq : Tryd.prog.info? 29 with
  | none => simp [hq] at hs
  | some i =>
    cases y with
    | none => simp [Builtin.copy_, run_underlying Tryd.underlying22, Builtin.lenOf, Builtin.firstCells, sizeOf, typeInfo, hq, storeCells, goInt]
    | some x =>
      have hl := run_loadCells_list (P := Tryd.prog) w x [] (fun j v h => by simp at h)
      simp at hl
      simp [Builtin.copy_, run_underlying Tryd.underlying22, Builtin.lenOf, Builtin.firstCells, sizeOf, typeInfo, hq, storeCells, hl, goInt]

set_option maxHeartbeats 2000000 in
theorem sums_empty (ao : Option Addr) (cap : Nat) (hcm : cap ≤ 9223372036854775807) (w : World) (h : SK w (.slice ao 0 cap) []) (T : Ltab w ∧ Dtab w) :
    Calls Tryd.prog 3 #[.slice ao 0 cap] w fun e w' => e = .returned (.bool true) ∧ Below w.heap.size w w' := by
  have HS := hide h
  have HT := hide T
  clear h T
  go_enter Tryd.func3, Tryd.ntmps3
  go_wp2_with (at_make; refine wpList_mkK rfl _ _ rfl _ _ 0 rfl rfl (by omega) ?_)
  intro w1 cur hg1 hc1 hb1
  have HB2 := hide hb1
  have HGV : Hid (OK w1 w.heap.size (.slice (some ⟨w.heap.size, 0, none⟩) 0 0) []) :=
    ⟨rfl, .inr ⟨w.heap.size, 0, _, rfl, Nat.le_refl _, hg1, Nat.le_refl _, by unfold maxLen; omega, by simpa using hc1, by simp [fr3]⟩⟩
  have HSP := hide (fSplit_any w.heap.size 0 0 [] w1 HGV.out.sk (fun t ht => by cases ht) ⟨HT.out.1.low HB2.out, HT.out.2.low HB2.out⟩)
  have e1 : ctE [] = 0 := by unfold ctE; rw [if_neg (by simp), if_pos (by rfl)]
  have e2 : spi [] = [0] := by unfold spi; rw [if_pos e1]; rfl
  rw [e1, e2, List.length_nil] at HSP
  clear hg1 hc1 hb1 e1 e2
  have hcz := fun W => copy_zero ⟨w.heap.size, 0, none⟩ 0 ao cap W
  go_wp2_with fail
  refine HSP.out.mono ?_
  rintro e w3 ⟨u, rfl, o3, b3⟩
  have HB3 := hide (HB2.out.trans (b3.mono HB2.out.size))
  obtain ⟨gl, cl, hvv, hcl1, hcl2⟩ := o3.some11 (by simp)
  subst hvv
  have x0 : w3.cell? ⟨gl, 0, none⟩ = some (.int .i64 0) := OI.get o3 (b := gl) rfl (i := 0) (by simp)
  clear o3 b3 HSP HGV HB2
  go_wp2
  go_loopw [6] (fun i wr => i = .int .i64 0 ∧ wr = w3) (fun _ _ => 0)
  case atStart => exact ⟨rfl, rfl⟩
  case round =>
    obtain ⟨rfl, rfl⟩ := hrel
    go_wp2_with fail
    refine (num_any _ _).mono ?_
    rintro e w7 ⟨rfl, hw7⟩
    subst hw7
    go_wp2
    go_loopw [10, 11] (fun at' i wq => ∃ m : Nat, m ≤ 1 ∧ i = .int .i64 m ∧ at' = .int .i64 0 ∧ wq = w7) (fun _ i _ => 1 - (intOf i).toNat)
    case atStart => exact ⟨0, by omega, rfl, rfl, rfl⟩
    case round =>
      obtain ⟨m, hm, rfl, rfl, rfl⟩ := hrel
      rcases (show m = 0 ∨ m = 1 by omega) with rfl | rfl
      · go_wp2
        go_loopw [13, 14] (fun sv kv wq => kv = .int .i64 0 ∧ sv = .int .i64 0 ∧ wq = wr) (fun _ _ _ => 0)
        case atStart => exact ⟨rfl, rfl, by trivial⟩
        case round =>
          obtain ⟨rfl, rfl, rfl⟩ := hrel
          go_wp2
          go_roundw
          case rel => exact ⟨1, by omega, rfl, rfl, by trivial⟩
          case measure => simp [intOf]
      · go_wp2
        go_ret
        exact ⟨rfl, HB3.out⟩

set_option maxHeartbeats 4000000 in
theorem sums_walk (v : Value) (R : List Tk) (w : World) (h : SK w v R) (hb : ∀ t ∈ R, Bt t) (hn : R.length ≤ 5864062014800) (T : Ltab w ∧ Dtab w) :
    Calls Tryd.prog 3 #[v] w fun e w' => e = .returned (.bool true) ∧ Below w.heap.size w w' := by
  have HS := hide h
  have HBT := hide hb
  have HT := hide T
  obtain ⟨ao, cap, rfl, hlc, hcm⟩ := h.open
  by_cases hRe : R = []
  · subst hRe
    exact sums_empty ao cap hcm w h T
  have HNE : Hid (0 < R.length) := List.length_pos_iff.2 hRe
  clear h hb T hRe
  go_enter Tryd.func3, Tryd.ntmps3
  go_wp2_with (at_make; refine wpList_mkK rfl _ _ rfl _ _ R.length rfl rfl (by omega) ?_)
  intro w1 cur hg1 hc1 hb1
  have hV1 := HS.out.below hb1
  go_wp2_with (refine wpList_copyK rfl _ _ rfl w.heap.size R.length R.length (.slice ao R.length cap) R rfl rfl hV1 cur hg1 hc1 rfl ?_)
  intro w2 hg2 ho2 hs2 q1 q2 q3
  have HB2 : Hid (Below w.heap.size w w2) := ⟨q1.trans hb1.os, q2.trans hb1.tape, q3.trans hb1.output, by rw [hs2]; exact hb1.size, fun k hk => (ho2 k (by omega)).trans (hb1.block k hk)⟩
  have HGV : Hid (OK w2 w.heap.size (.slice (some ⟨w.heap.size, 0, none⟩) R.length R.length) R) :=
    ⟨fr3_len R, .inr ⟨w.heap.size, R.length, _, rfl, Nat.le_refl _, hg2, Nat.le_refl _, by unfold maxLen; omega, by simp [fr3_len], List.take_of_length_le (by simp [fr3_len])⟩⟩
  have HSP := hide (fSplit_any w.heap.size 0 R.length R w2 HGV.out.sk HBT.out ⟨HT.out.1.low HB2.out, HT.out.2.low HB2.out⟩)
  clear hg1 hc1 hb1 hV1 hg2 ho2 hs2 q1 q2 q3
  go_wp2_with fail
  refine HSP.out.mono ?_
  rintro e w3 ⟨u, rfl, o3, b3⟩
  have HB3 := hide (HB2.out.trans (b3.mono HB2.out.size))
  have HOI := hide o3
  obtain ⟨a3, p3, hu⟩ := o3.shape
  subst hu
  clear o3 b3 HSP HGV HB2
  by_cases hl : 16777216 < R.length
  · have hl' : (16777216 : Int) < (R.length : Int) := by omega
    have HA : Hid (ctE R = 1 ∧ spi R = []) := by
      have h2 : ctE R = 1 := by unfold ctE; rw [if_pos hl]
      exact ⟨h2, if_neg (by rw [h2]; decide)⟩
    rw [HA.out.1, HA.out.2]
    go_wp2_with fail
    refine (num_any _ _).mono ?_
    rintro e w7 ⟨rfl, rfl⟩
    go_wp2
    go_ret
    exact ⟨rfl, HB3.out⟩
  have hl' : ¬ (16777216 : Int) < (R.length : Int) := by omega
  obtain ⟨w3', hw3'⟩ : ∃ w3', w3' = w3 := ⟨_, rfl⟩
  go_wp2
  go_loopw [6] (fun i wr => ∃ k : Nat, k ≤ R.length ∧ i = .int .i64 k ∧ Hid (∀ t ∈ R.take k, Snd t) ∧ Hid (Below w3.heap.size w3 wr)) (fun i _ => R.length - (intOf i).toNat)
  case atStart => exact ⟨0, Nat.zero_le _, rfl, fun t ht => by simp at ht, Below.refl _ _⟩
  case round =>
    obtain ⟨k, hk, rfl, HSO, HBX⟩ := hrel
    have HB := hide (HB3.out.trans (HBX.out.mono HB3.out.size))
    by_cases hlt : k < R.length
    · have hlt' : (k : Int) < (R.length : Int) := by omega
      obtain ⟨b, o, rfl, c0, c1, c2⟩ := HS.out.get HB.out hlt
      have hmem : R.getD k tk0 ∈ R := by rw [List.getD_eq_getElem?_getD, List.getElem?_eq_getElem hlt]; exact List.getElem_mem hlt
      have HNX : Hid (Snd (R.getD k tk0) → ∀ t ∈ R.take (k + 1), Snd t) := fun h t ht => by
        rw [tk_snoc hlt] at ht
        rcases List.mem_append.1 ht with h1 | h1
        · exact HSO.out t h1
        · rw [List.mem_singleton.1 h1]; exact h
      obtain ⟨⟨t1, t2, t3⟩, ht⟩ : ∃ t, R.getD k tk0 = t := ⟨_, rfl⟩
      rw [ht] at c0 c1 c2 hmem HNX
      simp only at c0 c1 c2
      obtain ⟨w6, hw6⟩ : ∃ w6, wr.alloc (.cells #[.int .i64 t1, .int .i64 t2, .int .u8 t3] 29) = w6 := ⟨_, rfl⟩
      have HB6 : Hid (Below w.heap.size w w6) := by rw [← hw6]; exact HB.out.alloc HB.out.size _
      have HB7 : Hid (Below w3.heap.size w3 w6) := by rw [← hw6]; exact HBX.out.alloc HBX.out.size _
      have HN : w6.heap[wr.heap.size]? = some (.cells #[.int .i64 t1, .int .i64 t2, .int .u8 t3] 29 (0, 0)) := by rw [← hw6]; exact heap_alloc_new wr _
      have y0 : w6.cell? ⟨wr.heap.size, 0, none⟩ = some (.int .i64 t1) := by unfold World.cell?; rw [HN]; rfl
      have y1 : w6.cell? ⟨wr.heap.size, 1, none⟩ = some (.int .i64 t2) := by unfold World.cell?; rw [HN]; rfl
      have y2 : w6.cell? ⟨wr.heap.size, 2, none⟩ = some (.int .u8 t3) := by unfold World.cell?; rw [HN]; rfl
      clear ht HN HB
      by_cases hns : Snd (t1, t2, t3)
      · have HN6 := hide (HNX.out hns)
        unfold Snd at hns
        simp only at hns
        by_cases h0 : t1 = 0
        · have h2 : t2 = 0 := by rw [if_pos h0] at hns; exact hns
          subst h0 h2
          clear hns
          clear hmem
          go_wp2
          go_roundw
          case rel => exact ⟨k + 1, by omega, by go_num, HN6, HB7⟩
          case measure => simp [intOf]; omega
        · rw [if_neg h0] at hns
          obtain ⟨q1, q2, q3, q4, q5⟩ := hns
          have g0 : (t1 == 0) = false := by simpa using h0
          have g5 : (t3 == 0) = true := by simpa using q5
          have g1 : decide (3 ≤ t1) = true := decide_eq_true (by omega)
          have g2 : decide (t1 ≤ 258) = true := decide_eq_true (by omega)
          have g3 : decide (1 ≤ t2) = true := decide_eq_true (by omega)
          have g4 : decide (t2 ≤ 32768) = true := decide_eq_true (by omega)
          clear h0 q5
          clear hmem
          go_wp2
          go_roundw
          case rel => exact ⟨k + 1, by omega, by go_num, HN6, HB7⟩
          case measure => simp [intOf]; omega
      · have hns2 := hns
        unfold Snd at hns2
        simp only at hns2
        by_cases h0 : t1 = 0
        · have h2 : ¬ t2 = 0 := by rw [if_pos h0] at hns2; exact hns2
          have g0 : (t1 == 0) = true := by simpa using h0
          have gg : (t2 == 0) = false := by simpa using h2
          have g1 : decide (3 ≤ t1) = false := decide_eq_false (by omega)
          clear hns2
          have HA2 : Hid (ctE R = 100 ∧ spi R = []) := by
            have h1 : asnd R ≠ true := fun e => hns (asnd_all e _ hmem)
            have h2 : ctE R = 100 := by unfold ctE; rw [if_neg (by omega), if_neg h1]
            exact ⟨h2, if_neg (by rw [h2]; decide)⟩
          rw [HA2.out.1, HA2.out.2]
          clear hns hmem h0 h2
          go_wp2_with fail
          refine (num_any _ _).mono ?_
          rintro e w7 ⟨rfl, rfl⟩
          go_wp2
          go_ret
          exact ⟨rfl, HB6.out⟩
        · rw [if_neg h0] at hns2
          have g0 : (t1 == 0) = false := by simpa using h0
          by_cases q1 : 3 ≤ t1
          case neg =>
            have g1 : decide (3 ≤ t1) = false := decide_eq_false (by omega)
            have HA2 : Hid (ctE R = 100 ∧ spi R = []) := by
              have h1 : asnd R ≠ true := fun e => hns (asnd_all e _ hmem)
              have h2 : ctE R = 100 := by unfold ctE; rw [if_neg (by omega), if_neg h1]
              exact ⟨h2, if_neg (by rw [h2]; decide)⟩
            rw [HA2.out.1, HA2.out.2]
            clear hns hmem hns2 h0 q1
            go_wp2_with fail
            refine (num_any _ _).mono ?_
            rintro e w7 ⟨rfl, rfl⟩
            go_wp2
            go_ret
            exact ⟨rfl, HB6.out⟩
          by_cases q2 : t1 ≤ 258
          case neg =>
            have g1 : decide (3 ≤ t1) = true := decide_eq_true (by omega)
            have g2 : decide (t1 ≤ 258) = false := decide_eq_false (by omega)
            have HA2 : Hid (ctE R = 100 ∧ spi R = []) := by
              have h1 : asnd R ≠ true := fun e => hns (asnd_all e _ hmem)
              have h2 : ctE R = 100 := by unfold ctE; rw [if_neg (by omega), if_neg h1]
              exact ⟨h2, if_neg (by rw [h2]; decide)⟩
            rw [HA2.out.1, HA2.out.2]
            clear hns hmem hns2 h0 q1 q2
            go_wp2_with fail
            refine (num_any _ _).mono ?_
            rintro e w7 ⟨rfl, rfl⟩
            go_wp2
            go_ret
            exact ⟨rfl, HB6.out⟩
          by_cases q3 : 1 ≤ t2
          case neg =>
            have g1 : decide (3 ≤ t1) = true := decide_eq_true (by omega)
            have g2 : decide (t1 ≤ 258) = true := decide_eq_true (by omega)
            have g3 : decide (1 ≤ t2) = false := decide_eq_false (by omega)
            have HA2 : Hid (ctE R = 100 ∧ spi R = []) := by
              have h1 : asnd R ≠ true := fun e => hns (asnd_all e _ hmem)
              have h2 : ctE R = 100 := by unfold ctE; rw [if_neg (by omega), if_neg h1]
              exact ⟨h2, if_neg (by rw [h2]; decide)⟩
            rw [HA2.out.1, HA2.out.2]
            clear hns hmem hns2 h0 q1 q2 q3
            go_wp2_with fail
            refine (num_any _ _).mono ?_
            rintro e w7 ⟨rfl, rfl⟩
            go_wp2
            go_ret
            exact ⟨rfl, HB6.out⟩
          by_cases q4 : t2 ≤ 32768
          case neg =>
            have g1 : decide (3 ≤ t1) = true := decide_eq_true (by omega)
            have g2 : decide (t1 ≤ 258) = true := decide_eq_true (by omega)
            have g3 : decide (1 ≤ t2) = true := decide_eq_true (by omega)
            have g4 : decide (t2 ≤ 32768) = false := decide_eq_false (by omega)
            have HA2 : Hid (ctE R = 100 ∧ spi R = []) := by
              have h1 : asnd R ≠ true := fun e => hns (asnd_all e _ hmem)
              have h2 : ctE R = 100 := by unfold ctE; rw [if_neg (by omega), if_neg h1]
              exact ⟨h2, if_neg (by rw [h2]; decide)⟩
            rw [HA2.out.1, HA2.out.2]
            clear hns hmem hns2 h0 q1 q2 q3 q4
            go_wp2_with fail
            refine (num_any _ _).mono ?_
            rintro e w7 ⟨rfl, rfl⟩
            go_wp2
            go_ret
            exact ⟨rfl, HB6.out⟩
          have q5 : ¬ t3 = 0 := fun e => hns2 ⟨q1, q2, q3, q4, e⟩
          have g5 : (t3 == 0) = false := by simpa using q5
          have g1 : decide (3 ≤ t1) = true := decide_eq_true (by omega)
          have g2 : decide (t1 ≤ 258) = true := decide_eq_true (by omega)
          have g3 : decide (1 ≤ t2) = true := decide_eq_true (by omega)
          have g4 : decide (t2 ≤ 32768) = true := decide_eq_true (by omega)
          have HA2 : Hid (ctE R = 100 ∧ spi R = []) := by
            have h1 : asnd R ≠ true := fun e => hns (asnd_all e _ hmem)
            have h2 : ctE R = 100 := by unfold ctE; rw [if_neg (by omega), if_neg h1]
            exact ⟨h2, if_neg (by rw [h2]; decide)⟩
          rw [HA2.out.1, HA2.out.2]
          clear hns hmem hns2 h0 q1 q2 q3 q4 q5
          go_wp2_with fail
          refine (num_any _ _).mono ?_
          rintro e w7 ⟨rfl, rfl⟩
          go_wp2
          go_ret
          exact ⟨rfl, HB6.out⟩
    · obtain rfl : k = R.length := by omega
      have hlt' : ¬ (R.length : Int) < (R.length : Int) := by omega
      have hall : ∀ t ∈ R, Snd t := fun t ht => HSO.out t (by rw [List.take_of_length_le (Nat.le_refl _)]; exact ht)
      have HALL := hide hall
      have HA2 : Hid (ctE R = 0 ∧ spi R = (spl R).map (fun n : Nat => (n : Int))) := by
        have h1 : asnd R = true := List.all_eq_true.2 fun t ht => decide_eq_true (hall t ht)
        have h2 : ctE R = 0 := by unfold ctE; rw [if_neg (by omega), if_pos h1]
        exact ⟨h2, if_pos h2⟩
      obtain ⟨hsum, hpos, hgd⟩ := spl_good R hall
      have HGD := hide hgd
      have HSUM := hide hsum
      have HOW : Hid (OI wr 0 (.slice a3 (spi R).length p3) (spi R)) := (HOI.out.below HBX.out (Nat.le_refl _)).base (Nat.zero_le _)
      rw [HA2.out.1, HA2.out.2, List.length_map]
      rw [HA2.out.2, List.length_map] at HOW
      obtain ⟨L, hL⟩ : ∃ L, spl R = L := ⟨_, rfl⟩
      rw [hL] at HGD HSUM hpos HOW ⊢
      have hLl : L.length ≤ 131073 := by
        have := spl_len R
        rw [hL] at this
        unfold spK at this
        omega
      obtain ⟨gl, cl, hvv, hcl1, hcl2⟩ := HOW.out.some11 (by rw [List.length_map]; exact hpos)
      rw [List.length_map] at hvv
      simp only [Value.slice.injEq] at hvv
      obtain ⟨rfl, -, rfl⟩ := hvv
      have hp0 : ((L.length : Int) == 0) = false := by rw [beq_eq_false_iff_ne]; omega
      have HCE : Hid (∀ i, i < L.length → wr.cell? ⟨gl, i, none⟩ = some (.int .i64 ((L.getD i 0 : Nat) : Int))) := fun i hi => by
        have := OI.get HOW.out (b := gl) rfl (i := i) (by rw [List.length_map]; exact hi)
        rw [this]
        simp [List.getD_eq_getElem?_getD, List.getElem?_eq_getElem hi]
      obtain ⟨W, hW⟩ : ∃ W, W = wr := ⟨_, rfl⟩
      subst hW
      clear HSO hall hsum hgd hL HA2
      go_wp2_with fail
      refine (num_any _ _).mono ?_
      rintro e w7 ⟨rfl, hw7⟩
      subst hw7
      go_wp2
      go_loopw [10, 11] (fun at' i wq => ∃ m : Nat, m ≤ L.length ∧ i = .int .i64 m ∧ at' = .int .i64 (((L.take m).sum : Nat) : Int) ∧ wq = w7) (fun _ i _ => L.length - (intOf i).toNat)
      case atStart => exact ⟨0, Nat.zero_le _, rfl, rfl, rfl⟩
      case round =>
        obtain ⟨m, hm, rfl, rfl, rfl⟩ := hrel
        by_cases hml : m < L.length
        · have hml' : (m : Int) < (L.length : Int) := by omega
          have hgd := HGD.out m hml
          have x0 := HCE.out m hml
          have HSN := hide (sum_snoc L m hml)
          have hG := HGD.out m hml
          have q1 := hG.few
          have q2 := hG.fit
          have q3 := hG.pos
          have q4 := hG.say
          have q5 := hG.even
          obtain ⟨n, hn9⟩ : ∃ n, L.getD m 0 = n := ⟨_, rfl⟩
          obtain ⟨S, hS⟩ : ∃ S, (L.take m).sum = S := ⟨_, rfl⟩
          rw [hn9] at x0 HSN q1 q2 q3 q4 q5
          rw [hS] at HSN q2 q4 ⊢
          have HQ4 := hide q4
          clear hgd hG hn9 hS q4
          obtain ⟨x, hx⟩ : ∃ x : Int, (n : Int) = x := ⟨_, rfl⟩
          obtain ⟨D, hD⟩ : ∃ D : Int, (R.length : Int) - (S : Int) = D := ⟨_, rfl⟩
          rw [hx] at x0
          have HX := hide hx
          have a1 : decide (x < 0) = false := decide_eq_false (by omega)
          have a2 : decide (8192 < x) = false := decide_eq_false (by omega)
          have a3' : decide (D < x) = false := decide_eq_false (by omega)
          have a9 : ¬ 8192 < x := by omega
          have a11 : ¬ D < x := by omega
          have a12 : ¬ x < 0 := by omega
          have a4 : wrap64 D = D := by unfold wrap64; omega
          have a6 : wrap64 ((L.length : Int) - 1) = (L.length : Int) - 1 := by unfold wrap64; omega
          have a7 : wrap64 ((S : Int) + x) = (S : Int) + x := by unfold wrap64; omega
          have hcs : (n = 0 ∧ R.length = 0) ∨ (0 < n ∧ n % 128 = 0) ∨ (0 < n ∧ ¬ n % 128 = 0 ∧ m + 1 = L.length) := three11 hml q3 q5
          clear q3 q5 hx
          rcases hcs with ⟨z1, z2⟩ | ⟨z1, z2⟩ | ⟨z1, z2, z3⟩
          · exact absurd z2 (by have := HNE.out; omega)
          · have hx0 : ¬ x = 0 := by rw [← HX.out]; omega
            have b1 : (x == 0) = false := by rw [beq_eq_false_iff_ne]; exact hx0
            have a5 : x.tmod 128 = 0 := by rw [← HX.out, Int.tmod_eq_emod_of_nonneg (by omega)]; omega
            clear z2
            go_wp2
            go_loopw [13, 14] (fun sv kv wq => ∃ j : Nat, S ≤ j ∧ j ≤ S + n ∧ kv = .int .i64 j ∧ sv = .int .i64 (sayS (seg R S j)) ∧ wq = wr) (fun _ kv _ => S + n - (intOf kv).toNat)
            case atStart => exact ⟨S, Nat.le_refl _, by omega, rfl, by simp [seg, sayS], rfl⟩
            case round =>
              obtain ⟨j, hj1, hj2, rfl, rfl, rfl⟩ := hrel
              have hsy := say_in (A := seg R S j) (fun t ht => HALL.out t (seg_mem ht)) (by unfold seg; simp; omega)
              by_cases hjl : j < S + n
              · have hjl' : (j : Int) < (S : Int) + x := by rw [← HX.out]; omega
                obtain ⟨b, o, rfl, c0, c1, c2⟩ := HS.out.get HB.out (k := j) (by omega)
                have HSS := hide (seg_snoc (R := R) hj1 (by omega))
                have hsn := HALL.out (R.getD j tk0) (by rw [List.getD_eq_getElem?_getD, List.getElem?_eq_getElem (by omega)]; exact List.getElem_mem _)
                have hsl := say_le hsn
                obtain ⟨⟨t1, t2, t3⟩, ht⟩ : ∃ t, R.getD j tk0 = t := ⟨_, rfl⟩
                rw [ht] at c0 c1 c2 hsn hsl HSS
                simp only at c0 c1 c2
                have hmx : (t1 = 0 ∧ say (t1, t2, t3) = 1) ∨ (3 ≤ t1 ∧ t1 ≤ 258 ∧ say (t1, t2, t3) = t1) := by
                  unfold Snd at hsn
                  unfold say
                  by_cases h0 : t1 = 0
                  · exact .inl ⟨h0, if_pos h0⟩
                  · rw [if_neg h0] at hsn ⊢
                    exact .inr ⟨hsn.1, hsn.2.1, rfl⟩
                obtain ⟨s, hs⟩ : ∃ s, say (t1, t2, t3) = s := ⟨_, rfl⟩
                obtain ⟨y, hy⟩ : ∃ y, sayS (seg R S j) = y := ⟨_, rfl⟩
                rw [hs] at hmx hsl HSS
                rw [hy] at hsy HSS ⊢
                have hyw : wrap64 (y + s) = y + s := by unfold wrap64; omega
                clear hsn ht hs hy
                rcases hmx with ⟨h0, h1⟩ | ⟨h3, h4, h1⟩
                · subst h0 h1
                  go_wp2
                  go_roundw
                  case rel => exact ⟨j + 1, by omega, by omega, by go_num, by rw [HSS.out], by trivial⟩
                  case measure => simp [intOf]; omega
                · subst h1
                  have h5 : max 1 s = s := by omega
                  have h6 : ¬ s ≤ 1 := by omega
                  have h7 : ¬ s < 1 := by omega
                  have h8 : 1 < s := by omega
                  go_wp2
                  go_roundw
                  case rel => exact ⟨j + 1, by omega, by omega, by go_num, by rw [HSS.out], by trivial⟩
                  case measure => simp [intOf]; omega
              · obtain rfl : j = S + n := by omega
                have hjl' : ¬ (((S + n : Nat) : Int)) < (S : Int) + x := by rw [← HX.out]; omega
                have hq4 := HQ4.out
                obtain ⟨y, hy⟩ : ∃ y, sayS (seg R S (S + n)) = y := ⟨_, rfl⟩
                rw [hy] at hq4 hsy ⊢
                have hy1 : ¬ 65535 < y := by omega
                clear hy
                go_wp2
                go_roundw
                case rel => exact ⟨m + 1, by omega, by go_num, by rw [HSN.out]; have := HX.out; go_num, by trivial⟩
                case measure => simp [intOf]; omega
          · have hx0 : ¬ x = 0 := by rw [← HX.out]; omega
            have b1 : (x == 0) = false := by rw [beq_eq_false_iff_ne]; exact hx0
            obtain ⟨r, hr⟩ : ∃ r, x.tmod 128 = r := ⟨_, rfl⟩
            have hr1 : r ≠ 0 ∧ 0 ≤ r ∧ r < 128 := by rw [← hr, ← HX.out, Int.tmod_eq_emod_of_nonneg (by omega)]; omega
            have hr0 : ¬ r = 0 := hr1.1
            have b3 : (r != 0) = true := by rw [bne_iff_ne]; exact hr0
            have hrw : wrap64 r = r := by unfold wrap64; omega
            have b5 : decide ((m : Int) < (L.length : Int) - 1) = false := decide_eq_false (by omega)
            clear z2 hr1
            go_wp2
            go_loopw [13, 14] (fun sv kv wq => ∃ j : Nat, S ≤ j ∧ j ≤ S + n ∧ kv = .int .i64 j ∧ sv = .int .i64 (sayS (seg R S j)) ∧ wq = wr) (fun _ kv _ => S + n - (intOf kv).toNat)
            case atStart => exact ⟨S, Nat.le_refl _, by omega, rfl, by simp [seg, sayS], rfl⟩
            case round =>
              obtain ⟨j, hj1, hj2, rfl, rfl, rfl⟩ := hrel
              have hsy := say_in (A := seg R S j) (fun t ht => HALL.out t (seg_mem ht)) (by unfold seg; simp; omega)
              by_cases hjl : j < S + n
              · have hjl' : (j : Int) < (S : Int) + x := by rw [← HX.out]; omega
                obtain ⟨b, o, rfl, c0, c1, c2⟩ := HS.out.get HB.out (k := j) (by omega)
                have HSS := hide (seg_snoc (R := R) hj1 (by omega))
                have hsn := HALL.out (R.getD j tk0) (by rw [List.getD_eq_getElem?_getD, List.getElem?_eq_getElem (by omega)]; exact List.getElem_mem _)
                have hsl := say_le hsn
                obtain ⟨⟨t1, t2, t3⟩, ht⟩ : ∃ t, R.getD j tk0 = t := ⟨_, rfl⟩
                rw [ht] at c0 c1 c2 hsn hsl HSS
                simp only at c0 c1 c2
                have hmx : (t1 = 0 ∧ say (t1, t2, t3) = 1) ∨ (3 ≤ t1 ∧ t1 ≤ 258 ∧ say (t1, t2, t3) = t1) := by
                  unfold Snd at hsn
                  unfold say
                  by_cases h0 : t1 = 0
                  · exact .inl ⟨h0, if_pos h0⟩
                  · rw [if_neg h0] at hsn ⊢
                    exact .inr ⟨hsn.1, hsn.2.1, rfl⟩
                obtain ⟨s, hs⟩ : ∃ s, say (t1, t2, t3) = s := ⟨_, rfl⟩
                obtain ⟨y, hy⟩ : ∃ y, sayS (seg R S j) = y := ⟨_, rfl⟩
                rw [hs] at hmx hsl HSS
                rw [hy] at hsy HSS ⊢
                have hyw : wrap64 (y + s) = y + s := by unfold wrap64; omega
                clear hsn ht hs hy
                rcases hmx with ⟨h0, h1⟩ | ⟨h3, h4, h1⟩
                · subst h0 h1
                  go_wp2
                  go_roundw
                  case rel => exact ⟨j + 1, by omega, by omega, by go_num, by rw [HSS.out], by trivial⟩
                  case measure => simp [intOf]; omega
                · subst h1
                  have h5 : max 1 s = s := by omega
                  have h6 : ¬ s ≤ 1 := by omega
                  have h7 : ¬ s < 1 := by omega
                  have h8 : 1 < s := by omega
                  go_wp2
                  go_roundw
                  case rel => exact ⟨j + 1, by omega, by omega, by go_num, by rw [HSS.out], by trivial⟩
                  case measure => simp [intOf]; omega
              · obtain rfl : j = S + n := by omega
                have hjl' : ¬ (((S + n : Nat) : Int)) < (S : Int) + x := by rw [← HX.out]; omega
                have hq4 := HQ4.out
                obtain ⟨y, hy⟩ : ∃ y, sayS (seg R S (S + n)) = y := ⟨_, rfl⟩
                rw [hy] at hq4 hsy ⊢
                have hy1 : ¬ 65535 < y := by omega
                clear hy
                go_wp2
                go_roundw
                case rel => exact ⟨m + 1, by omega, by go_num, by rw [HSN.out]; have := HX.out; go_num, by trivial⟩
                case measure => simp [intOf]; omega
        · obtain rfl : m = L.length := by omega
          have hml' : ¬ (L.length : Int) < (L.length : Int) := by omega
          rw [List.take_of_length_le (Nat.le_refl _), HSUM.out]
          have b9 : ((R.length : Int) == (R.length : Int)) = true := by simp
          go_wp2
          go_ret
          exact ⟨rfl, HB.out⟩
end Go.Proofs.YtelnnlgnpaepcaaDoorR

