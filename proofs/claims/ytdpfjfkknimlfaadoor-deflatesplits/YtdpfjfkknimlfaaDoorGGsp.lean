import Derived.Test.YtdpfjfkknimlfaaDoorGGcl
import Derived.Deep.RegionHeld3
namespace Go.Proofs.YtdpfjfkknimlfaaDoor
open Go.RowKit Go.Maps
set_option maxRecDepth 20000
set_option linter.unusedVariables false
set_option linter.unusedSimpArgs false

theorem gsound_any (a b c : Int) (w : World) : Calls Tryd.prog 11 #[.agg #[.int .i64 a, .int .i64 b, .int .u8 c]] w fun e w' => e = .returned (.bool (sndb (a, b, c))) ∧ Below w.heap.size w w' := by
  have HB : Hid (Below w.heap.size w (w.alloc (.cells #[.int .i64 a, .int .i64 b, .int .u8 c] 24))) := (Below.refl _ _).alloc (Nat.le_refl _) _
  obtain ⟨wb, hwb⟩ : ∃ wb, w.alloc (.cells #[.int .i64 a, .int .i64 b, .int .u8 c] 24) = wb := ⟨_, rfl⟩
  have d1 : wb.cell? ⟨w.heap.size, 0, none⟩ = some (.int .i64 a) := by rw [← hwb]; unfold World.cell?; simp only [heap_alloc_new]; rfl
  have d2 : wb.cell? ⟨w.heap.size, 1, none⟩ = some (.int .i64 b) := by rw [← hwb]; unfold World.cell?; simp only [heap_alloc_new]; rfl
  have d3 : wb.cell? ⟨w.heap.size, 2, none⟩ = some (.int .u8 c) := by rw [← hwb]; unfold World.cell?; simp only [heap_alloc_new]; rfl
  rw [hwb] at HB
  by_cases h0 : a = 0
  · have g0 : (a == 0) = true := by simpa using h0
    by_cases hb : b = 0
    · have g1 : (b == 0) = true := by simpa using hb
      have HE2 : Hid (sndb (a, b, c) = true) := by show _ = _; unfold sndb Snd; simp [h0, hb]
      clear h0 hb
      rw [HE2.out]
      go_enter Tryd.func11, Tryd.ntmps11
      go_wp2
      go_ret
      exact ⟨rfl, HB.out⟩
    · have g1 : (b == 0) = false := by simpa using hb
      have HE2 : Hid (sndb (a, b, c) = false) := by show _ = _; unfold sndb Snd; simp [h0, hb]
      clear h0 hb
      rw [HE2.out]
      go_enter Tryd.func11, Tryd.ntmps11
      go_wp2
      go_ret
      exact ⟨rfl, HB.out⟩
  · have g0 : (a == 0) = false := by simpa using h0
    have HE : Hid (sndb (a, b, c) = decide (3 ≤ a ∧ a ≤ 258 ∧ 1 ≤ b ∧ b ≤ 32768 ∧ c = 0)) := by show _ = _; unfold sndb Snd; simp [h0]
    by_cases h5 : c = 0
    case neg =>
      have g5 : (c == 0) = false := by simpa using h5
      have HE2 : Hid (sndb (a, b, c) = false) := by show _ = _; rw [HE.out]; exact decide_eq_false (fun q => h5 q.2.2.2.2)
      clear HE h0 h5
      rw [HE2.out]
      go_enter Tryd.func11, Tryd.ntmps11
      go_wp2
      go_ret
      exact ⟨rfl, HB.out⟩
    have g5 : (c == 0) = true := by simpa using h5
    by_cases h1 : 3 ≤ a
    case neg =>
      have g1 : decide (3 ≤ a) = false := decide_eq_false h1
      have HE2 : Hid (sndb (a, b, c) = false) := by show _ = _; rw [HE.out]; exact decide_eq_false (fun q => h1 q.1)
      clear HE h0 h5 h1
      rw [HE2.out]
      go_enter Tryd.func11, Tryd.ntmps11
      go_wp2
      go_ret
      exact ⟨rfl, HB.out⟩
    have g1 : decide (3 ≤ a) = true := decide_eq_true h1
    by_cases h2 : a ≤ 258
    case neg =>
      have g2 : decide (a ≤ 258) = false := decide_eq_false h2
      have HE2 : Hid (sndb (a, b, c) = false) := by show _ = _; rw [HE.out]; exact decide_eq_false (fun q => h2 q.2.1)
      clear HE h0 h5 h1 h2
      rw [HE2.out]
      go_enter Tryd.func11, Tryd.ntmps11
      go_wp2
      go_ret
      exact ⟨rfl, HB.out⟩
    have g2 : decide (a ≤ 258) = true := decide_eq_true h2
    by_cases h3 : 1 ≤ b
    case neg =>
      have g3 : decide (1 ≤ b) = false := decide_eq_false h3
      have HE2 : Hid (sndb (a, b, c) = false) := by show _ = _; rw [HE.out]; exact decide_eq_false (fun q => h3 q.2.2.1)
      clear HE h0 h5 h1 h2 h3
      rw [HE2.out]
      go_enter Tryd.func11, Tryd.ntmps11
      go_wp2
      go_ret
      exact ⟨rfl, HB.out⟩
    have g3 : decide (1 ≤ b) = true := decide_eq_true h3
    by_cases h4 : b ≤ 32768
    case neg =>
      have g4 : decide (b ≤ 32768) = false := decide_eq_false h4
      have HE2 : Hid (sndb (a, b, c) = false) := by show _ = _; rw [HE.out]; exact decide_eq_false (fun q => h4 q.2.2.2.1)
      clear HE h0 h5 h1 h2 h3 h4
      rw [HE2.out]
      go_enter Tryd.func11, Tryd.ntmps11
      go_wp2
      go_ret
      exact ⟨rfl, HB.out⟩
    have g4 : decide (b ≤ 32768) = true := decide_eq_true h4
    have HE2 : Hid (sndb (a, b, c) = true) := by show _ = _; rw [HE.out]; exact decide_eq_true ⟨h1, h2, h3, h4, h5⟩
    clear HE h0 h5 h1 h2 h3 h4
    rw [HE2.out]
    go_enter Tryd.func11, Tryd.ntmps11
    go_wp2
    go_ret
    exact ⟨rfl, HB.out⟩

theorem all_take {R : List Tk} {k : Nat} (h : ∀ t ∈ R.take k, Snd t) (hk : k < R.length) (hs : Snd (R.getD k tk0)) : ∀ t ∈ R.take (k + 1), Snd t := fun t ht => by
  rw [tk_snoc hk] at ht
  rcases List.mem_append.1 ht with h1 | h1
  · exact h t h1
  · rw [List.mem_singleton.1 h1]; exact hs

set_option maxHeartbeats 4000000 in
theorem gSplit_any (v : Value) (R : List Tk) (w : World) (h : SK w v R) (hb : ∀ t ∈ R, Bt t) :
    Calls Tryd.prog 5 #[v] w fun e w' => ∃ u, e = .returned (.tuple #[u, .int .i64 (ctE R)]) ∧ OI w' w.heap.size u (spi R) ∧ Below w.heap.size w w' := by
  have HS := hide h
  have HBT := hide hb
  obtain ⟨ao, cap, rfl, hlc, hcm⟩ := h.open
  clear h hb
  by_cases hl : 16777216 < R.length
  · have hl' : (16777216 : Int) < (R.length : Int) := by omega
    have h2 : ctE R = 1 := by unfold ctE; rw [if_pos hl]
    have HA : Hid (spi R = []) := if_neg (by rw [h2]; decide)
    rw [h2, HA.out]
    clear h2
    go_enter Tryd.func5, Tryd.ntmps5
    go_wp2
    refine bodyPost_ret (results_tmp2 rfl _ _ _) rfl ?_
    exact ⟨_, rfl, oi_nil10 _ _, Below.refl _ _⟩
  have hl' : ¬ (16777216 : Int) < (R.length : Int) := by omega
  have HNO : Hid (∀ t ∈ R, ¬ Snd t → ctE R = 100 ∧ spi R = []) := fun t ht hns => by
    have h1 : asnd R ≠ true := fun e => hns (asnd_all e _ ht)
    have h2 : ctE R = 100 := by unfold ctE; rw [if_neg (by omega), if_neg h1]
    exact ⟨h2, if_neg (by rw [h2]; decide)⟩
  have HYE : Hid ((∀ t ∈ R, Snd t) → ctE R = 0 ∧ spi R = (spl R).map (fun n : Nat => (n : Int))) := fun hall => by
    have h1 : asnd R = true := List.all_eq_true.2 fun t ht => decide_eq_true (hall t ht)
    have h2 : ctE R = 0 := by unfold ctE; rw [if_neg (by omega), if_pos h1]
    exact ⟨h2, if_pos h2⟩
  go_enter Tryd.func5, Tryd.ntmps5
  go_wp2
  go_loopw [4] (fun i wr => ∃ k : Nat, k ≤ R.length ∧ i = .int .i64 k ∧ Hid (∀ t ∈ R.take k, Snd t) ∧ Hid (Below w.heap.size w wr)) (fun i _ => R.length - (intOf i).toNat)
  case atStart => exact ⟨0, Nat.zero_le _, rfl, fun t ht => by simp at ht, Below.refl _ _⟩
  case round =>
    obtain ⟨k, hk, rfl, HSO, HB⟩ := hrel
    by_cases hlt : k < R.length
    · have hlt' : (k : Int) < (R.length : Int) := by omega
      obtain ⟨b, o, rfl, c0, c1, c2⟩ := HS.out.get HB.out hlt
      have HMEM := hide (tk_mem hlt)
      have HAT := hide (all_take HSO.out hlt)
      obtain ⟨⟨t1, t2, t3⟩, ht⟩ : ∃ t, R.getD k tk0 = t := ⟨_, rfl⟩
      rw [ht] at c0 c1 c2 HMEM HAT
      simp only at c0 c1 c2
      have HG := hide (gsound_any t1 t2 t3 wr)
      clear ht
      by_cases hns : Snd (t1, t2, t3)
      · have e1 : sndb (t1, t2, t3) = true := decide_eq_true hns
        rw [e1] at HG
        have HN := hide (HAT.out hns)
        clear e1 hns HAT
        go_wp2_with fail
        refine HG.out.mono ?_
        rintro e w8 ⟨rfl, b8⟩
        have HB8 := hide (HB.out.trans (b8.mono HB.out.size))
        clear b8 HG
        go_wp2
        go_roundw
        case rel => exact ⟨k + 1, by omega, by go_num, HN, HB8⟩
        case measure => simp [intOf]; omega
      · have e1 : sndb (t1, t2, t3) = false := decide_eq_false hns
        rw [e1] at HG
        obtain ⟨z1, z2⟩ := HNO.out _ HMEM.out hns
        have HZ := hide (And.intro z1 z2)
        clear e1 hns HAT z1 z2
        go_wp2_with fail
        refine HG.out.mono ?_
        rintro e w8 ⟨rfl, b8⟩
        have HB8 := hide (HB.out.trans (b8.mono HB.out.size))
        clear b8 HG
        go_wp2
        refine bodyPost_ret (results_tmp2 rfl _ _ _) rfl ?_
        rw [HZ.out.1, HZ.out.2]
        exact ⟨_, rfl, oi_nil10 _ _, HB8.out⟩
    · obtain rfl : k = R.length := by omega
      have hlt' : ¬ (R.length : Int) < (R.length : Int) := by omega
      have hall : ∀ t ∈ R, Snd t := fun t ht => HSO.out t (by rw [List.take_of_length_le (Nat.le_refl _)]; exact ht)
      have HALL := hide hall
      obtain ⟨z1, z2⟩ := HYE.out hall
      have HZ := hide (And.intro z1 z2)
      obtain ⟨W0, hW0⟩ : ∃ W0, W0 = wr := ⟨_, rfl⟩
      subst hW0
      have HB0 := HB
      clear HSO hall z1 z2 HNO HYE HB
      by_cases h128 : R.length < 128
      · have q1 : (R.length : Int) < 128 := by omega
        have q2 : ¬ (128 : Int) ≤ (R.length : Int) := by omega
        have HSP : Hid (spi R = [(R.length : Int)]) := by
          show _ = _
          rw [HZ.out.2]
          have e : spK R = 0 := by unfold spK; omega
          unfold spl
          rw [e]
          rfl
        go_wp2
        go_loopw [6, 7, 8] (fun l f a wq => l = .slice none 0 0 ∧ f = .int .i64 0 ∧ a = .int .i64 (R.length : Int) ∧ wq = W0) (fun _ _ _ _ => 0)
        case atStart => exact ⟨rfl, rfl, rfl, by trivial⟩
        case round =>
          obtain ⟨rfl, rfl, rfl, rfl⟩ := hrel
          have hz : wrap64 ((R.length : Int) - 0) = (R.length : Int) := by unfold wrap64; omega
          have HNIL := hide (oi_nil10 wr w.heap.size)
          have HBS := hide HB0.out.size
          go_wp2_with (at_builtin; refine wpList_appI rfl _ _ 25 rfl w.heap.size _ _ [] [(R.length : Int)] rfl (HNIL.out.alloc _) rfl (built_srcI wr [(R.length : Int)]) (by simp) (by rw [size_alloc']; have := HBS.out; omega) ?_)
          intro v3 w3 ho3 hg3
          have HN : Hid (OI w3 w.heap.size v3 [(R.length : Int)] ∧ Below w.heap.size w w3) := ⟨ho3, (HB0.out.alloc HB0.out.size _).grown hg3.by (by rw [size_alloc']; have := HB0.out.size; omega) (fun j hj => by simp [Value.ownBlock] at hj)⟩
          obtain ⟨a3, p3, hu⟩ := ho3.shape
          subst hu
          clear ho3 hg3
          go_wp2
          refine bodyPost_ret (results_tmp2 rfl _ _ _) rfl ?_
          rw [HZ.out.1, HSP.out]
          exact ⟨_, rfl, HN.out.1, HN.out.2⟩
      have q1 : ¬ (R.length : Int) < 128 := by omega
      have q2 : (128 : Int) ≤ (R.length : Int) := by omega
      go_wp2
      go_loopw [6, 7, 8] (fun l f a wq => ∃ k m : Nat, 128 * k < R.length ∧ m = min (128 * (k + 1)) R.length ∧ a = .int .i64 (m : Int) ∧ f = .int .i64 ((spF R k).2 : Int) ∧ Hid (OI wq w.heap.size l ((spF R k).1.map (fun n : Nat => (n : Int)))) ∧ Hid (Below w.heap.size w wq)) (fun _ _ a _ => R.length - (intOf a).toNat)
      case atStart => exact ⟨0, 128, by omega, by omega, rfl, rfl, oi_nil10 _ _, HB0⟩
      case round =>
        obtain ⟨k, m, hk, hm, rfl, rfl, HO, HB⟩ := hrel
        have hSP := spi_all R HALL.out (by omega) k hk
        have hfr := hSP.le
        have hlk := splLen1 R k
        by_cases hmN : m < R.length
        · have hmN' : (m : Int) < (R.length : Int) := by omega
          have hm2 : m = 128 * (k + 1) := by omega
          obtain ⟨b, o, rfl, -⟩ := HS.out.get HB.out (k := 0) (by omega)
          have HFS : Hid (spF R (k + 1) = if clo (seg R (spF R k).2 m) (seg R m (min (m + 128) R.length)) then ((spF R k).1 ++ [m - (spF R k).2], m) else spF R k) := by
            show _ = _
            rw [hm2]
            rfl
          obtain ⟨fr, hf⟩ : ∃ f, (spF R k).2 = f := ⟨_, rfl⟩
          obtain ⟨ll, hll⟩ : ∃ f, (spF R k).1 = f := ⟨_, rfl⟩
          have HP : Hid (spF R k = (ll, fr)) := by show _ = _; rw [← hf, ← hll]
          rw [hf, hll] at HFS
          rw [hll] at HO hlk
          rw [hf] at hfr ⊢
          rw [HP.out] at HFS
          obtain ⟨a3, p3, hu⟩ := HO.out.shape
          rw [List.length_map] at hu
          subst hu
          have hfm : fr ≤ m := by omega
          have hfm' : (fr : Int) ≤ (m : Int) := by omega
          have w1 : wrap64 ((m : Int) - (fr : Int)) = (m : Int) - (fr : Int) := by unfold wrap64; omega
          have w2 : wrap64 ((m : Int) + 128) = (m : Int) + 128 := by unfold wrap64; omega
          have z1 : (0 : Int) ≤ (fr : Int) := by omega
          have z2 : (0 : Int) ≤ (m : Int) := by omega
          have z3 : (m : Int) ≤ (R.length : Int) := by omega
          have z4 : (m : Int) ≤ (cap : Int) := by omega
          have z5 : (R.length : Int) ≤ (cap : Int) := by omega
          have z6 : (m : Int) ≤ (m : Int) + 128 := by omega
          have hcf : ¬ cap = fr := by omega
          have hcm2 : ¬ cap = m := by omega
          have HMX := hide hm2
          clear hf hll hSP hm hm2
          by_cases ht : m + 128 ≤ R.length
          · have t1 : (m : Int) + 128 ≤ (R.length : Int) := by omega
            have t2 : ¬ (R.length : Int) < (m : Int) + 128 := by omega
            have t3 : ((m : Int) + 128).toNat - m = 128 := by omega
            have t4 : (m : Int) + 128 ≤ (cap : Int) := by omega
            have t5 : (0 : Int) ≤ (m : Int) + 128 := by omega
            have HBN : (seg R fr m).length ≤ 16777216 := by unfold seg; simp; omega
            have HUN : (seg R m (m + 128)).length ≤ 16777216 := by unfold seg; simp; omega
            have HCL := hide (fun w' (hb : Below wr.heap.size wr w') => gclosed_any (.slice (some ⟨b, o + fr * 3, none⟩) (m - fr) (cap - fr)) (.slice (some ⟨b, o + m * 3, none⟩) 128 (cap - m)) (seg R fr m) (seg R m (m + 128)) w'
              ((HS.out.below (HB.out.trans (hb.mono HB.out.size))).at fr (m - fr) (cap - fr) (by omega) (by omega) (by unfold maxLen; omega)) (by
                have := (HS.out.below (HB.out.trans (hb.mono HB.out.size))).at m (128) (cap - m) (by omega) (by omega) (by unfold maxLen; omega)
                unfold seg
                rw [show m + 128 - m = 128 by omega]
                exact this) (fun t ht => ⟨HALL.out t (seg_mem ht), HBT.out t (seg_mem ht)⟩) (fun t ht => ⟨HALL.out t (seg_mem ht), HBT.out t (seg_mem ht)⟩) HBN HUN)
            rw [show min (m + 128) R.length = m + 128 by omega] at HFS
            have HNK : Hid (128 * (k + 1) < R.length ∧ m + 128 = min (128 * (k + 1 + 1)) R.length) := by
              show _ ∧ _
              have := HMX.out
              omega
            by_cases hc : clo (seg R fr m) (seg R m (m + 128)) = true
            · rw [if_pos hc] at HFS
              rw [hc] at HCL
              clear hc HBN HUN
              go_wp2_with fail
              go_region_held3 (fun _ => True) (trivial)
                (first | (go_at_call 12; refine (HCL.out _ (below_drewN (Below.refl _ _) 1)).mono ?_; rintro e w5 ⟨rfl, b5⟩))
              all_goals
                have b6 := (below_drewN (Below.refl wr.heap.size wr) 1).trans b5
                have HB6 := hide (HB.out.trans (b6.mono HB.out.size))
                have HO6 := hide (HO.out.below b6 (Nat.le_refl _))
                have HZ6 : Hid (w.heap.size ≤ w5.heap.size) := HB6.out.size
                have HLE : Hid ((ll.map (fun n : Nat => (n : Int))).length + [(m : Int) - (fr : Int)].length ≤ 17592186044416) := by show _ ≤ _; simp; omega
                have HO7 : Hid (OI w5 w.heap.size (.slice a3 (ll.map (fun n : Nat => (n : Int))).length p3) (ll.map (fun n : Nat => (n : Int)))) := by rw [List.length_map]; exact HO6.out
                have elen : ll.length = (ll.map (fun n : Nat => (n : Int))).length := by rw [List.length_map]
                rw [elen]
                clear b5 b6 HCL elen
                go_wp2_with (at_builtin; refine wpList_appI rfl _ _ 25 rfl w.heap.size _ _ (ll.map (fun n : Nat => (n : Int))) [(m : Int) - (fr : Int)] rfl (HO7.out.alloc _) rfl (built_srcI w5 [(m : Int) - (fr : Int)]) HLE.out (by rw [size_alloc']; have := HZ6.out; omega) ?_)
                intro v3 w3 ho3 hg3
                have eone : [(m : Int) - (fr : Int)] = [m - fr].map (fun n : Nat => (n : Int)) := by
                  simp only [List.map_cons, List.map_nil]
                  congr 1
                  omega
                have ho4 : OI w3 w.heap.size v3 ((spF R (k + 1)).1.map (fun n : Nat => (n : Int))) := by
                  rw [HFS.out, List.map_append, ← eone]
                  exact ho3
                have bb4 : Below w.heap.size w w3 := (HB6.out.alloc HB6.out.size _).grown hg3.by (by rw [size_alloc']; have := HB6.out.size; omega) (fun j hj => by have := HO6.out.lt j hj; omega)
                have HN := hide (And.intro ho4 bb4)
                clear eone ho4 bb4
                clear ho3 hg3
                go_wp2
                go_roundw
                case rel => exact ⟨k + 1, m + 128, HNK.out.1, HNK.out.2, by go_num, by rw [HFS.out], HN.out.1, HN.out.2⟩
                case measure => simp [intOf]; omega
            · rw [if_neg hc] at HFS
              have hc' : clo (seg R fr m) (seg R m (m + 128)) = false := by simpa using hc
              rw [hc'] at HCL
              clear hc hc' HBN HUN
              go_wp2_with fail
              go_region_held3 (fun _ => True) (trivial)
                (first | (go_at_call 12; refine (HCL.out _ (below_drewN (Below.refl _ _) 1)).mono ?_; rintro e w5 ⟨rfl, b5⟩))
              all_goals
                have b6 := (below_drewN (Below.refl wr.heap.size wr) 1).trans b5
                have HB6 := hide (HB.out.trans (b6.mono HB.out.size))
                have HO6 : Hid (OI w5 w.heap.size (.slice a3 ll.length p3) ((spF R (k + 1)).1.map (fun n : Nat => (n : Int)))) := by rw [HFS.out]; exact HO.out.below b6 (Nat.le_refl _)
                clear b5 b6 HCL
                go_wp2
                go_roundw
                case rel => exact ⟨k + 1, m + 128, HNK.out.1, HNK.out.2, by go_num, by rw [HFS.out], HO6.out, HB6.out⟩
                case measure => simp [intOf]; omega
          · have t1 : ¬ (m : Int) + 128 ≤ (R.length : Int) := by omega
            have t2 : (R.length : Int) < (m : Int) + 128 := by omega
            have HBN : (seg R fr m).length ≤ 16777216 := by unfold seg; simp; omega
            have HUN : (seg R m (R.length)).length ≤ 16777216 := by unfold seg; simp; omega
            have HCL := hide (fun w' (hb : Below wr.heap.size wr w') => gclosed_any (.slice (some ⟨b, o + fr * 3, none⟩) (m - fr) (cap - fr)) (.slice (some ⟨b, o + m * 3, none⟩) (R.length - m) (cap - m)) (seg R fr m) (seg R m (R.length)) w'
              ((HS.out.below (HB.out.trans (hb.mono HB.out.size))).at fr (m - fr) (cap - fr) (by omega) (by omega) (by unfold maxLen; omega)) (by
                have := (HS.out.below (HB.out.trans (hb.mono HB.out.size))).at m ((R.length - m)) (cap - m) (by omega) (by omega) (by unfold maxLen; omega)
                unfold seg
                rw [show R.length - m = (R.length - m) by omega]
                exact this) (fun t ht => ⟨HALL.out t (seg_mem ht), HBT.out t (seg_mem ht)⟩) (fun t ht => ⟨HALL.out t (seg_mem ht), HBT.out t (seg_mem ht)⟩) HBN HUN)
            rw [show min (m + 128) R.length = R.length by omega] at HFS
            have HNK : Hid (128 * (k + 1) < R.length ∧ R.length = min (128 * (k + 1 + 1)) R.length) := by
              show _ ∧ _
              have := HMX.out
              omega
            by_cases hc : clo (seg R fr m) (seg R m (R.length)) = true
            · rw [if_pos hc] at HFS
              rw [hc] at HCL
              clear hc HBN HUN
              go_wp2_with fail
              go_region_held3 (fun _ => True) (trivial)
                (first | (go_at_call 12; refine (HCL.out _ (below_drewN (Below.refl _ _) 1)).mono ?_; rintro e w5 ⟨rfl, b5⟩))
              all_goals
                have b6 := (below_drewN (Below.refl wr.heap.size wr) 1).trans b5
                have HB6 := hide (HB.out.trans (b6.mono HB.out.size))
                have HO6 := hide (HO.out.below b6 (Nat.le_refl _))
                have HZ6 : Hid (w.heap.size ≤ w5.heap.size) := HB6.out.size
                have HLE : Hid ((ll.map (fun n : Nat => (n : Int))).length + [(m : Int) - (fr : Int)].length ≤ 17592186044416) := by show _ ≤ _; simp; omega
                have HO7 : Hid (OI w5 w.heap.size (.slice a3 (ll.map (fun n : Nat => (n : Int))).length p3) (ll.map (fun n : Nat => (n : Int)))) := by rw [List.length_map]; exact HO6.out
                have elen : ll.length = (ll.map (fun n : Nat => (n : Int))).length := by rw [List.length_map]
                rw [elen]
                clear b5 b6 HCL elen
                go_wp2_with (at_builtin; refine wpList_appI rfl _ _ 25 rfl w.heap.size _ _ (ll.map (fun n : Nat => (n : Int))) [(m : Int) - (fr : Int)] rfl (HO7.out.alloc _) rfl (built_srcI w5 [(m : Int) - (fr : Int)]) HLE.out (by rw [size_alloc']; have := HZ6.out; omega) ?_)
                intro v3 w3 ho3 hg3
                have eone : [(m : Int) - (fr : Int)] = [m - fr].map (fun n : Nat => (n : Int)) := by
                  simp only [List.map_cons, List.map_nil]
                  congr 1
                  omega
                have ho4 : OI w3 w.heap.size v3 ((spF R (k + 1)).1.map (fun n : Nat => (n : Int))) := by
                  rw [HFS.out, List.map_append, ← eone]
                  exact ho3
                have bb4 : Below w.heap.size w w3 := (HB6.out.alloc HB6.out.size _).grown hg3.by (by rw [size_alloc']; have := HB6.out.size; omega) (fun j hj => by have := HO6.out.lt j hj; omega)
                have HN := hide (And.intro ho4 bb4)
                clear eone ho4 bb4
                clear ho3 hg3
                go_wp2
                go_roundw
                case rel => exact ⟨k + 1, R.length, HNK.out.1, HNK.out.2, by go_num, by rw [HFS.out], HN.out.1, HN.out.2⟩
                case measure => simp [intOf]; omega
            · rw [if_neg hc] at HFS
              have hc' : clo (seg R fr m) (seg R m (R.length)) = false := by simpa using hc
              rw [hc'] at HCL
              clear hc hc' HBN HUN
              go_wp2_with fail
              go_region_held3 (fun _ => True) (trivial)
                (first | (go_at_call 12; refine (HCL.out _ (below_drewN (Below.refl _ _) 1)).mono ?_; rintro e w5 ⟨rfl, b5⟩))
              all_goals
                have b6 := (below_drewN (Below.refl wr.heap.size wr) 1).trans b5
                have HB6 := hide (HB.out.trans (b6.mono HB.out.size))
                have HO6 : Hid (OI w5 w.heap.size (.slice a3 ll.length p3) ((spF R (k + 1)).1.map (fun n : Nat => (n : Int)))) := by rw [HFS.out]; exact HO.out.below b6 (Nat.le_refl _)
                clear b5 b6 HCL
                go_wp2
                go_roundw
                case rel => exact ⟨k + 1, R.length, HNK.out.1, HNK.out.2, by go_num, by rw [HFS.out], HO6.out, HB6.out⟩
                case measure => simp [intOf]; omega
        · have hmE : m = R.length := by omega
          have hmN' : ¬ (R.length : Int) < (R.length : Int) := by omega
          have HKK : Hid (spK R = k) := by show _ = _; unfold spK; omega
          subst hmE
          obtain ⟨fr, hf⟩ : ∃ f, (spF R k).2 = f := ⟨_, rfl⟩
          have HSPI : Hid (spi R = (spF R k).1.map (fun n : Nat => (n : Int)) ++ [(R.length : Int) - (fr : Int)]) := by
            show _ = _
            rw [HZ.out.2]
            unfold spl
            rw [HKK.out, List.map_append, hf]
            congr 1
            simp
            omega
          obtain ⟨ll, hll⟩ : ∃ f, (spF R k).1 = f := ⟨_, rfl⟩
          rw [hll] at HO HSPI hlk
          rw [hf] at hfr ⊢
          have w1 : wrap64 ((R.length : Int) - (fr : Int)) = (R.length : Int) - (fr : Int) := by unfold wrap64; omega
          have HZ6 : Hid (w.heap.size ≤ wr.heap.size) := HB.out.size
          have HLE : Hid ((ll.map (fun n : Nat => (n : Int))).length + [(R.length : Int) - (fr : Int)].length ≤ 17592186044416) := by show _ ≤ _; simp; omega
          obtain ⟨a3, p3, hu⟩ := HO.out.shape
          subst hu
          clear hf hll hSP hm
          go_wp2_with (at_builtin; refine wpList_appI rfl _ _ 25 rfl w.heap.size _ _ (ll.map (fun n : Nat => (n : Int))) [(R.length : Int) - (fr : Int)] rfl (HO.out.alloc _) rfl (built_srcI wr [(R.length : Int) - (fr : Int)]) HLE.out (by rw [size_alloc']; have := HZ6.out; omega) ?_)
          intro v3 w3 ho3 hg3
          have HN : Hid (OI w3 w.heap.size v3 (ll.map (fun n : Nat => (n : Int)) ++ [(R.length : Int) - (fr : Int)]) ∧ Below w.heap.size w w3) := ⟨ho3, (HB.out.alloc HB.out.size _).grown hg3.by (by rw [size_alloc']; have := HB.out.size; omega) (fun j hj => by have := HO.out.lt j (by rw [List.length_map]; exact hj); omega)⟩
          obtain ⟨a4, p4, hu⟩ := ho3.shape
          subst hu
          clear ho3 hg3
          go_wp2
          refine bodyPost_ret (results_tmp2 rfl _ _ _) rfl ?_
          rw [HZ.out.1, HSPI.out]
          exact ⟨_, rfl, HN.out.1, HN.out.2⟩
end Go.Proofs.YtdpfjfkknimlfaaDoor

