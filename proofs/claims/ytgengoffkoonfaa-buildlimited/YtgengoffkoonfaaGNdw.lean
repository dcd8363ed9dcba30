import Derived.Test.YtgengoffkoonfaaGNde
namespace Go.Proofs.Ytgengoffkoonfaa
open Go.RowKit Go.Maps
set_option maxRecDepth 20000
set_option linter.unusedVariables false

theorem xused_any (v : Value) (l : List Int) (w : World) (h : SI w v l) (hr : l.length ≤ 288) :
    Calls Try.prog 33 #[v] w fun e w' => ∃ a c, e = .returned (.slice a (us l).length c) ∧ OI w' w.heap.size (.slice a (us l).length c) (ci (us l)) ∧ Below w.heap.size w w' := by
  have HS := hide h
  obtain ⟨ao, cap, rfl, hlc, hcm⟩ := h.open
  clear h
  go_enter Try.func33, Try.ntmps33
  go_wp2
  go_loopw [3, 4] (fun u i wr => ∃ k : Nat, k ≤ l.length ∧ i = .int .i64 k ∧ Hid (OI wr w.heap.size u (ci (usk l k))) ∧ Hid (Below w.heap.size w wr)) (fun _ i _ => l.length - (intOf i).toNat)
  case atStart => exact ⟨0, Nat.zero_le _, rfl, hide (show OI _ _ _ [] from World.ownsRow_nil _ _ _ _), Below.refl _ _⟩
  case round =>
    obtain ⟨k, hk, rfl, HO, HB⟩ := hrel
    by_cases hlt : k < l.length
    · have hlt' : (k : Int) < (l.length : Int) := by omega
      obtain ⟨b, o, rfl, hc⟩ := HS.out.get HB.out hlt
      have HD : Hid (ci (usk l (k + 1)) = ci (usk l k) ++ if 0 < l.getD k 0 then [(k : Int)] else []) := by
        show _ = _
        rw [usk_succ]
        unfold ci
        rw [List.map_append]
        by_cases q : 0 < l.getD k 0
        · rw [if_pos q, if_pos q]; rfl
        · rw [if_neg q, if_neg q]; rfl
      have hDl0 := usk_len l k
      obtain ⟨y, HY⟩ : ∃ y, Hid (y = l.getD k 0) := ⟨_, rfl⟩
      rw [← HY.out] at hc HD
      obtain ⟨D, HDD⟩ : ∃ D, Hid (D = ci (usk l k)) := ⟨_, rfl⟩
      have hDl : D.length ≤ k := by rw [HDD.out, ci_len]; exact hDl0
      rw [← HDD.out] at HO HD
      clear hDl0
      have hBw := HB.out.size
      obtain ⟨a1, p1, hu⟩ := HO.out.shape
      subst hu
      by_cases hy : 0 < y
      · have HE : Hid (ci (usk l (k + 1)) = D ++ [(k : Int)]) := by show _ = _; rw [HD.out, if_pos hy]
        have HALC : Hid (OI (wr.alloc (.cells #[.int .i64 (k : Int)] 3)) w.heap.size (.slice a1 D.length p1) D) := HO.out.alloc _
        have HSR : Hid (Src Try.prog 1 22 (.slice (some ⟨wr.heap.size, 0, none⟩) 1 1) ([(k : Int)] : List Int).length (([(k : Int)] : List Int).map (Value.int .i64)) (wr.alloc (.cells #[.int .i64 (k : Int)] 3))) := built_srcI wr [(k : Int)]
        go_wp2_with (at_builtin; refine wpList_appI rfl _ _ 22 rfl w.heap.size _ _ D [(k : Int)] rfl HALC.out rfl HSR.out (by simp; omega) (by simp; omega) ?_)
        intro v3 w3 ho3 hgr3
        have HN : Hid (OI w3 w.heap.size v3 (ci (usk l (k + 1))) ∧ Below w.heap.size w w3) := ⟨by rw [HE.out]; exact ho3, grow_one HB.out HO.out hgr3⟩
        clear ho3 hgr3
        go_wp2
        go_roundw
        case rel => exact ⟨k + 1, by omega, by go_num, HN.out.1, HN.out.2⟩
        case measure => simp [intOf]; omega
      · have HE : Hid (OI wr w.heap.size (.slice a1 D.length p1) (ci (usk l (k + 1)))) := by show OI _ _ _ _; rw [HD.out, if_neg hy, List.append_nil]; exact HO.out
        go_wp2
        go_roundw
        case rel => exact ⟨k + 1, by omega, by go_num, HE, HB⟩
        case measure => simp [intOf]; omega
    · obtain rfl : k = l.length := by omega
      have hlt' : ¬ (l.length : Int) < (l.length : Int) := by omega
      have HF : Hid (OI wr w.heap.size u3 (ci (us l))) := HO.out
      clear HO
      obtain ⟨a1, p1, hu⟩ := HF.out.shape
      rw [ci_len] at hu
      subst hu
      go_wp2
      go_ret
      exact ⟨_, _, rfl, HF.out, HB.out⟩


theorem zeros_any (n : Nat) (w : World) (hn : n ≤ 288) :
    Calls Try.prog 32 #[.int .i64 n] w fun e w' => ∃ a c, e = .returned (.slice a n c) ∧ OI w' w.heap.size (.slice a n c) (List.replicate n 0) ∧ Below w.heap.size w w' := by
  go_enter Try.func32, Try.ntmps32
  go_wp2
  go_loopw [3, 4] (fun u i wr => ∃ k : Nat, k ≤ n ∧ i = .int .i64 k ∧ Hid (OI wr w.heap.size u (List.replicate k 0)) ∧ Hid (Below w.heap.size w wr)) (fun _ i _ => n - (intOf i).toNat)
  case atStart => exact ⟨0, Nat.zero_le _, rfl, World.ownsRow_nil _ _ _ _, Below.refl _ _⟩
  case round =>
    obtain ⟨k, hk, rfl, HO, HB⟩ := hrel
    by_cases hlt : k < n
    · have hlt' : (k : Int) < (n : Int) := by omega
      have HD : Hid (List.replicate (k + 1) (0 : Int) = List.replicate k 0 ++ [0]) := List.replicate_succ'
      obtain ⟨D, HDD⟩ : ∃ D : List Int, Hid (D = List.replicate k 0) := ⟨_, hide rfl⟩
      have hDl : D.length ≤ k := by rw [HDD.out, List.length_replicate]; exact Nat.le_refl _
      rw [← HDD.out] at HO HD
      have hBw := HB.out.size
      obtain ⟨a1, p1, hu⟩ := HO.out.shape
      subst hu
      have HALC : Hid (OI (wr.alloc (.cells #[.int .i64 0] 3)) w.heap.size (.slice a1 D.length p1) D) := HO.out.alloc _
      have HSR : Hid (Src Try.prog 1 22 (.slice (some ⟨wr.heap.size, 0, none⟩) 1 1) ([0] : List Int).length (([0] : List Int).map (Value.int .i64)) (wr.alloc (.cells #[.int .i64 0] 3))) := built_srcI wr [0]
      go_wp2_with (at_builtin; refine wpList_appI rfl _ _ 22 rfl w.heap.size _ _ D [0] rfl HALC.out rfl HSR.out (by simp; omega) (by simp; omega) ?_)
      intro v3 w3 ho3 hgr3
      have HN : Hid (OI w3 w.heap.size v3 (List.replicate (k + 1) 0) ∧ Below w.heap.size w w3) := ⟨by rw [HD.out]; exact ho3, grow_one HB.out HO.out hgr3⟩
      clear ho3 hgr3
      go_wp2
      go_roundw
      case rel => exact ⟨k + 1, by omega, by go_num, HN.out.1, HN.out.2⟩
      case measure => simp [intOf]; omega
    · obtain rfl : k = n := by omega
      have hlt' : ¬ (k : Int) < (k : Int) := by omega
      obtain ⟨a1, p1, hu⟩ := HO.out.shape
      rw [List.length_replicate] at hu
      subst hu
      go_wp2
      go_ret
      exact ⟨_, _, rfl, HO.out, HB.out⟩

def mro (M : List Mnd) : List Nod := M.map (·.1)

theorem mro_len (M : List Mnd) : (mro M).length = M.length := by simp [mro]
theorem mro_get (M : List Mnd) (i : Nat) : (mro M).getD i nod0 = (M.getD i mn0).1 := by
  simp only [mro, List.getD_eq_getElem?_getD, List.getElem?_map]
  cases M[i]? <;> rfl

theorem lightest_any (v : Value) (M : List Mnd) (w : World) (b0 : Nat) (h : ON w b0 v M) (h1 : 1 ≤ M.length) (h2 : M.length ≤ 1000) :
    Calls Try.prog 34 #[v] w fun e w' => e = .returned (.int .i64 (lgt (mro M))) ∧ ∃ q, w' = w.drewN q := by
  have HO := hide h
  obtain ⟨ar, cr, rfl, hr1, hr2⟩ := h.shape
  clear h
  go_enter Try.func34, Try.ntmps34
  go_wp2
  go_loopw [3, 4] (fun vb vi wr => ∃ k : Nat, 1 ≤ k ∧ k ≤ M.length ∧ vi = .int .i64 k ∧ vb = .int .i64 (lgk (mro M) (k - 1)) ∧ Hid (∃ q, wr = w.drewN q)) (fun _ vi _ => M.length - (intOf vi).toNat)
  case atStart => exact ⟨1, Nat.le_refl _, h1, rfl, rfl, 0, rfl⟩
  case round =>
    obtain ⟨k, hk1, hk, rfl, rfl, HQ⟩ := hrel
    by_cases hlt : k < M.length
    · have hlt' : (k : Int) < (M.length : Int) := by omega
      have hle := lgk_le (mro M) (k - 1)
      have HST : Hid (lgk (mro M) k = if ((M.getD k mn0).1).1 < ((M.getD (lgk (mro M) (k - 1)) mn0).1).1 then k else lgk (mro M) (k - 1)) := by
        show _ = _
        obtain ⟨j, rfl⟩ : ∃ j, k = j + 1 := ⟨k - 1, by omega⟩
        simp only [lgk, Nat.add_sub_cancel, mro_get]
      obtain ⟨bb, hbb⟩ : ∃ bb, bb = lgk (mro M) (k - 1) := ⟨_, rfl⟩
      rw [← hbb] at HST hle ⊢
      obtain ⟨q, hq⟩ := HQ.out
      have hon := HO.out.drewN q
      rw [← hq] at hon
      obtain ⟨g, c, hv, x1, _⟩ := hon.get (i := k) hlt
      obtain ⟨g', c', hv', y1, _⟩ := hon.get (i := bb) (by omega)
      rw [hv] at hv'
      simp only [Value.slice.injEq, Option.some.injEq, Addr.mk.injEq, and_true] at hv hv'
      obtain ⟨rfl, -, rfl⟩ := hv
      obtain ⟨rfl, -⟩ := hv'
      obtain ⟨x, hx⟩ : ∃ x, x = ((M.getD k mn0).1).1 := ⟨_, rfl⟩
      obtain ⟨y, hy⟩ : ∃ x, x = ((M.getD bb mn0).1).1 := ⟨_, rfl⟩
      rw [← hx] at x1 HST
      rw [← hy] at y1 HST
      have hbL : (bb : Int) < (M.length : Int) := by omega
      have HQN : Hid (∀ k, ∃ q, wr.drewN k = w.drewN q) := fun k => by obtain ⟨q, hq⟩ := HQ.out; exact ⟨q + k, by rw [hq, World.drewN_drewN]⟩
      clear hq hon hx hy hbb HQ
      by_cases hxy : x < y
      · have hxy' : (x : Int) < (y : Int) := by omega
        have HS2 : Hid (lgk (mro M) k = k) := by show _ = _; rw [HST.out, if_pos hxy]
        go_wp2
        go_quiet (fail)
        go_wp2
        go_roundw
        case rel => exact ⟨k + 1, by omega, by omega, by go_num, by rw [Nat.add_sub_cancel, HS2.out], HQN.out _⟩
        case measure => simp [intOf]; omega
      · have hxy' : ¬ (x : Int) < (y : Int) := by omega
        have HS2 : Hid (lgk (mro M) k = bb) := by show _ = _; rw [HST.out, if_neg hxy]
        go_wp2
        go_quiet (fail)
        go_wp2
        go_roundw
        case rel => exact ⟨k + 1, by omega, by omega, by go_num, by rw [Nat.add_sub_cancel, HS2.out], HQN.out _⟩
        case measure => simp [intOf]; omega
    · obtain rfl : k = M.length := by omega
      have hlt' : ¬ (M.length : Int) < (M.length : Int) := by omega
      have HE : Hid (lgt (mro M) = lgk (mro M) (M.length - 1)) := by show _ = _; unfold lgt; rw [mro_len]
      go_wp2
      go_ret
      rw [HE.out]
      exact ⟨rfl, HQ.out⟩

theorem era_skip {α : Type} {M : List α} {k i : Nat} (h : k < M.length) (hi : k ≠ i) : (M.take (k + 1)).eraseIdx i = (M.take k).eraseIdx i ++ [M[k]] := by
  rw [List.take_succ_eq_append_getElem h]
  by_cases c : i < k
  · rw [List.eraseIdx_append_of_lt_length (by simp; omega)]
  · rw [List.eraseIdx_of_length_le (by simp; omega), List.eraseIdx_of_length_le (by simp; omega)]

theorem era_at {α : Type} {M : List α} {i : Nat} (h : i < M.length) : (M.take (i + 1)).eraseIdx i = (M.take i).eraseIdx i := by
  rw [List.take_succ_eq_append_getElem h, List.eraseIdx_append_of_length_le (by simp; omega)]
  rw [show i - (M.take i).length = 0 by simp; omega]
  rw [List.eraseIdx_of_length_le (k := i) (l := M.take i) (by simp; omega)]
  simp

set_option maxHeartbeats 1000000 in
theorem without_any (v : Value) (M : List Mnd) (i : Nat) (w : World) (b0 : Nat) (h : ON w b0 v M) (h2 : M.length ≤ 1000) (hi : i ≤ 1000) :
    Calls Try.prog 35 #[v, .int .i64 i] w fun e w' => ∃ v', e = .returned v' ∧ ON w' w.heap.size v' (M.eraseIdx i) ∧ Below w.heap.size w w' := by
  have HO := hide h
  obtain ⟨ar, cr, rfl, hr1, hr2⟩ := h.shape
  clear h
  go_enter Try.func35, Try.ntmps35
  go_wp2
  go_loopw [5, 6] (fun u vk wr => ∃ k : Nat, k ≤ M.length ∧ vk = .int .i64 k ∧ Hid (ON wr w.heap.size u ((M.take k).eraseIdx i)) ∧ Hid (Below w.heap.size w wr)) (fun _ vk _ => M.length - (intOf vk).toNat)
  case atStart => exact ⟨0, Nat.zero_le _, rfl, ⟨by rw [List.take_zero]; exact World.ownsRow_nil _ _ _ _, fun p hp => by simp at hp⟩, Below.refl _ _⟩
  case round =>
    obtain ⟨k, hk, rfl, HN, HB⟩ := hrel
    by_cases hlt : k < M.length
    · have hlt' : (k : Int) < (M.length : Int) := by omega
      by_cases hki : k = i
      · subst hki
        have hne : ((k : Int) != (k : Int)) = false := by simp
        have HN2 : Hid (ON wr w.heap.size u5 ((M.take (k + 1)).eraseIdx k)) := by rw [era_at hlt]; exact HN.out
        go_wp2
        go_roundw
        case rel => exact ⟨k + 1, by omega, by go_num, HN2, HB⟩
        case measure => simp [intOf]; omega
      · have hne : ((k : Int) != (i : Int)) = true := by simp; omega
        have hon := HO.out.below HB.out (Nat.le_refl _)
        obtain ⟨g, c, hv, x1, x2⟩ := hon.get (i := k) hlt
        simp only [Value.slice.injEq] at hv
        obtain ⟨rfl, -, rfl⟩ := hv
        have hho := hon.holds _ (md_mem hlt)
        have HER := hide (era_skip (M := M) (k := k) (i := i) hlt hki)
        rw [show M[k] = M.getD k mn0 by simp [hlt]] at HER
        obtain ⟨p, hp⟩ : ∃ p, p = M.getD k mn0 := ⟨_, rfl⟩
        rw [← hp] at x1 x2 hho HER
        obtain ⟨⟨pw, ph⟩, pv⟩ := p
        obtain ⟨ap, cp, hpv⟩ := hho.shape
        have hpv' : pv = .slice ap (ci ph).length cp := hpv
        subst hpv'
        have x1' : wr.cell? ⟨g, k * 2, none⟩ = some (.int .i64 (pw : Int)) := x1
        have x2' : wr.cell? ⟨g, k * 2 + 1, none⟩ = some (.slice ap (ci ph).length cp) := x2
        obtain ⟨hl, hhl⟩ : ∃ hl, hl = (ci ph).length := ⟨_, rfl⟩
        rw [← hhl] at x2'
        have HHO : Hid (OI wr 0 (.slice ap hl cp) (ci ph)) := by rw [hhl]; exact hho
        rw [← hhl] at HER
        obtain ⟨D, HDD⟩ : ∃ D, Hid (D = (M.take k).eraseIdx i) := ⟨_, rfl⟩
        have hDl : D.length ≤ 1000 := by
          rw [HDD.out]
          have := List.length_eraseIdx_le (M.take k) i
          rw [List.length_take] at this
          omega
        rw [← HDD.out] at HN HER
        obtain ⟨a1, p1, hu, _⟩ := HN.out.shape
        subst hu
        have hBw := HB.out.size
        clear hon hho hp hpv x1 x2 hki hhl
        go_wp2_with (at_builtin; refine wpNode rfl _ _ rfl w.heap.size (.slice a1 D.length p1) D ((pw, ph), .slice ap hl cp) _ rfl HHO.out rfl HN.out _ rfl (by omega) (by omega) ?_)
        intro v3 w3 ho3 hg3
        have HN3 : Hid (ON w3 w.heap.size v3 ((M.take (k + 1)).eraseIdx i)) := by rw [HER.out]; exact ho3
        have HB3 := hide (grow_node HB.out (Nat.le_refl _) HN.out hg3)
        clear ho3 hg3
        go_wp2
        go_roundw
        case rel => exact ⟨k + 1, by omega, by go_num, HN3, HB3⟩
        case measure => simp [intOf]; omega
    · obtain rfl : k = M.length := by omega
      have hlt' : ¬ (M.length : Int) < (M.length : Int) := by omega
      have HF : Hid (ON wr w.heap.size u5 (M.eraseIdx i)) := by have := HN.out; rwa [List.take_of_length_le (Nat.le_refl _)] at this
      obtain ⟨a1, p1, hu, _⟩ := HF.out.shape
      subst hu
      go_wp2
      go_ret
      exact ⟨_, rfl, HF.out, HB.out⟩
end Go.Proofs.Ytgengoffkoonfaa

