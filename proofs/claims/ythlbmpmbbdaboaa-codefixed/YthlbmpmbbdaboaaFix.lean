import Derived.Test.YthlbmpmbbdaboaaWdw
namespace Go.Proofs.Ythlbmpmbbdaboaa
open Go.RowKit Go.Maps
set_option maxRecDepth 20000

/-- A literal's fixed length. -/
def fxl (s : Nat) : Int := if s < 144 then 8 else if s < 256 then 9 else if s < 280 then 7 else 8
def fxL (n : Nat) : List Int := (List.range n).map fxl

theorem fxL_len (n : Nat) : (fxL n).length = n := by simp [fxL]

theorem fxL_succ (n : Nat) : fxL (n + 1) = fxL n ++ [fxl n] := by simp [fxL, List.range_succ]

def fxc (n : Nat) : List Int := fxL n ++ List.replicate (288 - n) 0

theorem fxc_len {n : Nat} (h : n ≤ 288) : (fxc n).length = 288 := by unfold fxc; rw [List.length_append, fxL_len, List.length_replicate]; omega

theorem fxc_set {n : Nat} (h : n < 288) : (fxc n).set n (fxl n) = fxc (n + 1) := by
  unfold fxc
  rw [List.set_append_right _ _ (by rw [fxL_len]; omega), fxL_len, Nat.sub_self, fxL_succ]
  obtain ⟨m, hm⟩ : ∃ m, 288 - n = m + 1 := ⟨288 - n - 1, by omega⟩
  rw [hm, show 288 - (n + 1) = m by omega, List.replicate_succ]
  simp

def Fst (w : World) (n : Nat) (wr : World) : Prop := wr.heap[w.heap.size]? = some (.cells ((fxc n).map (Value.int .i64)).toArray 3 (0, 0)) ∧ Below w.heap.size w wr

theorem Fst.step {w wr : World} {n : Nat} (h : Fst w n wr) (hn : n < 288) (x : Int) (hx : x = fxl n) : Fst w (n + 1) (wr.setCell ⟨w.heap.size, n, none⟩ (.int .i64 x)) :=
  ⟨by rw [heap_setCell_same _ _ _ _ _ _ h.1, map_set, hx, fxc_set hn], h.2.setCell (by show _ ≤ w.heap.size; omega) _⟩

def Fresh (w : World) (l : List Int) (e : Ending) (w' : World) : Prop := ∃ a c, e = .returned (.slice a l.length c) ∧ OI w' w.heap.size (.slice a l.length c) l ∧ Below w.heap.size w w'

theorem fixedLit_any (w : World) : Calls Try.prog 9 #[] w fun e w' => Fresh w (fxL 288) e w' := by
  go_enter Try.func9, Try.ntmps9
  go_wp2_with (at_make; refine wpList_mkI rfl _ _ rfl _ _ _ _ 288 288 rfl rfl rfl rfl (Nat.le_refl _) (by omega) ?_)
  intro w2 hg hb1
  have HW : Hid (Fst w 0 w2) := ⟨by rw [hg]; unfold fxc fxL; simp, hb1⟩
  clear hg hb1
  go_wp2
  go_loopw [6] (fun i wr => ∃ n : Nat, n ≤ 288 ∧ i = .int .i64 n ∧ Hid (Fst w n wr)) (fun i _ => 288 - (intOf i).toNat)
  case atStart => exact ⟨0, Nat.zero_le _, rfl, HW⟩
  case round =>
    clear HW
    obtain ⟨n, hn, rfl, HT⟩ := hrel
    by_cases hlt : n < 288
    · have hlt' : (n : Int) < 288 := by omega
      obtain ⟨c0, hc0⟩ : ∃ c0, wr.cell? ⟨w.heap.size, n, none⟩ = some c0 := by
        rw [cell_of_row _ _ _ _ _ _ HT.out.1]
        have : n < (fxc n).length := by rw [fxc_len (by omega)]; exact hlt
        exact ⟨_, by simp [this]; rfl⟩
      have f0 : wr.frozen? ⟨w.heap.size, n, none⟩ = false := frozen_of_row _ _ _ _ _ HT.out.1
      by_cases h1 : n < 144
      · have h1' : (n : Int) < 144 := by omega
        have HX := hide (HT.out.step hlt 8 (by unfold fxl; rw [if_pos h1]))
        clear HT
        go_wp2
        go_roundw
        case rel => exact ⟨n + 1, by omega, by go_num, HX⟩
        case measure => simp [intOf]; omega
      · have h1' : ¬ (n : Int) < 144 := by omega
        by_cases h2 : n < 256
        · have h2' : (n : Int) < 256 := by omega
          have HX := hide (HT.out.step hlt 9 (by unfold fxl; rw [if_neg h1, if_pos h2]))
          clear HT
          go_wp2
          go_roundw
          case rel => exact ⟨n + 1, by omega, by go_num, HX⟩
          case measure => simp [intOf]; omega
        · have h2' : ¬ (n : Int) < 256 := by omega
          by_cases h3 : n < 280
          · have h3' : (n : Int) < 280 := by omega
            have HX := hide (HT.out.step hlt 7 (by unfold fxl; rw [if_neg h1, if_neg h2, if_pos h3]))
            clear HT
            go_wp2
            go_roundw
            case rel => exact ⟨n + 1, by omega, by go_num, HX⟩
            case measure => simp [intOf]; omega
          · have h3' : ¬ (n : Int) < 280 := by omega
            have HX := hide (HT.out.step hlt 8 (by unfold fxl; rw [if_neg h1, if_neg h2, if_neg h3]))
            clear HT
            go_wp2
            go_roundw
            case rel => exact ⟨n + 1, by omega, by go_num, HX⟩
            case measure => simp [intOf]; omega
    · obtain rfl : n = 288 := by omega
      have hlt' : ¬ ((288 : Nat) : Int) < 288 := by omega
      have HE : Hid (OI wr w.heap.size (.slice (some ⟨w.heap.size, 0, none⟩) (fxL 288).length 288) (fxL 288)) := by
        have e := HT.out.1
        rw [show fxc 288 = fxL 288 by unfold fxc; simp] at e
        have := OI.of_full (base := w.heap.size) e (by omega) (by rw [fxL_len]; unfold maxLen; omega)
        rw [fxL_len] at this ⊢
        exact this
      have HB := hide HT.out.2
      clear HT
      go_wp2
      go_ret
      refine ⟨_, _, ?_, HE.out, HB.out⟩
      rw [fxL_len]
      rfl

theorem xfixedLit_any (w : World) : Calls Try.prog 12 #[] w fun e w' => Fresh w (fxL 288) e w' := by
  go_enter Try.func12, Try.ntmps12
  go_wp2
  go_loopw [1, 2] (fun u i wr => ∃ n : Nat, n ≤ 288 ∧ i = .int .i64 n ∧ Hid (OI wr w.heap.size u (fxL n)) ∧ Hid (Below w.heap.size w wr)) (fun _ i _ => 288 - (intOf i).toNat)
  case atStart => exact ⟨0, Nat.zero_le _, rfl, World.ownsRow_nil _ _ _ _, Below.refl _ _⟩
  case round =>
    obtain ⟨n, hn, rfl, HO, HB⟩ := hrel
    have hBw := HB.out.size
    have hLl : (fxL n).length ≤ 288 := by rw [fxL_len]; exact hn
    obtain ⟨a1, p1, hu⟩ := HO.out.shape
    subst hu
    by_cases hlt : n < 288
    · have hlt' : (n : Int) < 288 := by omega
      obtain ⟨L, HL⟩ : ∃ L, Hid (L = fxL n) := ⟨_, rfl⟩
      have HSC : Hid (fxL (n + 1) = L ++ [fxl n]) := by show _ = _; rw [fxL_succ, HL.out]
      rw [← HL.out] at HO hLl ⊢
      have HNX : ∀ (y : Int) (v3 : Value) (w3 : World), y = fxl n → OI w3 w.heap.size v3 (L ++ [y]) → Grew (wr.alloc (.cells #[.int .i64 y] 3)) w3 (.slice a1 L.length p1) v3 → OI w3 w.heap.size v3 (fxL (n + 1)) ∧ Below w.heap.size w w3 := by
        rintro y v3 w3 rfl ho3 hgr3
        exact ⟨by rw [HSC.out]; exact ho3, (HB.out.alloc hBw _).grown hgr3.by (by simp; omega) (fun j hj => by have := HO.out.lt j hj; omega)⟩
      have HNXT := hide HNX
      clear HNX
      have HALC : Hid (∀ y : Int, OI (wr.alloc (.cells #[.int .i64 y] 3)) w.heap.size (.slice a1 L.length p1) L) := fun y => HO.out.alloc _
      have HSR : Hid (∀ y : Int, Src Try.prog 1 22 (.slice (some ⟨wr.heap.size, 0, none⟩) 1 1) ([y] : List Int).length (([y] : List Int).map (Value.int .i64)) (wr.alloc (.cells #[.int .i64 y] 3))) := fun y => built_srcI wr [y]
      by_cases h1 : n < 144
      · have h1' : (n : Int) < 144 := by omega
        have HE : Hid ((8 : Int) = fxl n) := by show _ = _; unfold fxl; rw [if_pos h1]
        go_wp2_with (at_builtin; refine wpList_appI rfl _ _ 22 rfl w.heap.size _ _ L [8] rfl (HALC.out 8) rfl (HSR.out 8) (by simp; omega) (by simp; omega) ?_)
        intro v3 w3 ho3 hgr3
        have HN := hide (HNXT.out 8 v3 w3 HE.out ho3 hgr3)
        clear ho3 hgr3
        go_wp2
        go_roundw
        case rel => exact ⟨n + 1, by omega, by go_num, HN.out.1, HN.out.2⟩
        case measure => simp [intOf]; omega
      · have h1' : ¬ (n : Int) < 144 := by omega
        by_cases h2 : n < 256
        · have h2' : (n : Int) < 256 := by omega
          have HE : Hid ((9 : Int) = fxl n) := by show _ = _; unfold fxl; rw [if_neg h1, if_pos h2]
          go_wp2_with (at_builtin; refine wpList_appI rfl _ _ 22 rfl w.heap.size _ _ L [9] rfl (HALC.out 9) rfl (HSR.out 9) (by simp; omega) (by simp; omega) ?_)
          intro v3 w3 ho3 hgr3
          have HN := hide (HNXT.out 9 v3 w3 HE.out ho3 hgr3)
          clear ho3 hgr3
          go_wp2
          go_roundw
          case rel => exact ⟨n + 1, by omega, by go_num, HN.out.1, HN.out.2⟩
          case measure => simp [intOf]; omega
        · have h2' : ¬ (n : Int) < 256 := by omega
          by_cases h3 : n < 280
          · have h3' : (n : Int) < 280 := by omega
            have HE : Hid ((7 : Int) = fxl n) := by show _ = _; unfold fxl; rw [if_neg h1, if_neg h2, if_pos h3]
            go_wp2_with (at_builtin; refine wpList_appI rfl _ _ 22 rfl w.heap.size _ _ L [7] rfl (HALC.out 7) rfl (HSR.out 7) (by simp; omega) (by simp; omega) ?_)
            intro v3 w3 ho3 hgr3
            have HN := hide (HNXT.out 7 v3 w3 HE.out ho3 hgr3)
            clear ho3 hgr3
            go_wp2
            go_roundw
            case rel => exact ⟨n + 1, by omega, by go_num, HN.out.1, HN.out.2⟩
            case measure => simp [intOf]; omega
          · have h3' : ¬ (n : Int) < 280 := by omega
            have HE : Hid ((8 : Int) = fxl n) := by show _ = _; unfold fxl; rw [if_neg h1, if_neg h2, if_neg h3]
            go_wp2_with (at_builtin; refine wpList_appI rfl _ _ 22 rfl w.heap.size _ _ L [8] rfl (HALC.out 8) rfl (HSR.out 8) (by simp; omega) (by simp; omega) ?_)
            intro v3 w3 ho3 hgr3
            have HN := hide (HNXT.out 8 v3 w3 HE.out ho3 hgr3)
            clear ho3 hgr3
            go_wp2
            go_roundw
            case rel => exact ⟨n + 1, by omega, by go_num, HN.out.1, HN.out.2⟩
            case measure => simp [intOf]; omega
    · obtain rfl : n = 288 := by omega
      have hlt' : ¬ ((288 : Nat) : Int) < 288 := by omega
      go_wp2
      go_ret
      exact ⟨_, _, rfl, HO.out, HB.out⟩

theorem rep_succ (n : Nat) : List.replicate (n + 1) (5 : Int) = List.replicate n 5 ++ [5] := by rw [List.replicate_succ']

theorem xfixedDist_any (w : World) : Calls Try.prog 13 #[] w fun e w' => Fresh w (List.replicate 32 5) e w' := by
  go_enter Try.func13, Try.ntmps13
  go_wp2
  go_loopw [1, 2] (fun u i wr => ∃ n : Nat, n ≤ 32 ∧ i = .int .i64 n ∧ Hid (OI wr w.heap.size u (List.replicate n 5)) ∧ Hid (Below w.heap.size w wr)) (fun _ i _ => 32 - (intOf i).toNat)
  case atStart => exact ⟨0, Nat.zero_le _, rfl, World.ownsRow_nil _ _ _ _, Below.refl _ _⟩
  case round =>
    obtain ⟨n, hn, rfl, HO, HB⟩ := hrel
    have hBw := HB.out.size
    have hLl : (List.replicate n (5 : Int)).length ≤ 32 := by rw [List.length_replicate]; exact hn
    obtain ⟨a1, p1, hu⟩ := HO.out.shape
    subst hu
    by_cases hlt : n < 32
    · have hlt' : (n : Int) < 32 := by omega
      obtain ⟨L, HL⟩ : ∃ L, Hid (L = List.replicate n (5 : Int)) := ⟨_, rfl⟩
      have HSC : Hid (List.replicate (n + 1) (5 : Int) = L ++ [5]) := by show _ = _; rw [rep_succ, HL.out]
      rw [← HL.out] at HO hLl ⊢
      have HALC : Hid (OI (wr.alloc (.cells #[.int .i64 5] 3)) w.heap.size (.slice a1 L.length p1) L) := HO.out.alloc _
      have HSR : Hid (Src Try.prog 1 22 (.slice (some ⟨wr.heap.size, 0, none⟩) 1 1) ([5] : List Int).length (([5] : List Int).map (Value.int .i64)) (wr.alloc (.cells #[.int .i64 5] 3))) := built_srcI wr [5]
      go_wp2_with (at_builtin; refine wpList_appI rfl _ _ 22 rfl w.heap.size _ _ L [5] rfl HALC.out rfl HSR.out (by simp; omega) (by simp; omega) ?_)
      intro v3 w3 ho3 hgr3
      have HN : Hid (OI w3 w.heap.size v3 (List.replicate (n + 1) 5) ∧ Below w.heap.size w w3) := by
        exact ⟨by rw [HSC.out]; exact ho3, (HB.out.alloc hBw _).grown hgr3.by (by simp; omega) (fun j hj => by have := HO.out.lt j hj; omega)⟩
      clear ho3 hgr3
      go_wp2
      go_roundw
      case rel => exact ⟨n + 1, by omega, by go_num, HN.out.1, HN.out.2⟩
      case measure => simp [intOf]; omega
    · obtain rfl : n = 32 := by omega
      have hlt' : ¬ ((32 : Nat) : Int) < 32 := by omega
      go_wp2
      go_ret
      exact ⟨_, _, rfl, HO.out, HB.out⟩
end Go.Proofs.Ythlbmpmbbdaboaa
