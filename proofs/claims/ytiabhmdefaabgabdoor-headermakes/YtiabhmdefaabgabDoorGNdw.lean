import Derived.Test.YtiabhmdefaabgabDoorGNde
namespace Go.Proofs.YtiabhmdefaabgabDoor
open Go.RowKit Go.Maps
set_option maxRecDepth 20000
set_option linter.unusedVariables false

theorem xused_any6 (v : Value) (l : List Int) (w : World) (h : SI w v l) (hr : l.length ≤ 288) :
    Calls Tryd.prog 105 #[v] w fun e w' => ∃ a c, e = .returned (.slice a (us6 l).length c) ∧ OI w' w.heap.size (.slice a (us6 l).length c) (ci (us6 l)) ∧ Below w.heap.size w w' := by
  have HS := hide h
  obtain ⟨ao, cap, rfl, hlc, hcm⟩ := h.open
  clear h
  go_enter Tryd.func105, Tryd.ntmps105
  go_wp2
  go_loopw [3, 4] (fun u i wr => ∃ k : Nat, k ≤ l.length ∧ i = .int .i64 k ∧ Hid (OI wr w.heap.size u (ci (usk l k))) ∧ Hid (Below w.heap.size w wr)) (fun _ i _ => l.length - (intOf i).toNat)
  case atStart => exact ⟨0, Nat.zero_le _, rfl, hide (show OI _ _ _ [] from World.ownsRow_nil _ _ _ _), Below.refl _ _⟩
  case round =>
    obtain ⟨k, hk, rfl, HO, HB⟩ := hrel
    by_cases hlt : k < l.length
    · have hlt' : (k : Int) < (l.length : Int) := by omega
      obtain ⟨b, o, rfl, hc⟩ := HS.out.get HB.out hlt
      have HD : Hid (ci (usk l (k + 1)) = ci (usk l k) ++ if 0 < l.getD k 0 then [(k : Int)] else []) := by
        show _ = _
        rw [usk_succ]
        unfold ci
        rw [List.map_append]
        by_cases q : 0 < l.getD k 0
        · rw [if_pos q, if_pos q]; rfl
        · rw [if_neg q, if_neg q]; rfl
      have hDl0 := usk_len l k
      obtain ⟨y, HY⟩ : ∃ y, Hid (y = l.getD k 0) := ⟨_, rfl⟩
      rw [← HY.out] at hc HD
      obtain ⟨D, HDD⟩ : ∃ D, Hid (D = ci (usk l k)) := ⟨_, rfl⟩
      have hDl : D.length ≤ k := by rw [HDD.out, ci_len]; exact hDl0
      rw [← HDD.out] at HO HD
      clear hDl0
      have hBw := HB.out.size
      obtain ⟨a1, p1, hu⟩ := HO.out.shape
      subst hu
      by_cases hy : 0 < y
      · have HE : Hid (ci (usk l (k + 1)) = D ++ [(k : Int)]) := by show _ = _; rw [HD.out, if_pos hy]
        have HALC : Hid (OI (wr.alloc (.cells #[.int .i64 (k : Int)] 3)) w.heap.size (.slice a1 D.length p1) D) := HO.out.alloc _
        have HSR : Hid (Src Tryd.prog 1 22 (.slice (some ⟨wr.heap.size, 0, none⟩) 1 1) ([(k : Int)] : List Int).length (([(k : Int)] : List Int).map (Value.int .i64)) (wr.alloc (.cells #[.int .i64 (k : Int)] 3))) := built_srcI wr [(k : Int)]
        go_wp2_with (at_builtin; refine wpList_appI rfl _ _ 22 rfl w.heap.size _ _ D [(k : Int)] rfl HALC.out rfl HSR.out (by simp; omega) (by simp; omega) ?_)
        intro v3 w3 ho3 hgr3
        have HN : Hid (OI w3 w.heap.size v3 (ci (usk l (k + 1))) ∧ Below w.heap.size w w3) := ⟨by rw [HE.out]; exact ho3, grow_one HB.out HO.out hgr3⟩
        clear ho3 hgr3
        go_wp2
        go_roundw
        case rel => exact ⟨k + 1, by omega, by go_num, HN.out.1, HN.out.2⟩
        case measure => simp [intOf]; omega
      · have HE : Hid (OI wr w.heap.size (.slice a1 D.length p1) (ci (usk l (k + 1)))) := by show OI _ _ _ _; rw [HD.out, if_neg hy, List.append_nil]; exact HO.out
        go_wp2
        go_roundw
        case rel => exact ⟨k + 1, by omega, by go_num, HE, HB⟩
        case measure => simp [intOf]; omega
    · obtain rfl : k = l.length := by omega
      have hlt' : ¬ (l.length : Int) < (l.length : Int) := by omega
      have HF : Hid (OI wr w.heap.size u3 (ci (us6 l))) := HO.out
      clear HO
      obtain ⟨a1, p1, hu⟩ := HF.out.shape
      rw [ci_len] at hu
      subst hu
      go_wp2
      go_ret
      exact ⟨_, _, rfl, HF.out, HB.out⟩


theorem zeros_any (n : Nat) (w : World) (hn : n ≤ 288) :
    Calls Tryd.prog 80 #[.int .i64 n] w fun e w' => ∃ a c, e = .returned (.slice a n c) ∧ OI w' w.heap.size (.slice a n c) (List.replicate n 0) ∧ Below w.heap.size w w' := by
  go_enter Tryd.func80, Tryd.ntmps80
  go_wp2
  go_loopw [3, 4] (fun u i wr => ∃ k : Nat, k ≤ n ∧ i = .int .i64 k ∧ Hid (OI wr w.heap.size u (List.replicate k 0)) ∧ Hid (Below w.heap.size w wr)) (fun _ i _ => n - (intOf i).toNat)
  case atStart => exact ⟨0, Nat.zero_le _, rfl, World.ownsRow_nil _ _ _ _, Below.refl _ _⟩
  case round =>
    obtain ⟨k, hk, rfl, HO, HB⟩ := hrel
    by_cases hlt : k < n
    · have hlt' : (k : Int) < (n : Int) := by omega
      have HD : Hid (List.replicate (k + 1) (0 : Int) = List.replicate k 0 ++ [0]) := List.replicate_succ'
      obtain ⟨D, HDD⟩ : ∃ D : List Int, Hid (D = List.replicate k 0) := ⟨_, hide rfl⟩
      have hDl : D.length ≤ k := by rw [HDD.out, List.length_replicate]; exact Nat.le_refl _
      rw [← HDD.out] at HO HD
      have hBw := HB.out.size
      obtain ⟨a1, p1, hu⟩ := HO.out.shape
      subst hu
      have HALC : Hid (OI (wr.alloc (.cells #[.int .i64 0] 3)) w.heap.size (.slice a1 D.length p1) D) := HO.out.alloc _
      have HSR : Hid (Src Tryd.prog 1 22 (.slice (some ⟨wr.heap.size, 0, none⟩) 1 1) ([0] : List Int).length (([0] : List Int).map (Value.int .i64)) (wr.alloc (.cells #[.int .i64 0] 3))) := built_srcI wr [0]
      go_wp2_with (at_builtin; refine wpList_appI rfl _ _ 22 rfl w.heap.size _ _ D [0] rfl HALC.out rfl HSR.out (by simp; omega) (by simp; omega) ?_)
      intro v3 w3 ho3 hgr3
      have HN : Hid (OI w3 w.heap.size v3 (List.replicate (k + 1) 0) ∧ Below w.heap.size w w3) := ⟨by rw [HD.out]; exact ho3, grow_one HB.out HO.out hgr3⟩
      clear ho3 hgr3
      go_wp2
      go_roundw
      case rel => exact ⟨k + 1, by omega, by go_num, HN.out.1, HN.out.2⟩
      case measure => simp [intOf]; omega
    · obtain rfl : k = n := by omega
      have hlt' : ¬ (k : Int) < (k : Int) := by omega
      obtain ⟨a1, p1, hu⟩ := HO.out.shape
      rw [List.length_replicate] at hu
      subst hu
      go_wp2
      go_ret
      exact ⟨_, _, rfl, HO.out, HB.out⟩

def mro (M : List Mnd) : List Nod := M.map (·.1)

theorem mro_len (M : List Mnd) : (mro M).length = M.length := by simp [mro]
theorem mro_get (M : List Mnd) (i : Nat) : (mro M).getD i nod0 = (M.getD i mn0).1 := by
  simp only [mro, List.getD_eq_getElem?_getD, List.getElem?_map]
  cases M[i]? <;> rfl

theorem era_skip {α : Type} {M : List α} {k i : Nat} (h : k < M.length) (hi : k ≠ i) : (M.take (k + 1)).eraseIdx i = (M.take k).eraseIdx i ++ [M[k]] := by
  rw [List.take_succ_eq_append_getElem h]
  by_cases c : i < k
  · rw [List.eraseIdx_append_of_lt_length (by simp; omega)]
  · rw [List.eraseIdx_of_length_le (by simp; omega), List.eraseIdx_of_length_le (by simp; omega)]

theorem era_at {α : Type} {M : List α} {i : Nat} (h : i < M.length) : (M.take (i + 1)).eraseIdx i = (M.take i).eraseIdx i := by
  rw [List.take_succ_eq_append_getElem h, List.eraseIdx_append_of_length_le (by simp; omega)]
  rw [show i - (M.take i).length = 0 by simp; omega]
  rw [List.eraseIdx_of_length_le (k := i) (l := M.take i) (by simp; omega)]
  simp

end Go.Proofs.YtiabhmdefaabgabDoor

