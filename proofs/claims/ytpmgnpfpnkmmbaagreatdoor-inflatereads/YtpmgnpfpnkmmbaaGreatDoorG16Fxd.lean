import Derived.Test.YtpmgnpfpnkmmbaaGreatDoorG15Xck
namespace Go.Proofs.YtpmgnpfpnkmmbaaGreatDoor
open Go.RowKit Go.Maps
set_option maxRecDepth 20000

theorem cd122 : cdE [1, 2, 2] = 0 ∧ cdL [1, 2, 2] = [0, 2, 3] := by decide +kernel

theorem cdL_len (l : List Int) : (cdL l).length ≤ 288 := by
  unfold cdL
  by_cases h : cdE l = 0
  · rw [if_pos h, wds_len]
    have hc : chkE l = 0 := by
      unfold cdE at h
      by_cases e : chkE l = 0
      · exact e
      · rw [if_pos e] at h; exact absurd h e
    exact (chkE_zero hc).1.1
  · rw [if_neg h]; simp

theorem built_si4 (w : World) (cs : List Int) (h : cs.length ≤ 1000) : SI (w.alloc (.cells (cs.map (Value.int .i64)).toArray 3)) (.slice (some ⟨w.heap.size, 0, none⟩) cs.length cs.length) cs := by
  refine ⟨_, _, rfl, Nat.le_refl _, by unfold maxLen; omega, (fun h => by cases h), fun x hx i hi => ?_⟩
  cases hx
  rw [Addr.add_lit, cell_of_row _ _ _ _ _ _ (heap_alloc_new w _)]
  simp [hi]

theorem hxcodes {W w : World} {xs : List ((Nat → Nat) × Thing)} (H : Herd W w xs) (v : Value) (l : List Int) (h : SI w v l) :
    Calls Tryz.prog 94 #[v] w fun e w' => ∃ a c K, e = .returned (.tuple #[.slice a (cdL l).length c, .int .i64 (cdE l)]) ∧ Herd W w' (xs ++ [(K, ti (.slice a (cdL l).length c) (cdL l))]) := by
  refine (xcodes_any v l w h).mono ?_
  rintro e w1 ⟨a, c, rfl, ho, hb⟩
  obtain ⟨K, hh⟩ := H.ilist hb ho
  exact ⟨a, c, K, rfl, hh⟩

end Go.Proofs.YtpmgnpfpnkmmbaaGreatDoor

namespace Go.Proofs.YtpmgnpfpnkmmbaaGreatDoor
open Go.RowKit Go.Maps
set_option maxRecDepth 20000

/-- A literal's fixed length. -/
def fxl (s : Nat) : Int := if s < 144 then 8 else if s < 256 then 9 else if s < 280 then 7 else 8
def fxL (n : Nat) : List Int := (List.range n).map fxl

theorem fxL_len (n : Nat) : (fxL n).length = n := by simp [fxL]

theorem fxL_succ (n : Nat) : fxL (n + 1) = fxL n ++ [fxl n] := by simp [fxL, List.range_succ]

def fxc (n : Nat) : List Int := fxL n ++ List.replicate (288 - n) 0

theorem fxc_len {n : Nat} (h : n ≤ 288) : (fxc n).length = 288 := by unfold fxc; rw [List.length_append, fxL_len, List.length_replicate]; omega

theorem fxc_set {n : Nat} (h : n < 288) : (fxc n).set n (fxl n) = fxc (n + 1) := by
  unfold fxc
  rw [List.set_append_right _ _ (by rw [fxL_len]; omega), fxL_len, Nat.sub_self, fxL_succ]
  obtain ⟨m, hm⟩ : ∃ m, 288 - n = m + 1 := ⟨288 - n - 1, by omega⟩
  rw [hm, show 288 - (n + 1) = m by omega, List.replicate_succ]
  simp

def Fst (w : World) (n : Nat) (wr : World) : Prop := wr.heap[w.heap.size]? = some (.cells ((fxc n).map (Value.int .i64)).toArray 3 (0, 0)) ∧ Below w.heap.size w wr

theorem Fst.step {w wr : World} {n : Nat} (h : Fst w n wr) (hn : n < 288) (x : Int) (hx : x = fxl n) : Fst w (n + 1) (wr.setCell ⟨w.heap.size, n, none⟩ (.int .i64 x)) :=
  ⟨by rw [heap_setCell_same _ _ _ _ _ _ h.1, map_set, hx, fxc_set hn], h.2.setCell (by show _ ≤ w.heap.size; omega) _⟩

def Fresh (w : World) (l : List Int) (e : Ending) (w' : World) : Prop := ∃ a c, e = .returned (.slice a l.length c) ∧ OI w' w.heap.size (.slice a l.length c) l ∧ Below w.heap.size w w'

theorem fixedLit_any (w : World) : Calls Tryz.prog 50 #[] w fun e w' => Fresh w (fxL 288) e w' := by
  go_enter Tryz.func50, Tryz.ntmps50
  go_wp2_with (at_make; refine wpList_mkI rfl _ _ rfl _ _ _ _ 288 288 rfl rfl rfl rfl (Nat.le_refl _) (by omega) ?_)
  intro w2 hg hb1
  have HW : Hid (Fst w 0 w2) := ⟨by rw [hg]; unfold fxc fxL; simp, hb1⟩
  clear hg hb1
  go_wp2
  go_loopw [6] (fun i wr => ∃ n : Nat, n ≤ 288 ∧ i = .int .i64 n ∧ Hid (Fst w n wr)) (fun i _ => 288 - (intOf i).toNat)
  case atStart => exact ⟨0, Nat.zero_le _, rfl, HW⟩
  case round =>
    clear HW
    obtain ⟨n, hn, rfl, HT⟩ := hrel
    by_cases hlt : n < 288
    · have hlt' : (n : Int) < 288 := by omega
      obtain ⟨c0, hc0⟩ : ∃ c0, wr.cell? ⟨w.heap.size, n, none⟩ = some c0 := by
        rw [cell_of_row _ _ _ _ _ _ HT.out.1]
        have : n < (fxc n).length := by rw [fxc_len (by omega)]; exact hlt
        exact ⟨_, by simp [this]; rfl⟩
      have f0 : wr.frozen? ⟨w.heap.size, n, none⟩ = false := frozen_of_row _ _ _ _ _ HT.out.1
      by_cases h1 : n < 144
      · have h1' : (n : Int) < 144 := by omega
        have HX := hide (HT.out.step hlt 8 (by unfold fxl; rw [if_pos h1]))
        clear HT
        go_wp2
        go_roundw
        case rel => exact ⟨n + 1, by omega, by go_num, HX⟩
        case measure => simp [intOf]; omega
      · have h1' : ¬ (n : Int) < 144 := by omega
        by_cases h2 : n < 256
        · have h2' : (n : Int) < 256 := by omega
          have HX := hide (HT.out.step hlt 9 (by unfold fxl; rw [if_neg h1, if_pos h2]))
          clear HT
          go_wp2
          go_roundw
          case rel => exact ⟨n + 1, by omega, by go_num, HX⟩
          case measure => simp [intOf]; omega
        · have h2' : ¬ (n : Int) < 256 := by omega
          by_cases h3 : n < 280
          · have h3' : (n : Int) < 280 := by omega
            have HX := hide (HT.out.step hlt 7 (by unfold fxl; rw [if_neg h1, if_neg h2, if_pos h3]))
            clear HT
            go_wp2
            go_roundw
            case rel => exact ⟨n + 1, by omega, by go_num, HX⟩
            case measure => simp [intOf]; omega
          · have h3' : ¬ (n : Int) < 280 := by omega
            have HX := hide (HT.out.step hlt 8 (by unfold fxl; rw [if_neg h1, if_neg h2, if_neg h3]))
            clear HT
            go_wp2
            go_roundw
            case rel => exact ⟨n + 1, by omega, by go_num, HX⟩
            case measure => simp [intOf]; omega
    · obtain rfl : n = 288 := by omega
      have hlt' : ¬ ((288 : Nat) : Int) < 288 := by omega
      have HE : Hid (OI wr w.heap.size (.slice (some ⟨w.heap.size, 0, none⟩) (fxL 288).length 288) (fxL 288)) := by
        have e := HT.out.1
        rw [show fxc 288 = fxL 288 by unfold fxc; simp] at e
        have := OI.of_full (base := w.heap.size) e (by omega) (by rw [fxL_len]; unfold maxLen; omega)
        rw [fxL_len] at this ⊢
        exact this
      have HB := hide HT.out.2
      clear HT
      go_wp2
      go_ret
      refine ⟨_, _, ?_, HE.out, HB.out⟩
      rw [fxL_len]
      rfl

theorem xfixedLit_any (w : World) : Calls Tryz.prog 58 #[] w fun e w' => Fresh w (fxL 288) e w' := by
  go_enter Tryz.func58, Tryz.ntmps58
  go_wp2
  go_loopw [1, 2] (fun u i wr => ∃ n : Nat, n ≤ 288 ∧ i = .int .i64 n ∧ Hid (OI wr w.heap.size u (fxL n)) ∧ Hid (Below w.heap.size w wr)) (fun _ i _ => 288 - (intOf i).toNat)
  case atStart => exact ⟨0, Nat.zero_le _, rfl, World.ownsRow_nil _ _ _ _, Below.refl _ _⟩
  case round =>
    obtain ⟨n, hn, rfl, HO, HB⟩ := hrel
    have hBw := HB.out.size
    have hLl : (fxL n).length ≤ 288 := by rw [fxL_len]; exact hn
    obtain ⟨a1, p1, hu⟩ := HO.out.shape
    subst hu
    by_cases hlt : n < 288
    · have hlt' : (n : Int) < 288 := by omega
      obtain ⟨L, HL⟩ : ∃ L, Hid (L = fxL n) := ⟨_, rfl⟩
      have HSC : Hid (fxL (n + 1) = L ++ [fxl n]) := by show _ = _; rw [fxL_succ, HL.out]
      rw [← HL.out] at HO hLl ⊢
      have HNX : ∀ (y : Int) (v3 : Value) (w3 : World), y = fxl n → OI w3 w.heap.size v3 (L ++ [y]) → Grew (wr.alloc (.cells #[.int .i64 y] 3)) w3 (.slice a1 L.length p1) v3 → OI w3 w.heap.size v3 (fxL (n + 1)) ∧ Below w.heap.size w w3 := by
        rintro y v3 w3 rfl ho3 hgr3
        exact ⟨by rw [HSC.out]; exact ho3, (HB.out.alloc hBw _).grown hgr3.by (by simp; omega) (fun j hj => by have := HO.out.lt j hj; omega)⟩
      have HNXT := hide HNX
      clear HNX
      have HALC : Hid (∀ y : Int, OI (wr.alloc (.cells #[.int .i64 y] 3)) w.heap.size (.slice a1 L.length p1) L) := fun y => HO.out.alloc _
      have HSR : Hid (∀ y : Int, Src Tryz.prog 1 81 (.slice (some ⟨wr.heap.size, 0, none⟩) 1 1) ([y] : List Int).length (([y] : List Int).map (Value.int .i64)) (wr.alloc (.cells #[.int .i64 y] 3))) := fun y => built_srcI wr [y]
      by_cases h1 : n < 144
      · have h1' : (n : Int) < 144 := by omega
        have HE : Hid ((8 : Int) = fxl n) := by show _ = _; unfold fxl; rw [if_pos h1]
        go_wp2_with (at_builtin; refine wpList_appI rfl _ _ 81 rfl w.heap.size _ _ L [8] rfl (HALC.out 8) rfl (HSR.out 8) (by simp; omega) (by simp; omega) ?_)
        intro v3 w3 ho3 hgr3
        have HN := hide (HNXT.out 8 v3 w3 HE.out ho3 hgr3)
        clear ho3 hgr3
        go_wp2
        go_roundw
        case rel => exact ⟨n + 1, by omega, by go_num, HN.out.1, HN.out.2⟩
        case measure => simp [intOf]; omega
      · have h1' : ¬ (n : Int) < 144 := by omega
        by_cases h2 : n < 256
        · have h2' : (n : Int) < 256 := by omega
          have HE : Hid ((9 : Int) = fxl n) := by show _ = _; unfold fxl; rw [if_neg h1, if_pos h2]
          go_wp2_with (at_builtin; refine wpList_appI rfl _ _ 81 rfl w.heap.size _ _ L [9] rfl (HALC.out 9) rfl (HSR.out 9) (by simp; omega) (by simp; omega) ?_)
          intro v3 w3 ho3 hgr3
          have HN := hide (HNXT.out 9 v3 w3 HE.out ho3 hgr3)
          clear ho3 hgr3
          go_wp2
          go_roundw
          case rel => exact ⟨n + 1, by omega, by go_num, HN.out.1, HN.out.2⟩
          case measure => simp [intOf]; omega
        · have h2' : ¬ (n : Int) < 256 := by omega
          by_cases h3 : n < 280
          · have h3' : (n : Int) < 280 := by omega
            have HE : Hid ((7 : Int) = fxl n) := by show _ = _; unfold fxl; rw [if_neg h1, if_neg h2, if_pos h3]
            go_wp2_with (at_builtin; refine wpList_appI rfl _ _ 81 rfl w.heap.size _ _ L [7] rfl (HALC.out 7) rfl (HSR.out 7) (by simp; omega) (by simp; omega) ?_)
            intro v3 w3 ho3 hgr3
            have HN := hide (HNXT.out 7 v3 w3 HE.out ho3 hgr3)
            clear ho3 hgr3
            go_wp2
            go_roundw
            case rel => exact ⟨n + 1, by omega, by go_num, HN.out.1, HN.out.2⟩
            case measure => simp [intOf]; omega
          · have h3' : ¬ (n : Int) < 280 := by omega
            have HE : Hid ((8 : Int) = fxl n) := by show _ = _; unfold fxl; rw [if_neg h1, if_neg h2, if_neg h3]
            go_wp2_with (at_builtin; refine wpList_appI rfl _ _ 81 rfl w.heap.size _ _ L [8] rfl (HALC.out 8) rfl (HSR.out 8) (by simp; omega) (by simp; omega) ?_)
            intro v3 w3 ho3 hgr3
            have HN := hide (HNXT.out 8 v3 w3 HE.out ho3 hgr3)
            clear ho3 hgr3
            go_wp2
            go_roundw
            case rel => exact ⟨n + 1, by omega, by go_num, HN.out.1, HN.out.2⟩
            case measure => simp [intOf]; omega
    · obtain rfl : n = 288 := by omega
      have hlt' : ¬ ((288 : Nat) : Int) < 288 := by omega
      go_wp2
      go_ret
      exact ⟨_, _, rfl, HO.out, HB.out⟩

theorem rep_succ (n : Nat) : List.replicate (n + 1) (5 : Int) = List.replicate n 5 ++ [5] := by rw [List.replicate_succ']

theorem xfixedDist_any (w : World) : Calls Tryz.prog 59 #[] w fun e w' => Fresh w (List.replicate 32 5) e w' := by
  go_enter Tryz.func59, Tryz.ntmps59
  go_wp2
  go_loopw [1, 2] (fun u i wr => ∃ n : Nat, n ≤ 32 ∧ i = .int .i64 n ∧ Hid (OI wr w.heap.size u (List.replicate n 5)) ∧ Hid (Below w.heap.size w wr)) (fun _ i _ => 32 - (intOf i).toNat)
  case atStart => exact ⟨0, Nat.zero_le _, rfl, World.ownsRow_nil _ _ _ _, Below.refl _ _⟩
  case round =>
    obtain ⟨n, hn, rfl, HO, HB⟩ := hrel
    have hBw := HB.out.size
    have hLl : (List.replicate n (5 : Int)).length ≤ 32 := by rw [List.length_replicate]; exact hn
    obtain ⟨a1, p1, hu⟩ := HO.out.shape
    subst hu
    by_cases hlt : n < 32
    · have hlt' : (n : Int) < 32 := by omega
      obtain ⟨L, HL⟩ : ∃ L, Hid (L = List.replicate n (5 : Int)) := ⟨_, rfl⟩
      have HSC : Hid (List.replicate (n + 1) (5 : Int) = L ++ [5]) := by show _ = _; rw [rep_succ, HL.out]
      rw [← HL.out] at HO hLl ⊢
      have HALC : Hid (OI (wr.alloc (.cells #[.int .i64 5] 3)) w.heap.size (.slice a1 L.length p1) L) := HO.out.alloc _
      have HSR : Hid (Src Tryz.prog 1 81 (.slice (some ⟨wr.heap.size, 0, none⟩) 1 1) ([5] : List Int).length (([5] : List Int).map (Value.int .i64)) (wr.alloc (.cells #[.int .i64 5] 3))) := built_srcI wr [5]
      go_wp2_with (at_builtin; refine wpList_appI rfl _ _ 81 rfl w.heap.size _ _ L [5] rfl HALC.out rfl HSR.out (by simp; omega) (by simp; omega) ?_)
      intro v3 w3 ho3 hgr3
      have HN : Hid (OI w3 w.heap.size v3 (List.replicate (n + 1) 5) ∧ Below w.heap.size w w3) := by
        exact ⟨by rw [HSC.out]; exact ho3, (HB.out.alloc hBw _).grown hgr3.by (by simp; omega) (fun j hj => by have := HO.out.lt j hj; omega)⟩
      clear ho3 hgr3
      go_wp2
      go_roundw
      case rel => exact ⟨n + 1, by omega, by go_num, HN.out.1, HN.out.2⟩
      case measure => simp [intOf]; omega
    · obtain rfl : n = 32 := by omega
      have hlt' : ¬ ((32 : Nat) : Int) < 32 := by omega
      go_wp2
      go_ret
      exact ⟨_, _, rfl, HO.out, HB.out⟩
end Go.Proofs.YtpmgnpfpnkmmbaaGreatDoor

namespace Go.Proofs.YtpmgnpfpnkmmbaaGreatDoor
open Go.RowKit Go.Maps
set_option maxRecDepth 20000

theorem mul64_one (w : World) : Calls Tryz.prog 106 #[.int .u64 1, .int .u64 32] w fun e w' => e = .returned (.tuple #[.int .u64 0, .int .u64 32]) ∧ w' = w := by
  go_enter Tryz.func106, Tryz.ntmps106
  go_wp2
  go_ret2
  exact ⟨rfl, rfl⟩

theorem mul_one (w : World) : Calls Tryz.prog 89 #[.int .u64 1, .int .u64 32] w fun e w' => e = .returned (.tuple #[.int .u64 0, .int .u64 32]) ∧ w' = w := by
  go_enter Tryz.func89, Tryz.ntmps89
  go_wp2_with fail
  refine (mul64_one _).mono ?_
  rintro e w1 ⟨rfl, rfl⟩
  go_wp2
  go_ret2
  exact ⟨rfl, rfl⟩

def rpc (n : Nat) : List Value := List.replicate n (Value.int .i64 5) ++ List.replicate (32 - n) (Value.int .i64 0)

theorem rpc_len {n : Nat} (h : n ≤ 32) : (rpc n).length = 32 := by unfold rpc; rw [List.length_append, List.length_replicate, List.length_replicate]; omega

theorem rpc_next {n m : Nat} (h : n + m ≤ 32) : splice (rpc n) n (List.replicate m (Value.int .i64 5)) = rpc (n + m) := by
  unfold rpc splice
  rw [List.take_left' (by simp), List.length_replicate, List.drop_append, List.length_replicate, List.drop_of_length_le (by simp), List.drop_replicate]
  simp only [List.nil_append]
  rw [← List.append_assoc, List.replicate_append_replicate]
  congr 2
  omega

def Rst5 (w : World) (g n : Nat) (wr : World) : Prop := wr.heap[g]? = some (.cells (rpc n).toArray 3 (0, 0)) ∧ Below w.heap.size w wr

set_option maxHeartbeats 4000000 in
theorem repeat_any (w : World) (g0 : Nat) (hg0 : w.heap[g0]? = some (.cells #[.int .i64 5] 3 (0, 0))) :
    Calls Tryz.prog 68 #[.slice (some ⟨g0, 0, none⟩) 1 1, .int .i64 32] w fun e w' => Fresh w (List.replicate 32 5) e w' := by
  have HC := hide hg0
  have hlt0 : g0 < w.heap.size := (Array.getElem?_eq_some_iff.1 hg0).1
  clear hg0
  go_enter Tryz.func68, Tryz.ntmps68
  go_wp2_with fail
  refine (mul_one _).mono ?_
  rintro e w1 ⟨rfl, rfl⟩
  go_wp2_with (at_make; refine wpList_mkI rfl _ _ rfl _ _ _ _ 32 32 rfl rfl rfl rfl (Nat.le_refl _) (by omega) ?_)
  intro w2 hg hb1
  have HG : Hid (w2.heap[w1.heap.size]? = some (.cells (rpc 0).toArray 3 (0, 0))) := by show _ = _; rw [hg]; simp [rpc]
  have HB1 := hide hb1
  have HS0 : Hid (∀ j v, ([Value.int .i64 5] : List Value)[j]? = some v → w2.cell? ((⟨g0, 0, none⟩ : Addr).add j) = some v) := fun j v hj => by
    have hh : w2.heap[g0]? = some (.cells #[.int .i64 5] 3 (0, 0)) := (HB1.out.block g0 hlt0).trans HC.out
    rw [Addr.add_lit, cell_of_row _ _ _ _ _ _ hh]
    simpa using hj
  clear hg hb1
  have C3 : Hid (0 + ([Value.int .i64 5] : List Value).length ≤ (rpc 0).length) := by show _ ≤ _; rw [rpc_len (by omega)]; decide
  have C4 : Hid (∀ v ∈ ([Value.int .i64 5] : List Value), v.oneCell' = true) := by intro u hu; simp at hu; subst hu; rfl
  go_wp2_with (refine wpList_copy_gr rfl _ _ 81 81 rfl 3 Tryz.underlying81 sizeInt _ _ _ _ _ _ rfl rfl w1.heap.size 0 (rpc 0) 3 HG.out [.int .i64 5] rfl (fun _ => ⟨rfl, _, rfl, HS0.out⟩) C3.out C4.out ?_)
  intro w3 h3 hgr
  have HT0 : Hid (Rst5 w1 w1.heap.size 1 w3) := by
    refine ⟨by rw [h3.out]; rw [show ([Value.int .i64 5] : List Value) = List.replicate 1 (Value.int .i64 5) from rfl, rpc_next (by omega)], ?_⟩
    exact HB1.out.grown hgr HB1.out.size (fun k hk => by simp at hk; omega)
  clear h3 hgr HG HS0
  go_wp2
  go_loopw [8] (fun i wr => ∃ n : Nat, 1 ≤ n ∧ n ≤ 32 ∧ i = .int .i64 n ∧ Hid (Rst5 w1 w1.heap.size n wr)) (fun i _ => 32 - (intOf i).toNat)
  case atStart => exact ⟨1, Nat.le_refl _, by omega, rfl, HT0⟩
  case round =>
    clear HT0
    obtain ⟨n, hn1, hn, rfl, HT⟩ := hrel
    by_cases hlt : n < 32
    · have hlt' : (n : Int) < 32 := by omega
      have hnn : ¬ (32 : Int) < n := by omega
      have hn0 : (0 : Int) ≤ n := by omega
      obtain ⟨m, hm⟩ : ∃ m, m = Nat.min n (32 - n) := ⟨_, rfl⟩
      have hm1 : 1 ≤ m ∧ n + m ≤ 32 := by
        rw [hm]
        show 1 ≤ min n (32 - n) ∧ n + min n (32 - n) ≤ 32
        omega
      have HM := hide hm
      have HSRC : Hid (∀ j v, (List.replicate m (Value.int .i64 5))[j]? = some v → wr.cell? ((⟨w1.heap.size, 0, none⟩ : Addr).add j) = some v) := fun j v hj => by
        rw [Addr.add_lit, cell_of_row _ _ _ _ _ _ HT.out.1]
        have hjm : j < m := by
          have := (List.getElem?_eq_some_iff.1 hj).1
          simpa using this
        have hjn : j < n := by have : m ≤ n := by rw [HM.out]; exact Nat.min_le_left _ _
                               omega
        simp [hjm] at hj
        subst hj
        unfold rpc
        rw [Nat.zero_add, List.getElem?_toArray, List.getElem?_append_left (by simpa using hjn)]
        simp [hjn]
      have HNX : Hid (∀ w', Hid (w'.heap[w1.heap.size]? = some (.cells (splice (rpc n) n (List.replicate m (Value.int .i64 5))).toArray 3 (0, 0))) → wr.drew.grownBy w' (some w1.heap.size) → Rst5 w1 w1.heap.size (n + m) w') := fun w' h1 h2 => by
        refine ⟨by rw [h1.out, rpc_next hm1.2], ?_⟩
        have hb : Below w1.heap.size w1 wr.drew := below_drewN HT.out.2 1
        exact hb.grown h2 hb.size (fun k hk => by simp at hk; omega)
      clear hm
      have C1 : Hid ((List.replicate m (Value.int .i64 5)).length = Nat.min n (32 - n)) := by show _ = _; rw [List.length_replicate, HM.out]
      have C5 : Hid (n + (List.replicate m (Value.int .i64 5)).length ≤ (rpc n).length) := by show _ ≤ _; rw [rpc_len hn, List.length_replicate]; exact hm1.2
      have C6 : Hid (∀ v ∈ List.replicate m (Value.int .i64 5), v.oneCell' = true) := by intro u hu; obtain ⟨_, rfl⟩ := List.mem_replicate.1 hu; rfl
      have hne : ¬ (32 : Nat) = n := by omega
      have hw : IntKind.i64.wrap ((n : Int) + (m : Int)) = (n : Int) + m := by rw [IntKind.wrap_i64]; omega
      go_wp2_with fail
      go_region_law (refine step_copy_gr (by rfl) (.tmp 41) (.tmp 44) 81 81 (by rfl) 3 Tryz.underlying81 sizeInt (some ⟨w1.heap.size, n, none⟩) (some ⟨w1.heap.size, 0, none⟩) (32 - n) (32 - n) n 32 (by simp [Act.eval, Act.put]) (by simp [Act.eval, Act.put]) w1.heap.size n (rpc n) 3 HT.out.1 (List.replicate m (Value.int .i64 5)) C1.out (fun _ => ⟨rfl, _, rfl, HSRC.out⟩) C5.out C6.out ?_; intro w4 h4 hgr4; have HX := hide (HNX.out w4 h4 hgr4); clear h4 hgr4)
      clear HT HSRC HNX C1 C5 C6
      go_simp
      go_wp2
      go_roundw
      case rel => exact ⟨n + m, by omega, hm1.2, by go_num, HX⟩
      case measure => simp [intOf]; omega
    · obtain rfl : n = 32 := by omega
      have hlt' : ¬ ((32 : Nat) : Int) < 32 := by omega
      have HE : Hid (OI wr w1.heap.size (.slice (some ⟨w1.heap.size, 0, none⟩) (List.replicate 32 (5 : Int)).length 32) (List.replicate 32 5)) := by
        have e := HT.out.1
        rw [show rpc 32 = (List.replicate 32 (5 : Int)).map (Value.int .i64) by unfold rpc; simp] at e
        have := OI.of_full (base := w1.heap.size) e (by omega) (by rw [List.length_replicate]; unfold maxLen; omega)
        rw [List.length_replicate] at this ⊢
        exact this
      have HB := hide HT.out.2
      clear HT
      go_wp2
      go_ret
      refine ⟨_, _, ?_, HE.out, HB.out⟩
      first | rfl | (rw [List.length_replicate]; rfl)

theorem fixedDist_any (w : World) : Calls Tryz.prog 51 #[] w fun e w' => Fresh w (List.replicate 32 5) e w' := by
  have HG : Hid ((w.alloc (.cells #[.int .i64 5] 3)).heap[w.heap.size]? = some (.cells #[.int .i64 5] 3 (0, 0))) := heap_alloc_new w _
  have HB : Hid (Below w.heap.size w (w.alloc (.cells #[.int .i64 5] 3))) := (Below.refl _ _).alloc (Nat.le_refl _) _
  go_enter Tryz.func51, Tryz.ntmps51
  go_wp2_with fail
  refine (repeat_any _ _ HG.out).mono ?_
  rintro e w1 ⟨a, c, rfl, ho, hb⟩
  have HO := hide (ho.base HB.out.size)
  have HB1 := hide (HB.out.trans (hb.mono HB.out.size))
  clear ho hb
  go_wp2
  go_ret
  exact ⟨_, _, rfl, HO.out, HB1.out⟩
end Go.Proofs.YtpmgnpfpnkmmbaaGreatDoor

namespace Go.Proofs.YtpmgnpfpnkmmbaaGreatDoor
open Go.RowKit Go.Maps
set_option maxRecDepth 20000

theorem hfresh {W w w' : World} {xs : List ((Nat → Nat) × Thing)} (H : Herd W w xs) {l : List Int} {e : Ending} (h : Fresh w l e w') : ∃ a c K, e = .returned (.slice a l.length c) ∧ Herd W w' (xs ++ [(K, ti (.slice a l.length c) l)]) := by
  obtain ⟨a, c, rfl, ho, hb⟩ := h
  obtain ⟨K, hh⟩ := H.ilist hb ho
  exact ⟨a, c, K, rfl, hh⟩

theorem hflit {W w : World} {xs : List ((Nat → Nat) × Thing)} (H : Herd W w xs) {L : List Int} (hL : L = fxL 288) :
    Calls Tryz.prog 50 #[] w fun e w' => ∃ a c K, e = .returned (.slice a L.length c) ∧ Herd W w' (xs ++ [(K, ti (.slice a L.length c) L)]) := by
  subst hL
  exact (fixedLit_any w).mono fun e w' h => hfresh H h

theorem hxflit {W w : World} {xs : List ((Nat → Nat) × Thing)} (H : Herd W w xs) {L : List Int} (hL : L = fxL 288) :
    Calls Tryz.prog 58 #[] w fun e w' => ∃ a c K, e = .returned (.slice a L.length c) ∧ Herd W w' (xs ++ [(K, ti (.slice a L.length c) L)]) := by
  subst hL
  exact (xfixedLit_any w).mono fun e w' h => hfresh H h

theorem hfdist {W w : World} {xs : List ((Nat → Nat) × Thing)} (H : Herd W w xs) {D : List Int} (hD : D = List.replicate 32 5) :
    Calls Tryz.prog 51 #[] w fun e w' => ∃ a c K, e = .returned (.slice a D.length c) ∧ Herd W w' (xs ++ [(K, ti (.slice a D.length c) D)]) := by
  subst hD
  exact (fixedDist_any w).mono fun e w' h => hfresh H h

theorem hxfdist {W w : World} {xs : List ((Nat → Nat) × Thing)} (H : Herd W w xs) {D : List Int} (hD : D = List.replicate 32 5) :
    Calls Tryz.prog 59 #[] w fun e w' => ∃ a c K, e = .returned (.slice a D.length c) ∧ Herd W w' (xs ++ [(K, ti (.slice a D.length c) D)]) := by
  subst hD
  exact (xfixedDist_any w).mono fun e w' h => hfresh H h

end Go.Proofs.YtpmgnpfpnkmmbaaGreatDoor

