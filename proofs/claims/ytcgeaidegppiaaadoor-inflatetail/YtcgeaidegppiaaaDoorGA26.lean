import Derived.Test.YtcgeaidegppiaaaDoorGA25
namespace Go.Proofs.YtcgeaidegppiaaaDoor
open Go.RowKit Go.Maps
set_option maxRecDepth 20000

theorem mul64_one (w : World) : Calls Tryd.prog 66 #[.int .u64 1, .int .u64 32] w fun e w' => e = .returned (.tuple #[.int .u64 0, .int .u64 32]) ∧ w' = w := by
  go_enter Tryd.func66, Tryd.ntmps66
  go_wp2
  go_ret2
  exact ⟨rfl, rfl⟩

theorem mul_one (w : World) : Calls Tryd.prog 59 #[.int .u64 1, .int .u64 32] w fun e w' => e = .returned (.tuple #[.int .u64 0, .int .u64 32]) ∧ w' = w := by
  go_enter Tryd.func59, Tryd.ntmps59
  go_wp2_with fail
  refine (mul64_one _).mono ?_
  rintro e w1 ⟨rfl, rfl⟩
  go_wp2
  go_ret2
  exact ⟨rfl, rfl⟩

def rpc (n : Nat) : List Value := List.replicate n (Value.int .i64 5) ++ List.replicate (32 - n) (Value.int .i64 0)

theorem rpc_len {n : Nat} (h : n ≤ 32) : (rpc n).length = 32 := by unfold rpc; rw [List.length_append, List.length_replicate, List.length_replicate]; omega

theorem rpc_next {n m : Nat} (h : n + m ≤ 32) : splice (rpc n) n (List.replicate m (Value.int .i64 5)) = rpc (n + m) := by
  unfold rpc splice
  rw [List.take_left' (by simp), List.length_replicate, List.drop_append, List.length_replicate, List.drop_of_length_le (by simp), List.drop_replicate]
  simp only [List.nil_append]
  rw [← List.append_assoc, List.replicate_append_replicate]
  congr 2
  omega

def Rst5 (w : World) (g n : Nat) (wr : World) : Prop := wr.heap[g]? = some (.cells (rpc n).toArray 3 (0, 0)) ∧ Below w.heap.size w wr

set_option maxHeartbeats 4000000 in
theorem repeat_any (w : World) (g0 : Nat) (hg0 : w.heap[g0]? = some (.cells #[.int .i64 5] 3 (0, 0))) :
    Calls Tryd.prog 45 #[.slice (some ⟨g0, 0, none⟩) 1 1, .int .i64 32] w fun e w' => Fresh w (List.replicate 32 5) e w' := by
  have HC := hide hg0
  have hlt0 : g0 < w.heap.size := (Array.getElem?_eq_some_iff.1 hg0).1
  clear hg0
  go_enter Tryd.func45, Tryd.ntmps45
  go_wp2_with fail
  refine (mul_one _).mono ?_
  rintro e w1 ⟨rfl, rfl⟩
  go_wp2_with (at_make; refine wpList_mkI rfl _ _ rfl _ _ _ _ 32 32 rfl rfl rfl rfl (Nat.le_refl _) (by omega) ?_)
  intro w2 hg hb1
  have HG : Hid (w2.heap[w1.heap.size]? = some (.cells (rpc 0).toArray 3 (0, 0))) := by show _ = _; rw [hg]; simp [rpc]
  have HB1 := hide hb1
  have HS0 : Hid (∀ j v, ([Value.int .i64 5] : List Value)[j]? = some v → w2.cell? ((⟨g0, 0, none⟩ : Addr).add j) = some v) := fun j v hj => by
    have hh : w2.heap[g0]? = some (.cells #[.int .i64 5] 3 (0, 0)) := (HB1.out.block g0 hlt0).trans HC.out
    rw [Addr.add_lit, cell_of_row _ _ _ _ _ _ hh]
    simpa using hj
  clear hg hb1
  have C3 : Hid (0 + ([Value.int .i64 5] : List Value).length ≤ (rpc 0).length) := by show _ ≤ _; rw [rpc_len (by omega)]; decide
  have C4 : Hid (∀ v ∈ ([Value.int .i64 5] : List Value), v.oneCell' = true) := by intro u hu; simp at hu; subst hu; rfl
  go_wp2_with (refine wpList_copy_gr rfl _ _ 65 65 rfl 3 Tryd.underlying65 sizeInt _ _ _ _ _ _ rfl rfl w1.heap.size 0 (rpc 0) 3 HG.out [.int .i64 5] rfl (fun _ => ⟨rfl, _, rfl, HS0.out⟩) C3.out C4.out ?_)
  intro w3 h3 hgr
  have HT0 : Hid (Rst5 w1 w1.heap.size 1 w3) := by
    refine ⟨by rw [h3.out]; rw [show ([Value.int .i64 5] : List Value) = List.replicate 1 (Value.int .i64 5) from rfl, rpc_next (by omega)], ?_⟩
    exact HB1.out.grown hgr HB1.out.size (fun k hk => by simp at hk; omega)
  clear h3 hgr HG HS0
  go_wp2
  go_loopw [8] (fun i wr => ∃ n : Nat, 1 ≤ n ∧ n ≤ 32 ∧ i = .int .i64 n ∧ Hid (Rst5 w1 w1.heap.size n wr)) (fun i _ => 32 - (intOf i).toNat)
  case atStart => exact ⟨1, Nat.le_refl _, by omega, rfl, HT0⟩
  case round =>
    clear HT0
    obtain ⟨n, hn1, hn, rfl, HT⟩ := hrel
    by_cases hlt : n < 32
    · have hlt' : (n : Int) < 32 := by omega
      have hnn : ¬ (32 : Int) < n := by omega
      have hn0 : (0 : Int) ≤ n := by omega
      obtain ⟨m, hm⟩ : ∃ m, m = Nat.min n (32 - n) := ⟨_, rfl⟩
      have hm1 : 1 ≤ m ∧ n + m ≤ 32 := by
        rw [hm]
        show 1 ≤ min n (32 - n) ∧ n + min n (32 - n) ≤ 32
        omega
      have HM := hide hm
      have HSRC : Hid (∀ j v, (List.replicate m (Value.int .i64 5))[j]? = some v → wr.cell? ((⟨w1.heap.size, 0, none⟩ : Addr).add j) = some v) := fun j v hj => by
        rw [Addr.add_lit, cell_of_row _ _ _ _ _ _ HT.out.1]
        have hjm : j < m := by
          have := (List.getElem?_eq_some_iff.1 hj).1
          simpa using this
        have hjn : j < n := by have : m ≤ n := by rw [HM.out]; exact Nat.min_le_left _ _
                               omega
        simp [hjm] at hj
        subst hj
        unfold rpc
        rw [Nat.zero_add, List.getElem?_toArray, List.getElem?_append_left (by simpa using hjn)]
        simp [hjn]
      have HNX : Hid (∀ w', Hid (w'.heap[w1.heap.size]? = some (.cells (splice (rpc n) n (List.replicate m (Value.int .i64 5))).toArray 3 (0, 0))) → wr.drew.grownBy w' (some w1.heap.size) → Rst5 w1 w1.heap.size (n + m) w') := fun w' h1 h2 => by
        refine ⟨by rw [h1.out, rpc_next hm1.2], ?_⟩
        have hb : Below w1.heap.size w1 wr.drew := below_drewN HT.out.2 1
        exact hb.grown h2 hb.size (fun k hk => by simp at hk; omega)
      clear hm
      have C1 : Hid ((List.replicate m (Value.int .i64 5)).length = Nat.min n (32 - n)) := by show _ = _; rw [List.length_replicate, HM.out]
      have C5 : Hid (n + (List.replicate m (Value.int .i64 5)).length ≤ (rpc n).length) := by show _ ≤ _; rw [rpc_len hn, List.length_replicate]; exact hm1.2
      have C6 : Hid (∀ v ∈ List.replicate m (Value.int .i64 5), v.oneCell' = true) := by intro u hu; obtain ⟨_, rfl⟩ := List.mem_replicate.1 hu; rfl
      have hne : ¬ (32 : Nat) = n := by omega
      have hw : IntKind.i64.wrap ((n : Int) + (m : Int)) = (n : Int) + m := by rw [IntKind.wrap_i64]; omega
      go_wp2_with fail
      go_region_law (refine step_copy_gr (by rfl) (.tmp 41) (.tmp 44) 65 65 (by rfl) 3 Tryd.underlying65 sizeInt (some ⟨w1.heap.size, n, none⟩) (some ⟨w1.heap.size, 0, none⟩) (32 - n) (32 - n) n 32 (by simp [Act.eval, Act.put]) (by simp [Act.eval, Act.put]) w1.heap.size n (rpc n) 3 HT.out.1 (List.replicate m (Value.int .i64 5)) C1.out (fun _ => ⟨rfl, _, rfl, HSRC.out⟩) C5.out C6.out ?_; intro w4 h4 hgr4; have HX := hide (HNX.out w4 h4 hgr4); clear h4 hgr4)
      clear HT HSRC HNX C1 C5 C6
      go_simp
      go_wp2
      go_roundw
      case rel => exact ⟨n + m, by omega, hm1.2, by go_num, HX⟩
      case measure => simp [intOf]; omega
    · obtain rfl : n = 32 := by omega
      have hlt' : ¬ ((32 : Nat) : Int) < 32 := by omega
      have HE : Hid (OI wr w1.heap.size (.slice (some ⟨w1.heap.size, 0, none⟩) (List.replicate 32 (5 : Int)).length 32) (List.replicate 32 5)) := by
        have e := HT.out.1
        rw [show rpc 32 = (List.replicate 32 (5 : Int)).map (Value.int .i64) by unfold rpc; simp] at e
        have := OI.of_full (base := w1.heap.size) e (by omega) (by rw [List.length_replicate]; unfold maxLen; omega)
        rw [List.length_replicate] at this ⊢
        exact this
      have HB := hide HT.out.2
      clear HT
      go_wp2
      go_ret
      refine ⟨_, _, ?_, HE.out, HB.out⟩
      first | rfl | (rw [List.length_replicate]; rfl)

theorem fixedDist_any (w : World) : Calls Tryd.prog 36 #[] w fun e w' => Fresh w (List.replicate 32 5) e w' := by
  have HG : Hid ((w.alloc (.cells #[.int .i64 5] 3)).heap[w.heap.size]? = some (.cells #[.int .i64 5] 3 (0, 0))) := heap_alloc_new w _
  have HB : Hid (Below w.heap.size w (w.alloc (.cells #[.int .i64 5] 3))) := (Below.refl _ _).alloc (Nat.le_refl _) _
  go_enter Tryd.func36, Tryd.ntmps36
  go_wp2_with fail
  refine (repeat_any _ _ HG.out).mono ?_
  rintro e w1 ⟨a, c, rfl, ho, hb⟩
  have HO := hide (ho.base HB.out.size)
  have HB1 := hide (HB.out.trans (hb.mono HB.out.size))
  clear ho hb
  go_wp2
  go_ret
  exact ⟨_, _, rfl, HO.out, HB1.out⟩
end Go.Proofs.YtcgeaidegppiaaaDoor

namespace Go.Proofs.YtcgeaidegppiaaaDoor
open Go.RowKit Go.Maps
set_option maxRecDepth 20000

theorem hfresh {W w w' : World} {xs : List ((Nat → Nat) × Thing)} (H : Herd W w xs) {l : List Int} {e : Ending} (h : Fresh w l e w') : ∃ a c K, e = .returned (.slice a l.length c) ∧ Herd W w' (xs ++ [(K, ti (.slice a l.length c) l)]) := by
  obtain ⟨a, c, rfl, ho, hb⟩ := h
  obtain ⟨K, hh⟩ := H.ilist hb ho
  exact ⟨a, c, K, rfl, hh⟩

theorem hflit {W w : World} {xs : List ((Nat → Nat) × Thing)} (H : Herd W w xs) {L : List Int} (hL : L = fxL 288) :
    Calls Tryd.prog 35 #[] w fun e w' => ∃ a c K, e = .returned (.slice a L.length c) ∧ Herd W w' (xs ++ [(K, ti (.slice a L.length c) L)]) := by
  subst hL
  exact (fixedLit_any w).mono fun e w' h => hfresh H h

theorem hfdist {W w : World} {xs : List ((Nat → Nat) × Thing)} (H : Herd W w xs) {D : List Int} (hD : D = List.replicate 32 5) :
    Calls Tryd.prog 36 #[] w fun e w' => ∃ a c K, e = .returned (.slice a D.length c) ∧ Herd W w' (xs ++ [(K, ti (.slice a D.length c) D)]) := by
  subst hD
  exact (fixedDist_any w).mono fun e w' h => hfresh H h

end Go.Proofs.YtcgeaidegppiaaaDoor

