import Derived.Test.YtjhgjohnfkgleabLw
namespace Go.Proofs.Ytjhgjohnfkgleab
open Go.RowKit Go.Maps
set_option maxRecDepth 20000

theorem eqB_self (l : List Int) : eqB l l = true := by simp [eqB]

set_option maxHeartbeats 1000000 in
theorem heapOrders_walk (v : Value) (keys : List Int) (w : World) (hs : SI w v keys) (hn : keys.length ≤ 1048576) :
    Calls Try.prog 5 #[v] w fun e w' => e = .returned (.bool true) ∧ Below w.heap.size w w' := by
  have HS := hide hs
  go_enter Try.func5, Try.ntmps5
  go_wp2_with fail
  refine (ints_any v keys w hs (by omega)).mono ?_
  rintro e w1 ⟨v1, rfl, -, o1, b1⟩
  go_wp2_with fail
  refine (order_in v1 keys w1 o1.sb (by omega)).mono ?_
  rintro e w2 ⟨a2, c2, rfl, o2, b2⟩
  go_wp2_with fail
  refine (rorder_any v keys w2 ((HS.out.below b1).below b2) (by omega)).mono ?_
  rintro e w3 ⟨a3, c3, rfl, o3, b3⟩
  have hE := equal_any (.slice a2 keys.length c2) (.slice a3 keys.length c3) (orderOf keys) (orderOf keys) w3 (o2.sb.below b3) o3.sb
  rw [eqB_self] at hE
  go_wp2_with fail
  refine hE.mono ?_
  rintro e w4 ⟨rfl, n4, hw4⟩
  have hF := equal_any v1 v keys keys w4 (by rw [hw4]; exact ((o1.sb.below b2).below b3).drewN n4) (by rw [hw4]; exact (((HS.out.below b1).below b2).below b3).drewN n4)
  rw [eqB_self] at hF
  have HB : Hid (Below w.heap.size w w4) := by
    rw [hw4]
    exact below_drewN ((b1.trans (b2.mono b1.size)).trans (b3.mono (Nat.le_trans b1.size b2.size))) n4
  clear hw4 hE o1 o2 o3 b1 b2 b3 hs
  go_wp2_with fail
  refine hF.mono ?_
  rintro e w5 ⟨rfl, n5, rfl⟩
  go_wp2
  go_ret
  exact ⟨rfl, below_drewN HB.out n5⟩

end Go.Proofs.Ytjhgjohnfkgleab
