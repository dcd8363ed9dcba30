import Derived.Test.YtjmjjjpanioifaaGFew
import Derived.Test.YtjmjjjpanioifaaGZfe
import Derived.Test.YtjmjjjpanioifaaGRmy
namespace Go.Proofs.Ytjmjjjpanioifaa
open Go.RowKit Go.Maps
set_option maxRecDepth 20000
set_option linter.unusedVariables false
set_option linter.unusedSimpArgs false

theorem Spare.low {w w' : World} {v : Value} {n : Nat} (h : Spare w v n) (hb : Below w.heap.size w w') : Spare w' v n := by
  obtain ⟨g, rfl, hc⟩ := h
  exact ⟨g, rfl, fun j hj => by
    have := hc j hj
    rw [hb.cell (by have := World.block_lt_of_cell? _ _ this; exact this)]
    exact this⟩

theorem Spare.drewN {w : World} {v : Value} {n : Nat} (h : Spare w v n) (k : Nat) : Spare (w.drewN k) v n := h

set_option maxHeartbeats 4000000 in
theorem finds_walk (v : Value) (d : List Int) (w : World) (h : SB w v d) (hB : Byt d) (hd : d.length ≤ 140737488351232) :
    Calls Try.prog 5 #[v] w fun e w' => e = .returned (.bool true) ∧ Below w.heap.size w w' := by
  obtain ⟨ao, cap, rfl, q1, q2, q3⟩ := h.open11
  have HS := hide h
  have HBy := hide hB
  have HDl := hide hd
  clear h q3 hB hd
  go_enter Try.func5, Try.ntmps5
  go_wp2_with fail
  refine (roomy_any _ d w HS.out HDl.out).mono ?_
  rintro e w1 ⟨u, rfl, rfl, ho, hsp, hb⟩
  have HO := hide ho
  have HSp := hide hsp
  have HB1 := hide hb
  clear ho hsp hb
  go_wp2_with fail
  refine (findEnd_any _ d w1 HO.out.sb HBy.out HDl.out).mono ?_
  rintro e w2 ⟨P, E, rfl, hE, hb⟩
  have HE := hide hE
  have HB2 := hide (HB1.out.trans (hb.mono HB1.out.size))
  have HS2 := hide (HO.out.sb.below hb)
  have HSp2 := hide (HSp.out.low hb)
  clear hE hb HO HSp HB1
  go_wp2_with fail
  refine (zfindEnd_any _ d w2 (SB.below HS.out HB2.out) HBy.out HDl.out).mono ?_
  rintro e w3 ⟨P', E', rfl, hE, hb⟩
  obtain ⟨e1, e2⟩ := isEnd_one HE.out hE
  subst e1 e2
  have HB3 := hide (HB2.out.trans (hb.mono HB2.out.size))
  have HS3 := hide (HS2.out.below hb)
  have HSp3 := hide (HSp2.out.low hb)
  have HSM : Hid (Calls Try.prog 20 #[.slice (some ⟨w.heap.size, 0, none⟩) d.length (d.length + 9), .slice ao d.length cap] w3 fun e w' => e = .returned (.bool true) ∧ ∃ n, w' = w3.drewN n) := by
    have := same_any _ _ d d w3 HS3.out (SB.below HS.out HB3.out)
    rw [show eqB d d = true by simp [eqB]] at this
    exact this
  clear hE hb HS2 HSp2 HB2
  go_wp2_with fail
  refine (num_any E _).mono ?_
  rintro e w4 ⟨rfl, rfl⟩
  go_wp2_with fail
  refine HSM.out.mono ?_
  rintro e w5 ⟨rfl, n5, rfl⟩
  go_wp2_with fail
  refine (spared_any _ d.length _ (HSp3.out.drewN n5) HDl.out).mono ?_
  rintro e w6 ⟨rfl, hw6⟩
  subst hw6
  go_wp2
  go_ret
  exact ⟨rfl, below_drewN HB3.out n5⟩
end Go.Proofs.Ytjmjjjpanioifaa

