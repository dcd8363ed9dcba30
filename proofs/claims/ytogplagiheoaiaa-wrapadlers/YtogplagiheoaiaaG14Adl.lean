import Derived.Test.YtogplagiheoaiaaG11Jnw
import Derived.Test.YtogplagiheoaiaaG12Adv
import Derived.Test.YtogplagiheoaiaaG13Lnw
namespace Go.Proofs.Ytogplagiheoaiaa
open Go.RowKit Go.Maps
set_option maxRecDepth 20000
set_option linter.unusedVariables false

theorem num_any (e : Int) (w : World) : Calls Try.prog 12 #[.int .i64 e] w fun x w' => x = .returned (.int .i64 e) ∧ w' = w := by
  go_enter Try.func12, Try.ntmps12
  go_wp2
  go_ret
  exact ⟨rfl, rfl⟩

theorem wrapAdlers_walk (v : Value) (l : List Int) (f s n : Int) (w : World) (h : SB w v l) (hy : Byt l) (hr : l.length ≤ 140737488351232) (hf : 0 ≤ f ∧ f < 4294967296) (hs : 0 ≤ s ∧ s < 4294967296) (ho : -9223372036854775808 ≤ n ∧ n ≤ 9223372036854775807) :
    Calls Try.prog 4 #[v, .int .u32 f, .int .u32 s, .int .i64 n] w fun e w' => e = .returned (.bool true) ∧ Below w.heap.size w w' := by
  have HL := hide (lent_any v l w h hr)
  have HJ := hide (fun w => wJoin_any f s n w hf hs ho)
  have HK := hide (fun w => vJoin_any f s n w hf hs ho)
  have H := hide h
  have HY := hide hy
  obtain ⟨jS, hjS⟩ : ∃ x, jnS f s n = x := ⟨_, rfl⟩
  obtain ⟨jE, hjE⟩ : ∃ x, jnE n = x := ⟨_, rfl⟩
  rw [hjS, hjE] at HJ HK
  obtain ⟨A, hA⟩ : ∃ x, adl l = x := ⟨_, rfl⟩
  have HA := hide hA
  clear h hy hf hs ho hjS hjE hA
  go_enter Try.func4, Try.ntmps4
  go_wp2_with fail
  refine HL.out.mono ?_
  rintro e w1 ⟨u, rfl, hl, hb⟩
  have HLT := hide hl
  have HB := hide hb
  have HWA := hide (wAdler_any u l w1 hl.sb HY.out hr)
  rw [HA.out] at HWA
  clear hl hb HL
  go_wp2_with fail
  refine HWA.out.mono ?_
  rintro e w2 ⟨rfl, hb⟩
  have HB2 := hide hb
  have HVA := hide (vAdler_any v l w2 ((H.out.below HB.out).below hb) HY.out hr)
  rw [HA.out] at HVA
  have HST := hide (still_any u v l w2 0 (HLT.out.below12 hb) ((H.out.below HB.out).below hb) hr)
  have HBB := hide (HB.out.trans (hb.mono HB.out.size))
  clear hb HWA
  go_wp2_with fail
  refine HVA.out.mono ?_
  rintro e w3 ⟨rfl, rfl⟩
  go_wp2_with fail
  refine HST.out.mono ?_
  rintro e w4 ⟨rfl, m, rfl⟩
  have HB4 := hide (below_drewN HBB.out m)
  obtain ⟨w4, hw4⟩ : ∃ w', w3.drewN m = w' := ⟨_, rfl⟩
  rw [hw4] at HB4 ⊢
  clear hw4 HST HVA
  go_wp2_with fail
  refine (HJ.out _).mono ?_
  rintro e w5 ⟨rfl, rfl⟩
  go_wp2_with fail
  refine (HK.out _).mono ?_
  rintro e w6 ⟨rfl, rfl⟩
  go_wp2_with fail
  refine (num_any _ _).mono ?_
  rintro e w7 ⟨rfl, rfl⟩
  go_wp2
  go_ret
  exact ⟨rfl, HB4.out⟩
end Go.Proofs.Ytogplagiheoaiaa

