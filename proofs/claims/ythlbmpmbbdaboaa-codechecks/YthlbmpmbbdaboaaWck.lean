import Derived.Test.YthlbmpmbbdaboaaLst
import Derived.Test.YthlbmpmbbdaboaaXck
namespace Go.Proofs.Ythlbmpmbbdaboaa
open Go.RowKit Go.Maps
set_option maxRecDepth 20000

theorem checks_walk (v : Value) (l : List Int) (w : World) (h : SI w v l) (hr : l.length ≤ 17592186043904) :
    Calls Try.prog 5 #[v] w fun e w' => e = .returned (.bool true) ∧ Below w.heap.size w w' := by
  have HS := hide h
  obtain ⟨ao, cap, rfl, hlc, hcm⟩ := h.open
  clear h
  go_enter Try.func5, Try.ntmps5
  go_wp2_with fail
  refine (framed_any _ l w HS.out hr).mono ?_
  rintro e w1 ⟨v', rfl, hf, hb1⟩
  obtain ⟨g, c, hv, h1, h2, h3, h4, hsi⟩ := hf.form
  subst hv
  have HF := hide hf
  have HB1 := hide hb1
  have HI := hide hsi
  clear hf hb1 hsi
  go_wp2_with fail
  refine (check_any _ l _ HI.out).mono ?_
  rintro e w2 ⟨rfl, hb2⟩
  have HF2 : Hid (Framed w2 w.heap.size (.slice (some ⟨g, 0, none⟩) (l.length + 3) c) l) := OI.below HF.out hb2 (Nat.le_refl _)
  have HB2 := hide (HB1.out.trans (hb2.mono HB1.out.size))
  have HS2 := hide (HS.out.below HB2.out)
  clear hb2
  go_wp2_with fail
  refine (xcheck_any _ l _ HS2.out).mono ?_
  rintro e w3 ⟨rfl, rfl⟩
  go_wp2_with fail
  refine (num_any _ _).mono ?_
  rintro e w4 ⟨rfl, rfl⟩
  go_wp2_with fail
  refine (whole_any _ _ l _ _ HF2.out HS2.out hr).mono ?_
  rintro e w5 ⟨rfl, n, rfl⟩
  have HB5 := hide (below_drewN HB2.out n)
  go_wp2
  go_ret
  exact ⟨rfl, HB5.out⟩
end Go.Proofs.Ythlbmpmbbdaboaa
