import Derived.Test.YtiabhmdefaabgaaDoorGRqr
import Derived.Test.YtiabhmdefaabgaaDoorGRhr
namespace Go.Proofs.YtiabhmdefaabgaaDoor
open Go.RowKit Go.Maps
set_option maxRecDepth 20000
set_option linter.unusedVariables false

set_option maxHeartbeats 8000000 in
theorem headerReads_walk (v : Value) (n : Int) (dat : List Int) (w : World) (s : SB w v dat) (hby : Byt dat) (T : Tab w) (O : Odr w) (X : Xodr w) :
    Calls Tryd.prog 8 #[v, .int .i64 n] w fun e w' => e = .returned (.bool true) ∧ Below w.heap.size w w' := by
  have HS := hide s
  have HBY := hide hby
  have HT := hide T
  have HO := hide O
  have HXO := hide X
  obtain ⟨a1, c1, hv, hc1, hd1, -, -⟩ := s
  subst hv
  unfold maxLen at hd1
  clear hby T O X
  by_cases big : 1048576 < dat.length
  · have big' : (1048576 : Int) < (dat.length : Int) := by omega
    go_enter Tryd.func8, Tryd.ntmps8
    go_wp2
    go_ret
    exact ⟨rfl, Below.refl _ _⟩
  have big' : ¬ (1048576 : Int) < (dat.length : Int) := by omega
  have HNR := hide (hnewR (Herd.nil w) _ dat HS.out HBY.out (by omega))
  go_enter Tryd.func8, Tryd.ntmps8
  go_wp2_with fail
  refine HNR.out.mono ?_
  rintro e w1 ⟨g, K, rfl, h1⟩
  have HX1 := hide h1
  have HNQ := hide (hqnew h1 _ dat (HS.out.below h1.bel) HBY.out (by omega))
  clear h1
  go_wp2_with fail
  refine HNQ.out.mono ?_
  rintro e w2 ⟨gq, Kq, rfl, h2⟩
  obtain ⟨row, HR⟩ : ∃ row, Hid (row = unpack dat) := ⟨_, rfl⟩
  have HBT : Hid (Bit row) := by rw [HR.out]; exact hide (bit_unpack dat)
  rw [← HR.out] at h2
  have HX2 : Hid (Herd w w2 [(K, tr g row 0), (Kq, tq gq row 0)]) := h2
  have HSK := hide (hskip HX2.out 0 rfl n)
  clear h2 HNR HNQ HX1
  obtain ⟨P, HP⟩ : ∃ P, Hid (P = skipP row 0 n) := ⟨_, rfl⟩
  obtain ⟨E1, HE1⟩ : ∃ E1, Hid (E1 = skipE row 0 n) := ⟨_, rfl⟩
  rw [← HP.out, ← HE1.out] at HSK
  go_wp2_with fail
  refine HSK.out.mono ?_
  rintro e w3 ⟨rfl, h3⟩
  have HX3 : Hid (Herd w w3 [(K, tr g row P), (Kq, tq gq row 0)]) := h3
  have HSQ := hide (hqskip HX3.out 1 rfl n)
  rw [← HP.out, ← HE1.out] at HSQ
  clear h3 HSK HX2
  go_wp2_with fail
  refine (num_any E1 w3).mono ?_
  rintro e w9 ⟨rfl, hw9⟩
  rw [hw9]
  clear hw9
  go_wp2_with fail
  refine HSQ.out.mono ?_
  rintro e w4 ⟨rfl, h4⟩
  have HX4 : Hid (Herd w w4 [(K, tr g row P), (Kq, tq gq row P)]) := h4
  have hle : P ≤ row.length := by
    have hr : Rp w4 K g row P := HX4.out.rep 0 _ rfl
    exact hr.le.1
  have HRD := hide (hread HX4.out 0 rfl HT.out HO.out)
  clear h4 HSQ HX3
  obtain ⟨A, HA⟩ : ∃ A, Hid (A = rdA row P) := ⟨_, rfl⟩
  rw [← HA.out] at HRD
  obtain ⟨E, L, D, Q⟩ := A
  simp only at HRD
  go_wp2_with fail
  refine HRD.out.mono ?_
  rintro e w5 ⟨a2, c2, a3, c3, q, K1, K2, rfl, hq, h5⟩
  have HQ := hide hq
  have HX5 : Hid (Herd w w5 [(K, tr g row q), (Kq, tq gq row P), (K1, ti (.slice a2 L.length c2) L), (K2, ti (.slice a3 D.length c3) D)]) := h5
  have HRQ := hide (hxread HX5.out 1 rfl hle HBT.out HXO.out)
  rw [← HA.out] at HRQ
  simp only at HRQ
  clear hq h5 HRD HX4
  go_wp2_with fail
  refine HRQ.out.mono ?_
  rintro e w6 ⟨b2, d2, b3, d3, q', rfl, hq', h6, s1, s2⟩
  have HQ' := hide hq'
  have HX6 : Hid (Herd w w6 [(K, tr g row q), (Kq, tq gq row q'), (K1, ti (.slice a2 L.length c2) L), (K2, ti (.slice a3 D.length c3) D)]) := h6
  have HE1' := hide (isame_any _ _ L L w6 (HX6.out.isi 2 rfl) s1)
  rw [show eqI L L = true by simp [eqI]] at HE1'
  have HS2 := hide s2
  clear hq' h6 s1 s2 HRQ HX5
  go_wp2_with fail
  refine (num_any E w6).mono ?_
  rintro e w9 ⟨rfl, hw9⟩
  rw [hw9]
  clear hw9
  go_wp2_with fail
  refine HE1'.out.mono ?_
  rintro e w7 ⟨rfl, n7, hw7⟩
  have HX7 := hide (HX6.out.drewN n7)
  rw [← hw7] at HX7
  have HS7 : Hid (SI w7 (.slice b3 D.length d3) D) := by rw [hw7]; exact hide (HS2.out.below (below_drewN (Below.refl _ _) n7))
  have HE2' := hide (isame_any _ _ D D w7 (HX7.out.isi 3 rfl) HS7.out)
  rw [show eqI D D = true by simp [eqI]] at HE2'
  clear hw7 HX6
  go_wp2_with fail
  refine HE2'.out.mono ?_
  rintro e w8 ⟨rfl, n8, hw8⟩
  have HX8 := hide (HX7.out.drewN n8)
  rw [← hw8] at HX8
  clear hw8 HX7
  by_cases e0 : E = 0
  · subst e0
    have k1 := HQ.out rfl
    have k2 := HQ'.out rfl
    rw [k1, k2] at HX8
    have HA1 := hide (hat HX8.out 0 rfl)
    clear k1 k2
    go_wp2_with fail
    refine HA1.out.mono ?_
    rintro e w9 ⟨rfl, h9⟩
    have HX9 := hide h9
    have HA2 := hide (hqat HX9.out 1 rfl)
    clear h9
    go_wp2_with fail
    refine HA2.out.mono ?_
    rintro e w10 ⟨rfl, h10⟩
    have HBD := hide h10.bel
    clear h10
    go_wp2
    go_ret
    exact ⟨rfl, HBD.out⟩
  · have e0' : (E != 0) = true := by simpa using e0
    have HBD := hide HX8.out.bel
    go_wp2
    go_ret
    exact ⟨rfl, HBD.out⟩
end Go.Proofs.YtiabhmdefaabgaaDoor

