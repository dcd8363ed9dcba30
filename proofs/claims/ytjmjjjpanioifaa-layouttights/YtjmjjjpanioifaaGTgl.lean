import Derived.Test.YtjmjjjpanioifaaGEtn
import Derived.Test.YtjmjjjpanioifaaGTgt
import Derived.Test.YtjmjjjpanioifaaGZtg
import Derived.Test.YtjmjjjpanioifaaGEnq
namespace Go.Proofs.Ytjmjjjpanioifaa
open Go.RowKit Go.Maps
set_option maxRecDepth 20000
set_option linter.unusedVariables false
set_option linter.unusedSimpArgs false

set_option maxHeartbeats 8000000 in
theorem tights_walk (v : Value) (es : List Ent) (cm : ByteArray) (w : World) (h : SR 20 w v (es.map Ent.cs)) (ho : ∀ e ∈ es, Ok64 e.frm ∧ Ok64 e.til) (hn : es.length ≤ 733007751829) (hcm : cm.size ≤ 140737488351232) :
    Calls Try.prog 3 #[v, .string cm] w fun e w' => e = .returned (.bool true) ∧ Below w.heap.size w w' := by
  have HL := hide h
  have HOk := hide ho
  have HCm := hide hcm
  obtain ⟨ca, ccap, rfl, c1, c2⟩ := h.open
  have elc : (es.map Ent.cs).length = es.length := List.length_map ..
  obtain ⟨R, hR⟩ : ∃ R, R = es.map Ent.cs := ⟨_, rfl⟩
  have HRE := hide hR
  have HZS : Hid (∀ A ∈ R, A.size = 20) := by rw [hR]; exact csN_sizes es
  have HON : Hid (∀ A ∈ R, A.all (·.oneCell') = true) := by rw [hR]; exact csN_ones es
  have HRL : Hid (R.length = es.length) := by rw [hR]; exact elc
  rw [← hR] at HL c1 ⊢
  obtain ⟨n, hn'⟩ : ∃ n, n = R.length := ⟨_, rfl⟩
  have hn2 : n ≤ 733007751829 := by have := HRL.out; omega
  have HCA := hide (copiedN_any (.slice ca R.length ccap) R w HL.out HZS.out HON.out (by omega))
  rw [← hn'] at HL HCA c1 ⊢
  have HNR := hide hn'
  clear h ho elc hcm hR hn'
  go_enter Try.func3, Try.ntmps3
  go_wp2_with fail
  refine HCA.out.mono ?_
  rintro e w1 ⟨rfl, hg1, hb1⟩
  have HG1 := hide hg1
  have HB1 := hide hb1
  have HW1 : Hid (w.heap.size < w1.heap.size) := (Array.getElem?_eq_some_iff.1 hg1).1
  clear hg1 hb1 HCA
  obtain ⟨w2, hw2⟩ : ∃ y, w1.alloc (.cells #[.int .i64 0, .int .i64 0, .int .i64 0, .int .i64 0, .int .i64 0, .int .u32 0, .int .i64 0, .int .i64 0, .string ⟨#[]⟩, .string ⟨#[]⟩, .int .i64 0, .int .i64 0, .int .i64 0, .int .i64 0, .int .i64 0, .string ⟨#[]⟩, .string ⟨#[]⟩, .int .i64 (-77), .int .i64 0, .int .i64 0] 30) = y := ⟨_, rfl⟩
  have HB2 : Hid (Below w1.heap.size w1 w2) := by rw [← hw2]; exact (Below.refl _ _).alloc (Nat.le_refl _) _
  have HG2 : Hid (w2.heap[w.heap.size]? = some (.cells (flat R).toArray 30 (0, 0))) := by rw [← hw2]; exact (Below.heap_alloc _ _ _ HW1.out).trans HG1.out
  have HN2 : Hid (w2.heap[w1.heap.size]? = some (.cells mk77N 30 (0, 0))) := by rw [← hw2]; exact heap_alloc_new _ _
  go_wp2_with (at_builtin; refine wpList_apN rfl _ _ rfl w.heap.size w1.heap.size R mk77N (by rw [← HNR.out]; rfl) rfl HZS.out HG2.out HN2.out rfl mk77N_one (by have := HNR.out; omega) ?_)
  intro w3 cap X hc1 hc2 hg3 hb3
  rw [← HNR.out] at hc1 ⊢
  have HB3 : Hid (Below w.heap.size w w3) := HB1.out.trans ((HB2.out.trans (hb3.mono HB2.out.size)).mono HB1.out.size)
  have HGV : Hid (SR 20 w3 (.slice (some ⟨w2.heap.size, 0, none⟩) n cap) R) := by
    have := sr_full (cap := cap) HZS.out hg3 (by have := HNR.out; omega) hc2
    rwa [← HNR.out] at this
  have HLA : Hid (w3.rangeAt w2.heap.size (n * 20) mk77N.toList) := by
    have := range_lastN HZS.out hg3
    rwa [← HNR.out] at this
  obtain ⟨G, hG⟩ : ∃ g, g = w2.heap.size := ⟨_, rfl⟩
  rw [← hG] at HGV HLA ⊢
  clear hg3 hb3 hw2 hG HG1 HG2 HN2 HB2
  have hc1' : n ≤ cap := by omega
  have HT1 : Hid (Calls Try.prog 10 #[.slice (some ⟨G, 0, none⟩) n cap, .string cm] w3 fun e w' => e = .returned (.int .i64 (tig es cm)) ∧ Below w3.heap.size w3 w') :=
    tight_any _ es cm w3 (by have := HGV.out; rwa [HRE.out] at this) HOk.out HCm.out
  obtain ⟨T, hT⟩ : ∃ T, T = tig es cm := ⟨_, rfl⟩
  rw [← hT] at HT1
  go_wp2_with fail
  refine HT1.out.mono ?_
  rintro e w4 ⟨rfl, hb⟩
  have HB4 := hide (HB3.out.trans (hb.mono HB3.out.size))
  have HGV4 := hide (HGV.out.low hb)
  have HLA4 := hide (range_low HLA.out hb)
  have HT2 : Hid (Calls Try.prog 11 #[.slice ca n ccap, .string cm] w4 fun e w' => e = .returned (.int .i64 (tig es cm)) ∧ Below w4.heap.size w4 w') :=
    ztight_any _ es cm w4 (by have := HL.out.low HB4.out; rwa [HRE.out] at this) HOk.out HCm.out
  rw [← hT] at HT2
  clear hb HT1 HGV HLA HB3 hT
  go_wp2_with fail
  refine HT2.out.mono ?_
  rintro e w5 ⟨rfl, hb⟩
  have HB5 := hide (HB4.out.trans (hb.mono HB4.out.size))
  have HLA5 := hide (range_low HLA4.out hb)
  have HES : Hid (Calls Try.prog 12 #[.slice (some ⟨G, 0, none⟩) n cap, .slice ca n ccap] w5 fun e w' => e = .returned (.bool true) ∧ Below w5.heap.size w5 w') :=
    entries_same _ _ es w5 (by have := HGV4.out.low hb; rwa [HRE.out] at this) (by have := HL.out.low HB5.out; rwa [HRE.out] at this)
  clear hb HT2 HGV4 HLA4 HB4
  go_wp2_with fail
  refine HES.out.mono ?_
  rintro e w6 ⟨rfl, hb⟩
  have HB6 := hide (HB5.out.trans (hb.mono HB5.out.size))
  have HLA6 := hide (range_low HLA5.out hb)
  clear hb HES HLA5 HB5
  have hjc : (n : Int) < ((n + 1 : Nat) : Int) := by omega
  have heq : ∀ W : World, (Op.equalIn 10000 30 (.agg mk77N) (.agg #[.int .i64 0, .int .i64 0, .int .i64 0, .int .i64 0, .int .i64 0, .int .u32 0, .int .i64 0, .int .i64 0, .string ⟨#[]⟩, .string ⟨#[]⟩, .int .i64 0, .int .i64 0, .int .i64 0, .int .i64 0, .int .i64 0, .string ⟨#[]⟩, .string ⟨#[]⟩, .int .i64 (-77), .int .i64 0, .int .i64 0])).run Try.prog W = .ok true W := mk77N_eq
  go_wp2_with ((with_reducible refine wpList_lgN G (n * 20) mk77N rfl ?hw ?hx HLA6.out ?_); (case hw => rfl); (case hx => rfl))
  go_ret
  exact ⟨by first | rfl | simp, HB6.out⟩
end Go.Proofs.Ytjmjjjpanioifaa

