import Derived.Test.YtdpfjfkknimlfaaDoorGSpa
namespace Go.Proofs.YtdpfjfkknimlfaaDoor
open Go.RowKit Go.Maps
set_option maxRecDepth 20000
set_option linter.unusedVariables false

theorem spl_len (R : List Tk) : (spl R).length ≤ spK R + 1 := by
  unfold spl
  have := splLen1 R (spK R)
  simp
  omega

set_option maxHeartbeats 2000000 in
theorem fSplit_any (b o cap : Nat) (R : List Tk) (w : World) (h : SK w (.slice (some ⟨b, o, none⟩) R.length cap) R) (hb : ∀ t ∈ R, Bt t) (T : Ltab w ∧ Dtab w) :
    Calls Tryd.prog 4 #[.slice (some ⟨b, o, none⟩) R.length cap] w fun e w' => ∃ u, e = .returned (.tuple #[u, .int .i64 (ctE R)]) ∧ OI w' w.heap.size u (spi R) ∧ Below w.heap.size w w' := by
  have HS := hide h
  have HBT := hide hb
  have HC := hide (oCount_any _ R w h hb T)
  clear h hb T
  by_cases hE : ctE R = 0
  · have HSP : Hid (spi R = (spl R).map (fun n : Nat => (n : Int))) := if_pos hE
    have hok : R.length ≤ 16777216 ∧ asnd R = true := by
      unfold ctE at hE
      by_cases h1 : 16777216 < R.length
      · rw [if_pos h1] at hE; omega
      · rw [if_neg h1] at hE
        by_cases h2 : asnd R = true
        · exact ⟨by omega, h2⟩
        · rw [if_neg h2] at hE; omega
    have HAL := hide (asnd_all hok.2)
    have hn := hok.1
    have hlen : (spl R).length ≤ 131073 := by
      have := spl_len R
      unfold spK at this
      omega
    have HEE := hide hE
    rw [hE, HSP.out]
    clear hE hok HSP
    go_enter Tryd.func4, Tryd.ntmps4
    go_wp2_with fail
    refine HC.out.mono ?_
    rintro e w1 ⟨vl, vd, rfl, o1, o2, o3, b1⟩
    rw [HEE.out]
    have HB1 := hide b1
    have HSV := hide (split_any b o cap R w1 (HS.out.below b1) (fun t ht => ⟨HAL.out t ht, HBT.out t ht⟩) hn)
    clear o1 o2 o3 b1 HC HS
    go_wp2_with fail
    refine HSV.out.mono ?_
    rintro e w2 ⟨u, rows, rfl, hr, o2, b2⟩
    have HB2 := hide (HB1.out.trans (b2.mono HB1.out.size))
    have HO2 := hide o2
    obtain ⟨ua, uc, hu, huc, huc2⟩ := o2.shape
    subst hu
    have hrl : rows.length ≤ 131073 := by
      have := congrArg List.length hr
      simp at this
      omega
    have HR := hide hr
    clear o2 b2 HSV HB1 hr hlen
    go_wp2
    go_loopw [7, 22] (fun cv i wr => ∃ k : Nat, k ≤ rows.length ∧ i = .int .i64 k ∧ Hid (OI wr w2.heap.size cv ((rows.take k).map fun f => f 0)) ∧ Hid (Below w2.heap.size w2 wr)) (fun _ i _ => rows.length - (intOf i).toNat)
    case atStart => exact ⟨0, Nat.zero_le _, rfl, World.ownsRow_nil _ _ _ _, Below.refl _ _⟩
    case round =>
      obtain ⟨k, hk, rfl, HO, HB⟩ := hrel
      by_cases hlt : k < rows.length
      · have hlt' : (k : Int) < (rows.length : Int) := by omega
        obtain ⟨g, c, hv, hcell⟩ := HO2.out.get hlt
        simp only [Value.slice.injEq] at hv
        obtain ⟨rfl, -, rfl⟩ := hv
        obtain ⟨f, hf⟩ : ∃ f, rows.getD k (fun _ => 0) = f := ⟨_, rfl⟩
        rw [hf] at hcell
        have hgl : g < w2.heap.size := World.block_lt_of_cell? _ _ (hcell 0 (by omega))
        have hc : ∀ j, j < 10 → wr.cell? ⟨g, k * 10 + j, none⟩ = some (.int .i64 (f j)) := fun j hj => (HB.out.cell hgl).trans (hcell j hj)
        have c0 : wr.cell? ⟨g, k * 10, none⟩ = some (.int .i64 (f 0)) := hc 0 (by omega)
        have c1 := hc 1 (by omega)
        have c2 := hc 2 (by omega)
        have c3 := hc 3 (by omega)
        have c4 := hc 4 (by omega)
        have c5 := hc 5 (by omega)
        have c6 := hc 6 (by omega)
        have c7 := hc 7 (by omega)
        have c8 := hc 8 (by omega)
        have c9 := hc 9 (by omega)
        obtain ⟨D, hD⟩ : ∃ D, (rows.take k).map (fun f => f 0) = D := ⟨_, rfl⟩
        have HTK : Hid ((rows.take (k + 1)).map (fun f => f 0) = D ++ [f 0]) := by
          show _ = _
          rw [List.take_succ_eq_append_getElem hlt, List.map_append, hD]
          have : rows[k] = f := by rw [← hf, List.getD_eq_getElem?_getD, List.getElem?_eq_getElem hlt]; rfl
          simp [this]
        rw [hD] at HO
        have hDl : D.length ≤ 131073 := by rw [← hD]; simp; omega
        obtain ⟨a3, p3, hu⟩ := HO.out.shape
        subst hu
        obtain ⟨w6, hw6⟩ : ∃ w6, wr.alloc (.cells #[.int .i64 (f 0), .int .i64 (f 1), .int .i64 (f 2), .int .i64 (f 3), .int .i64 (f 4), .int .i64 (f 5), .int .i64 (f 6), .int .i64 (f 7), .int .i64 (f 8), .int .i64 (f 9)] 40) = w6 := ⟨_, rfl⟩
        have HB6 : Hid (Below w2.heap.size w2 w6) := by rw [← hw6]; exact HB.out.alloc HB.out.size _
        have HO6 : Hid (OI w6 w2.heap.size (.slice a3 D.length p3) D) := by rw [← hw6]; exact HO.out.alloc _
        have y0 : w6.cell? ⟨wr.heap.size, 0, none⟩ = some (.int .i64 (f 0)) := by rw [← hw6]; unfold World.cell?; simp only [heap_alloc_new]; rfl
        have HZ6 : Hid (w2.heap.size ≤ w6.heap.size) := HB6.out.size
        clear hc hcell hD hf
        go_wp2_with (at_builtin; refine wpList_appI rfl _ _ 25 rfl w2.heap.size _ _ D [f 0] rfl (HO6.out.alloc _) rfl (built_srcI w6 [f 0]) (by simp; omega) (by rw [size_alloc']; have := HZ6.out; omega) ?_)
        intro v3 w3 ho3 hg3
        have HN : Hid (OI w3 w2.heap.size v3 ((rows.take (k + 1)).map fun f => f 0) ∧ Below w2.heap.size w2 w3) := ⟨by rw [HTK.out]; exact ho3, (HB6.out.alloc HB6.out.size _).grown hg3.by (by rw [size_alloc']; have := HB6.out.size; omega) (fun j hj => by have := HO6.out.lt j hj; omega)⟩
        clear ho3 hg3
        go_wp2
        go_roundw
        case rel => exact ⟨k + 1, by omega, by go_num, HN.out.1, HN.out.2⟩
        case measure => simp [intOf]; omega
      · obtain rfl : k = rows.length := by omega
        have hlt' : ¬ (rows.length : Int) < (rows.length : Int) := by omega
        have HF : Hid (OI wr w2.heap.size u7 ((spl R).map fun n : Nat => (n : Int))) := by have := HO.out; rw [List.take_of_length_le (Nat.le_refl _), HR.out] at this; exact this
        have HB3 := hide (HB2.out.trans (HB.out.mono HB2.out.size))
        obtain ⟨a3, p3, hu⟩ := HF.out.shape
        rw [List.length_map] at hu
        subst hu
        clear HO HB
        go_wp2
        refine bodyPost_ret (results_tmp2 rfl _ _ _) rfl ?_
        exact ⟨.slice a3 (spl R).length p3, rfl, HF.out.base HB2.out.size, HB3.out⟩
  · have HSP : Hid (spi R = []) := if_neg hE
    obtain ⟨E, hEE⟩ : ∃ E, ctE R = E := ⟨_, rfl⟩
    have HEE := hide hEE
    rw [HSP.out, hEE]
    rw [hEE] at hE
    have hE' : (E != 0) = true := by simpa using hE
    clear hEE
    go_enter Tryd.func4, Tryd.ntmps4
    go_wp2_with fail
    refine HC.out.mono ?_
    rintro e w1 ⟨vl, vd, rfl, o1, o2, o3, b1⟩
    rw [HEE.out]
    have HB1 := hide b1
    clear o1 o2 o3 b1 HC
    go_wp2
    refine bodyPost_ret (results_tmp2 rfl _ _ _) rfl ?_
    exact ⟨_, rfl, oi_nil10 _ _, HB1.out⟩
end Go.Proofs.YtdpfjfkknimlfaaDoor

