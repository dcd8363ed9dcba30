import Derived.Test.YtiabhmdefaabgabDoorGMk2
namespace Go.Proofs.YtiabhmdefaabgabDoor
open Go.RowKit Go.Maps
set_option maxRecDepth 20000
set_option linter.unusedVariables false

/-- How many lengths of the small code have to be written. -/
def wrn (c : List Int) : Nat → Nat
  | 0 => 0
  | n + 1 => if 4 < n + 1 ∧ c.getD (zor.getD n 0).toNat 0 = 0 then wrn c n else n + 1
def wrt (c : List Int) : Nat := wrn c 19

theorem wrn_le (c : List Int) : ∀ n, wrn c n ≤ n
  | 0 => Nat.le_refl _
  | n + 1 => by simp only [wrn]; split
                · have := wrn_le c n; omega
                · exact Nat.le_refl _
theorem wrt_le (c : List Int) : wrt c ≤ 19 := wrn_le c 19
theorem wrn_ge (c : List Int) : ∀ n, 4 ≤ n → 4 ≤ wrn c n
  | 0, h => h
  | n + 1, h => by simp only [wrn]; split
                   · rename_i q; exact wrn_ge c n (by omega)
                   · exact h
theorem wrt_ge (c : List Int) : 4 ≤ wrt c := wrn_ge c 19 (by omega)

set_option maxHeartbeats 1000000 in
theorem written_any (v : Value) (c : List Int) (w : World) (h : SI w v c) (O : Odr w) (hc : c.length = 19) :
    Calls Tryd.prog 69 #[v] w fun e w' => e = .returned (.int .i64 (wrt c : Nat)) ∧ w' = w := by
  have HS := hide h
  have HO := hide O
  obtain ⟨ao, cap, rfl, hlc, hcm⟩ := h.open
  clear h O
  go_enter Tryd.func69, Tryd.ntmps69
  go_wp2
  go_loopw [3] (fun i wr => ∃ k : Nat, k ≤ 19 ∧ 4 ≤ k ∧ i = .int .i64 k ∧ wr = w ∧ Hid (wrt c = wrn c k)) (fun i _ => (intOf i).toNat)
  case atStart => exact ⟨19, Nat.le_refl _, by omega, rfl, rfl, rfl⟩
  case round =>
    obtain ⟨k, hk, hk4, rfl, hw, HK⟩ := hrel
    subst hw
    by_cases hlt : 4 < k
    · have hlt' : (4 : Int) < (k : Int) := by omega
      obtain ⟨j, rfl⟩ : ∃ j, k = j + 1 := ⟨k - 1, by omega⟩
      have hj19 : (j : Int) < 19 := by omega
      have o1 := HO.out.get j (by omega)
      have o2 := zor_at j (by omega)
      have HT : Hid (wrn c (j + 1) = if c.getD (zor.getD j 0).toNat 0 = 0 then wrn c j else j + 1) := by
        show _ = _
        simp only [wrn]
        by_cases q : c.getD (zor.getD j 0).toNat 0 = 0
        · rw [if_pos ⟨hlt, q⟩, if_pos q]
        · rw [if_neg (fun z => q z.2), if_neg q]
      obtain ⟨z', hz⟩ : ∃ z', z' = zor.getD j 0 := ⟨_, rfl⟩
      rw [← hz] at o1 o2 HT
      obtain ⟨z, rfl⟩ := Int.eq_ofNat_of_zero_le o2.1
      rw [Int.toNat_natCast] at HT
      have hzl : (z : Int) < (c.length : Int) := by rw [hc]; exact o2.2
      obtain ⟨b, o, rfl, hcz⟩ := HS.out.get (Below.refl _ _) (k := z) (by omega)
      obtain ⟨y, HY⟩ : ∃ y, Hid (y = c.getD z 0) := ⟨_, rfl⟩
      rw [← HY.out] at hcz HT
      have ej : ((j : Int) + 1 - 1) = (j : Int) := by omega
      clear hz o2
      by_cases hy : y = 0
      · subst hy
        have HK2 : Hid (wrt c = wrn c j) := by show _ = _; rw [HK.out, HT.out, if_pos rfl]
        go_wp2
        go_roundw
        case rel => exact ⟨j, by omega, by omega, rfl, HK2⟩
        case measure => simp [intOf]; omega
      · have hy' : (y == 0) = false := by simpa using hy
        have HK2 : Hid (wrt c = j + 1) := by show _ = _; rw [HK.out, HT.out, if_neg hy]
        go_wp2
        go_ret
        rw [HK2.out]
        exact ⟨by go_num, rfl⟩
    · obtain rfl : k = 4 := by omega
      have HK2 : Hid (wrt c = 4) := by
        show _ = _
        have h1 := wrt_ge c
        have h2 := wrn_le c 4
        have h3 := HK.out
        omega
      go_wp2
      go_ret
      rw [HK2.out]
      exact ⟨rfl, rfl⟩

/-- How many bits the runs have. -/
def rsz (C : List Int) : List Rn → Int
  | [] => 0
  | r :: R => C.getD r.1.toNat 0 + (frt r.1 : Nat) + rsz C R
def hsz (C : List Int) (R : List Rn) : Int := 14 + 3 * (wrt C : Int) + rsz C R

theorem rsz_snoc (C : List Int) (R : List Rn) (r : Rn) : rsz C (R ++ [r]) = rsz C R + (C.getD r.1.toNat 0 + (frt r.1 : Nat)) := by
  induction R with
  | nil => simp [rsz]
  | cons a R ih => simp only [List.cons_append, rsz, ih]; omega

theorem frt_le (s : Int) : frt s ≤ 7 := by unfold frt; split; omega; split; omega; split <;> omega

theorem rsz_bound {C : List Int} (hC : ∀ s, 0 ≤ C.getD s 0 ∧ C.getD s 0 ≤ 15) (R : List Rn) : 0 ≤ rsz C R ∧ rsz C R ≤ 22 * R.length := by
  induction R with
  | nil => simp [rsz]
  | cons r R ih =>
    have := hC r.1.toNat
    have := frt_le r.1
    simp only [rsz, List.length_cons]
    omega

set_option maxHeartbeats 2000000 in
theorem hsize_any (vL vD vC vR : Value) (C : List Int) (R : List Rn) (w : World) (hvl : vL.oneCell' = true) (hvd : vD.oneCell' = true) (hC : SI w vC C) (hR : SR w vR R) (T : Tab w) (O : Odr w) (h19 : C.length = 19) (hb : ∀ s, 0 ≤ C.getD s 0 ∧ C.getD s 0 ≤ 15) (hok : ∀ r ∈ R, Okr r) (hn : R.length ≤ 1048576) :
    Calls Tryd.prog 38 #[.agg #[vL, vD, vC, vR, .int .i64 0]] w fun e w' => e = .returned (.int .i64 (hsz C R)) ∧ Below w.heap.size w w' := by
  have HC := hide hC
  have HR := hide hR
  have HT := hide T
  have HO := hide O
  have HOK := hide hok
  have HBD := hide hb
  obtain ⟨aC, cC, rfl, hc1, hc2⟩ := hC.open
  obtain ⟨aR, cR, rfl, hr1, hr2⟩ := hR.open
  clear hC hR T O hok hb
  have H19 := hide h19
  have HC0 : Hid (∀ W, Below w.heap.size w W → ∀ k, k < 19 → ∃ b o, aC = some ⟨b, o, none⟩ ∧ W.cell? ⟨b, o + k, none⟩ = some (.int .i64 (C.getD k 0))) := fun W hW k hk => HC.out.get hW (by rw [H19.out]; exact hk)
  have HW0 : Hid (∀ W, Below w.heap.size w W → Calls Tryd.prog 69 #[.slice aC 19 cC] W fun e w' => e = .returned (.int .i64 (wrt C : Nat)) ∧ w' = W) := fun W hW => by
    have := written_any _ C W (HC.out.below hW) (HO.out.mono hW) H19.out
    rwa [H19.out] at this
  rw [h19] at hc1 ⊢
  clear h19 HC
  obtain ⟨wb, hwb⟩ : ∃ wb, w.alloc (.cells #[vL, vD, .slice aC 19 cC, .slice aR R.length cR, .int .i64 0] 26) = wb := ⟨_, rfl⟩
  have hb0 : Below w.heap.size w wb := by rw [← hwb]; exact (Below.refl _ _).alloc (Nat.le_refl _) _
  have hg0 : wb.heap[w.heap.size]? = some (.cells #[vL, vD, .slice aC 19 cC, .slice aR R.length cR, .int .i64 0] 26 (0, 0)) := by rw [← hwb]; exact heap_alloc_new w _
  have d2 : wb.cell? ⟨w.heap.size, 2, none⟩ = some (.slice aC 19 cC) := by unfold World.cell?; rw [hg0]; rfl
  have d3 : wb.cell? ⟨w.heap.size, 3, none⟩ = some (.slice aR R.length cR) := by unfold World.cell?; rw [hg0]; rfl
  have HG0 := hide hg0
  have hsl : w.heap.size < wb.heap.size := by rw [← hwb]; simp
  have HSL := hide hsl
  have HB0 := hide hb0
  have hw19 := wrt_le C
  have HWB := hide hwb
  clear hb0 hg0 hwb hsl
  go_enter Tryd.func38, Tryd.ntmps38
  go_wp2_with fail
  rw [HWB.out]
  refine (HW0.out wb HB0.out).mono ?_
  rintro e w1 ⟨rfl, hw1⟩
  subst hw1
  obtain ⟨W, HW⟩ : ∃ W, Hid (W = wrt C) := ⟨_, rfl⟩
  have HZ : Hid (hsz C R = 14 + 3 * (W : Int) + rsz C R) := by show _ = _; rw [HW.out]; rfl
  rw [← HW.out] at hw19 ⊢
  have HRB := hide (fun k => rsz_bound HBD.out (R.take k))
  go_wp2
  go_loopw [3, 14] (fun t i wr => ∃ k : Nat, k ≤ R.length ∧ i = .int .i64 k ∧ t = .int .i64 (14 + 3 * (W : Int) + rsz C (R.take k)) ∧ Hid (wr.heap[w.heap.size]? = some (.cells #[vL, vD, .slice aC 19 cC, .slice aR R.length cR, .int .i64 0] 26 (0, 0))) ∧ Hid (Below w.heap.size w wr)) (fun _ i _ => R.length - (intOf i).toNat)
  case atStart => exact ⟨0, Nat.zero_le _, rfl, by simp [rsz], HG0.out, HB0.out⟩
  case round =>
    obtain ⟨k, hk, rfl, rfl, HG, HB⟩ := hrel
    by_cases hlt : k < R.length
    · have hlt' : (k : Int) < (R.length : Int) := by omega
      obtain ⟨b, o, rfl, c1, c2⟩ := HR.out.get HB.out hlt
      have ok : Okr (R.getD k rn0) := HOK.out _ (by rw [show R.getD k rn0 = R[k] by simp [hlt]]; exact List.getElem_mem hlt)
      have hk1 := ok.1
      have hk2 := ok.2.1
      have HSN : Hid (R.take (k + 1) = R.take k ++ [R.getD k rn0]) := by show _ = _; rw [List.take_succ_eq_append_getElem hlt]; simp [hlt]
      obtain ⟨r, hr⟩ : ∃ r, r = R.getD k rn0 := ⟨_, rfl⟩
      rw [← hr] at c1 c2 hk1 hk2 HSN
      obtain ⟨s', c⟩ := r
      simp only at c1 c2 hk1 hk2
      obtain ⟨s, rfl⟩ := Int.eq_ofNat_of_zero_le hk1
      have hs : s < 19 := by omega
      have hs' : (s : Int) < 19 := by omega
      have HRN : Hid (rsz C (R.take (k + 1)) = rsz C (R.take k) + (C.getD s 0 + (frt s : Nat))) := by show _ = _; rw [HSN.out, rsz_snoc]; rfl
      have hrb := HRB.out k
      have hrl : (R.take k).length ≤ 1048576 := by rw [List.length_take]; omega
      obtain ⟨wx, hwx⟩ : ∃ wx, wr.alloc (.cells #[.int .i64 s, .int .i64 c] 87) = wx := ⟨_, rfl⟩
      have HBX : Hid (Below w.heap.size w wx) := by rw [← hwx]; exact hide (HB.out.alloc HB.out.size _)
      have hgx : wx.heap[w.heap.size]? = some (.cells #[vL, vD, .slice aC 19 cC, .slice (some ⟨b, o, none⟩) R.length cR, .int .i64 0] 26 (0, 0)) := by
        rw [← hwx, Below.heap_alloc wr _ _ (by
          rcases Nat.lt_or_ge w.heap.size wr.heap.size with h | h
          · exact h
          · have := HG.out; rw [Array.getElem?_eq_none h] at this; cases this)]
        exact HG.out
      have x2 : wx.cell? ⟨w.heap.size, 2, none⟩ = some (.slice aC 19 cC) := by unfold World.cell?; rw [hgx]; rfl
      have z0 : wx.cell? ⟨wr.heap.size, 0, none⟩ = some (.int .i64 s) := by rw [← hwx]; unfold World.cell?; simp only [heap_alloc_new]; rfl
      obtain ⟨bC, oC, hbC, y0⟩ := HC0.out wx HBX.out s hs
      subst hbC
      have f0 := (HT.out.mono HBX.out).further s hs
      have hcb := HBD.out s
      have hfb := frt_le s
      have HGX : Hid (∀ q, (wx.drewN q).heap[w.heap.size]? = some (.cells #[vL, vD, .slice (some ⟨bC, oC, none⟩) 19 cC, .slice (some ⟨b, o, none⟩) R.length cR, .int .i64 0] 26 (0, 0))) := fun q => hgx
      have HBD2 : Hid (∀ q, Below w.heap.size w (wx.drewN q)) := fun q => below_drewN HBX.out q
      obtain ⟨Y, HY⟩ : ∃ Y, Hid (Y = C.getD s 0) := ⟨_, rfl⟩
      obtain ⟨F, HF⟩ : ∃ F, Hid (F = frt s) := ⟨_, rfl⟩
      obtain ⟨Z, HZZ⟩ : ∃ Z, Hid (Z = rsz C (R.take k)) := ⟨_, rfl⟩
      rw [← HY.out] at y0 hcb HRN
      rw [← HF.out] at f0 hfb HRN
      rw [← HZZ.out] at HRN hrb ⊢
      have hz1 : 0 ≤ Z := hrb.1
      have hz2 : Z ≤ 23068672 := by omega
      have hy1 : 0 ≤ Y := hcb.1
      have hy2 : Y ≤ 15 := hcb.2
      clear hr ok hk1 hk2 hgx hcb hrb HSN
      go_wp2
      go_quiet (fail)
      go_wp2
      go_roundw
      case rel => exact ⟨k + 1, by omega, by go_num, by rw [HRN.out]; go_num, HGX.out _, HBD2.out _⟩
      case measure => simp [intOf]; omega
    · obtain rfl : k = R.length := by omega
      have hlt' : ¬ (R.length : Int) < (R.length : Int) := by omega
      have HF : Hid (14 + 3 * (W : Int) + rsz C (R.take R.length) = hsz C R) := by show _ = _; rw [List.take_of_length_le (Nat.le_refl _)]; exact HZ.out.symm
      rw [HF.out]
      go_wp2
      go_ret
      exact ⟨rfl, HB.out⟩
end Go.Proofs.YtiabhmdefaabgabDoor

