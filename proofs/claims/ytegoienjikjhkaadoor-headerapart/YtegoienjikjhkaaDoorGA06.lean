import Derived.Test.YtegoienjikjhkaaDoorGA05
import Derived.Test.YtegoienjikjhkaaDoorGA04
import Derived.WalkMore
namespace Go.Proofs.YtegoienjikjhkaaDoor
open Go.RowKit Go.Maps
set_option maxRecDepth 20000
set_option linter.unusedVariables false

/-- How many lengths of the small code have to be written. -/
def wrn (c : List Int) : Nat → Nat
  | 0 => 0
  | n + 1 => if 4 < n + 1 ∧ c.getD (zor.getD n 0).toNat 0 = 0 then wrn c n else n + 1
def wrt (c : List Int) : Nat := wrn c 19

theorem wrn_le (c : List Int) : ∀ n, wrn c n ≤ n
  | 0 => Nat.le_refl _
  | n + 1 => by simp only [wrn]; split
                · have := wrn_le c n; omega
                · exact Nat.le_refl _
theorem wrt_le (c : List Int) : wrt c ≤ 19 := wrn_le c 19
theorem wrn_ge (c : List Int) : ∀ n, 4 ≤ n → 4 ≤ wrn c n
  | 0, h => h
  | n + 1, h => by simp only [wrn]; split
                   · rename_i q; exact wrn_ge c n (by omega)
                   · exact h
theorem wrt_ge (c : List Int) : 4 ≤ wrt c := wrn_ge c 19 (by omega)

set_option maxHeartbeats 1000000 in
theorem written_any (v : Value) (c : List Int) (w : World) (h : SI w v c) (O : Odr w) (hc : c.length = 19) :
    Calls Tryd.prog 49 #[v] w fun e w' => e = .returned (.int .i64 (wrt c : Nat)) ∧ w' = w := by
  have HS := hide h
  have HO := hide O
  obtain ⟨ao, cap, rfl, hlc, hcm⟩ := h.open
  clear h O
  go_enter Tryd.func49, Tryd.ntmps49
  go_wp2
  go_loopw [3] (fun i wr => ∃ k : Nat, k ≤ 19 ∧ 4 ≤ k ∧ i = .int .i64 k ∧ wr = w ∧ Hid (wrt c = wrn c k)) (fun i _ => (intOf i).toNat)
  case atStart => exact ⟨19, Nat.le_refl _, by omega, rfl, rfl, rfl⟩
  case round =>
    obtain ⟨k, hk, hk4, rfl, hw, HK⟩ := hrel
    subst hw
    by_cases hlt : 4 < k
    · have hlt' : (4 : Int) < (k : Int) := by omega
      obtain ⟨j, rfl⟩ : ∃ j, k = j + 1 := ⟨k - 1, by omega⟩
      have hj19 : (j : Int) < 19 := by omega
      have o1 := HO.out.get j (by omega)
      have o2 := zor_at j (by omega)
      have HT : Hid (wrn c (j + 1) = if c.getD (zor.getD j 0).toNat 0 = 0 then wrn c j else j + 1) := by
        show _ = _
        simp only [wrn]
        by_cases q : c.getD (zor.getD j 0).toNat 0 = 0
        · rw [if_pos ⟨hlt, q⟩, if_pos q]
        · rw [if_neg (fun z => q z.2), if_neg q]
      obtain ⟨z', hz⟩ : ∃ z', z' = zor.getD j 0 := ⟨_, rfl⟩
      rw [← hz] at o1 o2 HT
      obtain ⟨z, rfl⟩ := Int.eq_ofNat_of_zero_le o2.1
      rw [Int.toNat_natCast] at HT
      have hzl : (z : Int) < (c.length : Int) := by rw [hc]; exact o2.2
      obtain ⟨b, o, rfl, hcz⟩ := HS.out.get (Below.refl _ _) (k := z) (by omega)
      obtain ⟨y, HY⟩ : ∃ y, Hid (y = c.getD z 0) := ⟨_, rfl⟩
      rw [← HY.out] at hcz HT
      have ej : ((j : Int) + 1 - 1) = (j : Int) := by omega
      clear hz o2
      by_cases hy : y = 0
      · subst hy
        have HK2 : Hid (wrt c = wrn c j) := by show _ = _; rw [HK.out, HT.out, if_pos rfl]
        go_wp2
        go_roundw
        case rel => exact ⟨j, by omega, by omega, rfl, HK2⟩
        case measure => simp [intOf]; omega
      · have hy' : (y == 0) = false := by simpa using hy
        have HK2 : Hid (wrt c = j + 1) := by show _ = _; rw [HK.out, HT.out, if_neg hy]
        go_wp2
        go_ret
        rw [HK2.out]
        exact ⟨by go_num, rfl⟩
    · obtain rfl : k = 4 := by omega
      have HK2 : Hid (wrt c = 4) := by
        show _ = _
        have h1 := wrt_ge c
        have h2 := wrn_le c 4
        have h3 := HK.out
        omega
      go_wp2
      go_ret
      rw [HK2.out]
      exact ⟨rfl, rfl⟩

/-- How many bits the runs have. -/
def rsz (C : List Int) : List Rn → Int
  | [] => 0
  | r :: R => C.getD r.1.toNat 0 + (frt r.1 : Nat) + rsz C R
def hsz (C : List Int) (R : List Rn) : Int := 14 + 3 * (wrt C : Int) + rsz C R

theorem rsz_snoc (C : List Int) (R : List Rn) (r : Rn) : rsz C (R ++ [r]) = rsz C R + (C.getD r.1.toNat 0 + (frt r.1 : Nat)) := by
  induction R with
  | nil => simp [rsz]
  | cons a R ih => simp only [List.cons_append, rsz, ih]; omega

theorem frt_le (s : Int) : frt s ≤ 7 := by unfold frt; split; omega; split; omega; split <;> omega

theorem rsz_bound {C : List Int} (hC : ∀ s, 0 ≤ C.getD s 0 ∧ C.getD s 0 ≤ 15) (R : List Rn) : 0 ≤ rsz C R ∧ rsz C R ≤ 22 * R.length := by
  induction R with
  | nil => simp [rsz]
  | cons r R ih =>
    have := hC r.1.toNat
    have := frt_le r.1
    simp only [rsz, List.length_cons]
    omega

set_option maxHeartbeats 2000000 in
theorem hsize_any (vL vD vC vR : Value) (C : List Int) (R : List Rn) (w : World) (hvl : vL.oneCell' = true) (hvd : vD.oneCell' = true) (hC : SI w vC C) (hR : SR w vR R) (T : Tab w) (O : Odr w) (h19 : C.length = 19) (hb : ∀ s, 0 ≤ C.getD s 0 ∧ C.getD s 0 ≤ 15) (hok : ∀ r ∈ R, Okr r) (hn : R.length ≤ 1048576) :
    Calls Tryd.prog 29 #[.agg #[vL, vD, vC, vR, .int .i64 0]] w fun e w' => e = .returned (.int .i64 (hsz C R)) ∧ Below w.heap.size w w' := by
  have HC := hide hC
  have HR := hide hR
  have HT := hide T
  have HO := hide O
  have HOK := hide hok
  have HBD := hide hb
  obtain ⟨aC, cC, rfl, hc1, hc2⟩ := hC.open
  obtain ⟨aR, cR, rfl, hr1, hr2⟩ := hR.open
  clear hC hR T O hok hb
  have H19 := hide h19
  have HC0 : Hid (∀ W, Below w.heap.size w W → ∀ k, k < 19 → ∃ b o, aC = some ⟨b, o, none⟩ ∧ W.cell? ⟨b, o + k, none⟩ = some (.int .i64 (C.getD k 0))) := fun W hW k hk => HC.out.get hW (by rw [H19.out]; exact hk)
  have HW0 : Hid (∀ W, Below w.heap.size w W → Calls Tryd.prog 49 #[.slice aC 19 cC] W fun e w' => e = .returned (.int .i64 (wrt C : Nat)) ∧ w' = W) := fun W hW => by
    have := written_any _ C W (HC.out.below hW) (HO.out.mono hW) H19.out
    rwa [H19.out] at this
  rw [h19] at hc1 ⊢
  clear h19 HC
  obtain ⟨wb, hwb⟩ : ∃ wb, w.alloc (.cells #[vL, vD, .slice aC 19 cC, .slice aR R.length cR, .int .i64 0] 29) = wb := ⟨_, rfl⟩
  have hb0 : Below w.heap.size w wb := by rw [← hwb]; exact (Below.refl _ _).alloc (Nat.le_refl _) _
  have hg0 : wb.heap[w.heap.size]? = some (.cells #[vL, vD, .slice aC 19 cC, .slice aR R.length cR, .int .i64 0] 29 (0, 0)) := by rw [← hwb]; exact heap_alloc_new w _
  have d2 : wb.cell? ⟨w.heap.size, 2, none⟩ = some (.slice aC 19 cC) := by unfold World.cell?; rw [hg0]; rfl
  have d3 : wb.cell? ⟨w.heap.size, 3, none⟩ = some (.slice aR R.length cR) := by unfold World.cell?; rw [hg0]; rfl
  have HG0 := hide hg0
  have hsl : w.heap.size < wb.heap.size := by rw [← hwb]; simp
  have HSL := hide hsl
  have HB0 := hide hb0
  have hw19 := wrt_le C
  have HWB := hide hwb
  clear hb0 hg0 hwb hsl
  go_enter Tryd.func29, Tryd.ntmps29
  go_wp2_with fail
  rw [HWB.out]
  refine (HW0.out wb HB0.out).mono ?_
  rintro e w1 ⟨rfl, hw1⟩
  subst hw1
  obtain ⟨W, HW⟩ : ∃ W, Hid (W = wrt C) := ⟨_, rfl⟩
  have HZ : Hid (hsz C R = 14 + 3 * (W : Int) + rsz C R) := by show _ = _; rw [HW.out]; rfl
  rw [← HW.out] at hw19 ⊢
  have HRB := hide (fun k => rsz_bound HBD.out (R.take k))
  go_wp2
  go_loopw [3, 14] (fun t i wr => ∃ k : Nat, k ≤ R.length ∧ i = .int .i64 k ∧ t = .int .i64 (14 + 3 * (W : Int) + rsz C (R.take k)) ∧ Hid (wr.heap[w.heap.size]? = some (.cells #[vL, vD, .slice aC 19 cC, .slice aR R.length cR, .int .i64 0] 29 (0, 0))) ∧ Hid (Below w.heap.size w wr)) (fun _ i _ => R.length - (intOf i).toNat)
  case atStart => exact ⟨0, Nat.zero_le _, rfl, by simp [rsz], HG0.out, HB0.out⟩
  case round =>
    obtain ⟨k, hk, rfl, rfl, HG, HB⟩ := hrel
    by_cases hlt : k < R.length
    · have hlt' : (k : Int) < (R.length : Int) := by omega
      obtain ⟨b, o, rfl, c1, c2⟩ := HR.out.get HB.out hlt
      have ok : Okr (R.getD k rn0) := HOK.out _ (by rw [show R.getD k rn0 = R[k] by simp [hlt]]; exact List.getElem_mem hlt)
      have hk1 := ok.1
      have hk2 := ok.2.1
      have HSN : Hid (R.take (k + 1) = R.take k ++ [R.getD k rn0]) := by show _ = _; rw [List.take_succ_eq_append_getElem hlt]; simp [hlt]
      obtain ⟨r, hr⟩ : ∃ r, r = R.getD k rn0 := ⟨_, rfl⟩
      rw [← hr] at c1 c2 hk1 hk2 HSN
      obtain ⟨s', c⟩ := r
      simp only at c1 c2 hk1 hk2
      obtain ⟨s, rfl⟩ := Int.eq_ofNat_of_zero_le hk1
      have hs : s < 19 := by omega
      have hs' : (s : Int) < 19 := by omega
      have HRN : Hid (rsz C (R.take (k + 1)) = rsz C (R.take k) + (C.getD s 0 + (frt s : Nat))) := by show _ = _; rw [HSN.out, rsz_snoc]; rfl
      have hrb := HRB.out k
      have hrl : (R.take k).length ≤ 1048576 := by rw [List.length_take]; omega
      obtain ⟨wx, hwx⟩ : ∃ wx, wr.alloc (.cells #[.int .i64 s, .int .i64 c] 39) = wx := ⟨_, rfl⟩
      have HBX : Hid (Below w.heap.size w wx) := by rw [← hwx]; exact hide (HB.out.alloc HB.out.size _)
      have hgx : wx.heap[w.heap.size]? = some (.cells #[vL, vD, .slice aC 19 cC, .slice (some ⟨b, o, none⟩) R.length cR, .int .i64 0] 29 (0, 0)) := by
        rw [← hwx, Below.heap_alloc wr _ _ (by
          rcases Nat.lt_or_ge w.heap.size wr.heap.size with h | h
          · exact h
          · have := HG.out; rw [Array.getElem?_eq_none h] at this; cases this)]
        exact HG.out
      have x2 : wx.cell? ⟨w.heap.size, 2, none⟩ = some (.slice aC 19 cC) := by unfold World.cell?; rw [hgx]; rfl
      have z0 : wx.cell? ⟨wr.heap.size, 0, none⟩ = some (.int .i64 s) := by rw [← hwx]; unfold World.cell?; simp only [heap_alloc_new]; rfl
      obtain ⟨bC, oC, hbC, y0⟩ := HC0.out wx HBX.out s hs
      subst hbC
      have f0 := (HT.out.mono HBX.out).further s hs
      have hcb := HBD.out s
      have hfb := frt_le s
      have HGX : Hid (∀ q, (wx.drewN q).heap[w.heap.size]? = some (.cells #[vL, vD, .slice (some ⟨bC, oC, none⟩) 19 cC, .slice (some ⟨b, o, none⟩) R.length cR, .int .i64 0] 29 (0, 0))) := fun q => hgx
      have HBD2 : Hid (∀ q, Below w.heap.size w (wx.drewN q)) := fun q => below_drewN HBX.out q
      obtain ⟨Y, HY⟩ : ∃ Y, Hid (Y = C.getD s 0) := ⟨_, rfl⟩
      obtain ⟨F, HF⟩ : ∃ F, Hid (F = frt s) := ⟨_, rfl⟩
      obtain ⟨Z, HZZ⟩ : ∃ Z, Hid (Z = rsz C (R.take k)) := ⟨_, rfl⟩
      rw [← HY.out] at y0 hcb HRN
      rw [← HF.out] at f0 hfb HRN
      rw [← HZZ.out] at HRN hrb ⊢
      have hz1 : 0 ≤ Z := hrb.1
      have hz2 : Z ≤ 23068672 := by omega
      have hy1 : 0 ≤ Y := hcb.1
      have hy2 : Y ≤ 15 := hcb.2
      clear hr ok hk1 hk2 hgx hcb hrb HSN
      go_wp2
      go_quiet (fail)
      go_wp2
      go_roundw
      case rel => exact ⟨k + 1, by omega, by go_num, by rw [HRN.out]; go_num, HGX.out _, HBD2.out _⟩
      case measure => simp [intOf]; omega
    · obtain rfl : k = R.length := by omega
      have hlt' : ¬ (R.length : Int) < (R.length : Int) := by omega
      have HF : Hid (14 + 3 * (W : Int) + rsz C (R.take R.length) = hsz C R) := by show _ = _; rw [List.take_of_length_le (Nat.le_refl _)]; exact HZ.out.symm
      rw [HF.out]
      go_wp2
      go_ret
      exact ⟨rfl, HB.out⟩
end Go.Proofs.YtegoienjikjhkaaDoor

namespace Go.Proofs.YtegoienjikjhkaaDoor
open Go.RowKit Go.Maps
set_option maxRecDepth 20000
set_option linter.unusedVariables false

/-- For how many lengths one run of the Sym could stand. -/
def rch (s : Nat) (l : List Int) (k : Nat) : Nat := if s = 16 ∧ k = 0 then 0 else min (eqn (mnt s (l.take k)) (l.drop k)) (mst s).toNat

theorem rch_18 (l : List Int) (k : Nat) : rch 18 l k = n18 l k := by unfold rch n18; rw [if_neg (by omega)]; rfl
theorem rch_17 (l : List Int) (k : Nat) : rch 17 l k = n17 l k := by unfold rch n17; rw [if_neg (by omega)]; rfl
theorem rch_16 {l : List Int} {k : Nat} (hk : k < l.length) : rch 16 l k = n16 l k := by
  unfold rch n16
  by_cases h : k = 0
  · rw [if_pos ⟨rfl, h⟩, if_pos h]
  · rw [if_neg (by omega), if_neg h]
    have e : mnt (16 : Nat) (l.take k) = l.getD (k - 1) 0 := by
      show mnt 16 (l.take k) = _
      unfold mnt
      rw [if_neg (by decide), if_pos rfl, List.length_take, show min k l.length - 1 = k - 1 by omega]
      simp only [List.getD_eq_getElem?_getD, List.getElem?_take]
      rw [if_pos (by omega)]
    rw [e]; rfl

theorem SI.sub {w : World} {b o cap : Nat} {l : List Int} (h : SI w (.slice (some ⟨b, o, none⟩) l.length cap) l) {i j : Nat} (hij : i ≤ j) (hj : j ≤ l.length) : SI w (.slice (some ⟨b, o + i, none⟩) (j - i) (cap - i)) ((l.drop i).take (j - i)) := by
  obtain ⟨ao', cap', he, h1, h2, h3, h4⟩ := h
  simp only [Value.slice.injEq] at he
  obtain ⟨rfl, -, rfl⟩ := he
  have hl : ((l.drop i).take (j - i)).length = j - i := by rw [List.length_take, List.length_drop]; omega
  refine ⟨_, _, by rw [hl], by rw [hl]; omega, by omega, (fun e => by cases e), fun x hx n hn => ?_⟩
  cases hx
  rw [hl] at hn
  have := h4 _ rfl (i + n) (by omega)
  rw [Addr.add_lit] at this ⊢
  rw [Nat.add_assoc, this]
  simp only [List.getD_eq_getElem?_getD, List.getElem?_take, List.getElem?_drop]
  rw [if_pos hn]

set_option maxHeartbeats 1000000 in
theorem reach_any (s k : Nat) (v : Value) (l : List Int) (w : World) (h : SI w v l) (T : Tab w) (hs1 : 16 ≤ s) (hs2 : s < 19) (hk : k < l.length) (hn : l.length ≤ 1048576) :
    Calls Tryd.prog 40 #[.int .i64 s, v, .int .i64 k] w fun e w' => e = .returned (.int .i64 (rch s l k : Nat)) ∧ ∃ q, w' = w.drewN q := by
  have HS := hide h
  have HT := hide T
  obtain ⟨ao, cap, rfl, hlc, hcm⟩ := h.open
  clear h T
  by_cases hz : s = 16 ∧ k = 0
  · have HR : Hid (rch s l k = 0) := by show _ = _; unfold rch; rw [if_pos hz]
    obtain ⟨rfl, rfl⟩ := hz
    go_enter Tryd.func40, Tryd.ntmps40
    go_wp2
    go_ret
    rw [HR.out]
    exact ⟨rfl, 0, rfl⟩
  · have HR : Hid (rch s l k = min (eqn (mnt s (l.take k)) (l.drop k)) (mst s).toNat) := by show _ = _; unfold rch; rw [if_neg hz]
    obtain ⟨b, o, rfl, _⟩ := HS.out.get (Below.refl _ _) hk
    have HT0 : Hid (SI w (.slice (some ⟨b, o, none⟩) k cap) (l.take k)) := by
      have := HS.out.sub (i := 0) (j := k) (Nat.zero_le _) (by omega)
      exact hide (by simpa using this)
    have hlk : (l.take k).length = k := by rw [List.length_take]; omega
    have HMM : Hid ((s : Int) = 16 → 0 < (l.take k).length) := fun e => by rw [hlk]; omega
    obtain ⟨V, HV⟩ : ∃ V, Hid (V = mnt s (l.take k)) := ⟨_, rfl⟩
    obtain ⟨M, hM, HM⟩ : ∃ M : Nat, M ≤ 138 ∧ Hid (mst s = (M : Int)) := by
      rcases tab_cases s hs2 with ⟨_, _, c⟩ | ⟨_, _, c⟩ | ⟨_, _, c⟩ | ⟨_, _, c⟩ <;> rw [c]
      · exact ⟨1, by omega, rfl⟩
      · exact ⟨6, by omega, rfl⟩
      · exact ⟨10, by omega, rfl⟩
      · exact ⟨138, by omega, rfl⟩
    rw [← HV.out, HM.out, Int.toNat_natCast] at HR
    obtain ⟨hi, hhi⟩ : ∃ hi, hi = min (k + M) l.length := ⟨_, rfl⟩
    have hi1 : k ≤ hi := by omega
    have hi2 : hi ≤ l.length := by omega
    have HW : Hid (SI w (.slice (some ⟨b, o + k, none⟩) (hi - k) (cap - k)) ((l.drop k).take (hi - k))) := HS.out.sub hi1 hi2
    have HRW : Hid (rch s l k = eqn V ((l.drop k).take (hi - k))) := by
      show _ = _
      rw [HR.out, eqn_min]
      have := eqn_le V (l.drop k)
      rw [List.length_drop] at this
      omega
    have hz1 : ((s : Int) == 16) = true → ((k : Int) == 0) = false := fun e => by simp at e ⊢; omega
    go_enter Tryd.func40, Tryd.ntmps40
    by_cases e16 : s = 16
    · have g1 : ((s : Int) == 16) = true := by simp; omega
      have g2 : ((k : Int) == 0) = false := hz1 g1
      clear e16 hz1 hz
      go_wp2_with fail
      refine (meant_any s _ (l.take k) w HT0.out HMM.out).mono ?_
      rintro e w1 ⟨rfl, hw1⟩
      subst hw1
      rw [← HV.out]
      go_wp2_with fail
      refine (most_any s w1 hs2 HT.out).mono ?_
      rintro e w2 ⟨rfl, q, hw2⟩
      rw [HM.out]
      go_wp2
      all_goals
        first
        | rw [show ((k : Int) + (M : Int)).toNat - k = hi - k by omega]
        | rw [show l.length - k = hi - k by omega]
        have HRL : Hid (((l.drop k).take (hi - k)).length = hi - k) := by show _ = _; rw [List.length_take, List.length_drop]; omega
        obtain ⟨N, hN⟩ : ∃ N, N = hi - k := ⟨_, rfl⟩
        obtain ⟨R, HRR⟩ : ∃ R, Hid (R = (l.drop k).take (hi - k)) := ⟨_, rfl⟩
        have hNb : N ≤ 1048576 := by omega
        rw [← HRR.out] at HW HRW HRL
        rw [← hN] at HW HRL ⊢
        have HSR : Hid (SI w1 (.slice (some ⟨b, o + k, none⟩) R.length (cap - k)) R) := by rw [HRL.out]; exact HW.out
        have HLR : Hid (R.length = N) := HRL.out
        clear HT0 HMM HV HR HM HW HS HRL hN hhi hi1 hi2 hM hlk HRR
        go_loopw [34] (fun i wr => ∃ j : Nat, j ≤ N ∧ i = .int .i64 j ∧ wr = w1.drewN q ∧ Hid (j ≤ eqn V R)) (fun i _ => N - (intOf i).toNat)
        case atStart => exact ⟨0, Nat.zero_le _, rfl, rfl, Nat.zero_le _⟩
        case round =>
          obtain ⟨j, hj, rfl, hw, HJ⟩ := hrel
          subst hw
          by_cases hlt : j < N
          · have hlt' : (j : Int) < (N : Int) := by omega
            obtain ⟨b2, o2, hbo, hc⟩ := HSR.out.get (w := w1.drewN q) (below_drewN (Below.refl _ _) q) (k := j) (by rw [HLR.out]; exact hlt)
            simp only [Option.some.injEq, Addr.mk.injEq, and_true] at hbo
            obtain ⟨rfl, rfl⟩ := hbo
            have HG := hide (eqn_go HJ.out (by rw [HLR.out]; exact hlt))
            obtain ⟨y, HY⟩ : ∃ y, Hid (y = R.getD j 0) := ⟨_, rfl⟩
            rw [← HY.out] at hc HG
            by_cases hy : y = V
            · subst hy
              have HJ2 := hide (HG.out.1 rfl)
              go_wp2
              go_roundw
              case rel => exact ⟨j + 1, by omega, by go_num, trivial, HJ2⟩
              case measure => simp [intOf]; omega
            · have hy' : (y != V) = true := by simpa using hy
              have HE : Hid (rch s l k = j) := by show _ = _; rw [HRW.out]; exact HG.out.2 hy
              go_wp2
              go_ret
              rw [HE.out]
              exact ⟨rfl, q, rfl⟩
          · obtain rfl : j = N := by omega
            have hlt' : ¬ (j : Int) < (j : Int) := by omega
            have HE : Hid (rch s l k = j) := by show _ = _; rw [HRW.out, eqn_end (by rw [HLR.out]; exact HJ.out)]; exact HLR.out
            go_wp2
            go_ret
            rw [HE.out]
            exact ⟨rfl, q, rfl⟩
    · have g1 : ((s : Int) == 16) = false := by simp; omega
      clear e16 hz1 hz
      go_wp2_with fail
      refine (meant_any s _ (l.take k) w HT0.out HMM.out).mono ?_
      rintro e w1 ⟨rfl, hw1⟩
      subst hw1
      rw [← HV.out]
      go_wp2_with fail
      refine (most_any s w1 hs2 HT.out).mono ?_
      rintro e w2 ⟨rfl, q, hw2⟩
      rw [HM.out]
      go_wp2
      all_goals
        first
        | rw [show ((k : Int) + (M : Int)).toNat - k = hi - k by omega]
        | rw [show l.length - k = hi - k by omega]
        have HRL : Hid (((l.drop k).take (hi - k)).length = hi - k) := by show _ = _; rw [List.length_take, List.length_drop]; omega
        obtain ⟨N, hN⟩ : ∃ N, N = hi - k := ⟨_, rfl⟩
        obtain ⟨R, HRR⟩ : ∃ R, Hid (R = (l.drop k).take (hi - k)) := ⟨_, rfl⟩
        have hNb : N ≤ 1048576 := by omega
        rw [← HRR.out] at HW HRW HRL
        rw [← hN] at HW HRL ⊢
        have HSR : Hid (SI w1 (.slice (some ⟨b, o + k, none⟩) R.length (cap - k)) R) := by rw [HRL.out]; exact HW.out
        have HLR : Hid (R.length = N) := HRL.out
        clear HT0 HMM HV HR HM HW HS HRL hN hhi hi1 hi2 hM hlk HRR
        go_loopw [34] (fun i wr => ∃ j : Nat, j ≤ N ∧ i = .int .i64 j ∧ wr = w1.drewN q ∧ Hid (j ≤ eqn V R)) (fun i _ => N - (intOf i).toNat)
        case atStart => exact ⟨0, Nat.zero_le _, rfl, rfl, Nat.zero_le _⟩
        case round =>
          obtain ⟨j, hj, rfl, hw, HJ⟩ := hrel
          subst hw
          by_cases hlt : j < N
          · have hlt' : (j : Int) < (N : Int) := by omega
            obtain ⟨b2, o2, hbo, hc⟩ := HSR.out.get (w := w1.drewN q) (below_drewN (Below.refl _ _) q) (k := j) (by rw [HLR.out]; exact hlt)
            simp only [Option.some.injEq, Addr.mk.injEq, and_true] at hbo
            obtain ⟨rfl, rfl⟩ := hbo
            have HG := hide (eqn_go HJ.out (by rw [HLR.out]; exact hlt))
            obtain ⟨y, HY⟩ : ∃ y, Hid (y = R.getD j 0) := ⟨_, rfl⟩
            rw [← HY.out] at hc HG
            by_cases hy : y = V
            · subst hy
              have HJ2 := hide (HG.out.1 rfl)
              go_wp2
              go_roundw
              case rel => exact ⟨j + 1, by omega, by go_num, trivial, HJ2⟩
              case measure => simp [intOf]; omega
            · have hy' : (y != V) = true := by simpa using hy
              have HE : Hid (rch s l k = j) := by show _ = _; rw [HRW.out]; exact HG.out.2 hy
              go_wp2
              go_ret
              rw [HE.out]
              exact ⟨rfl, q, rfl⟩
          · obtain rfl : j = N := by omega
            have hlt' : ¬ (j : Int) < (j : Int) := by omega
            have HE : Hid (rch s l k = j) := by show _ = _; rw [HRW.out, eqn_end (by rw [HLR.out]; exact HJ.out)]; exact HLR.out
            go_wp2
            go_ret
            rw [HE.out]
            exact ⟨rfl, q, rfl⟩
end Go.Proofs.YtegoienjikjhkaaDoor

namespace Go.Proofs.YtegoienjikjhkaaDoor
open Go.RowKit Go.Maps
set_option maxRecDepth 20000
set_option linter.unusedVariables false

/-- What a round of Runs stands on. -/
structure Rsr (w wr : World) (l : List Int) (ao : Option Addr) (cap : Nat) (u : Value) (R : List Rn) : Prop where
  si : SI wr (.slice ao l.length cap) l
  tab : Tab wr
  row : OR wr w.heap.size u R
  bel : Below w.heap.size w wr

theorem Rsr.draw {w wr : World} {l : List Int} {ao : Option Addr} {cap : Nat} {u : Value} {R : List Rn} (h : Rsr w wr l ao cap u R) (q : Nat) : Rsr w (wr.drewN q) l ao cap u R :=
  ⟨h.si, h.tab.drewN q, h.row.drewN q, below_drewN h.bel q⟩

theorem Rsr.cells {w wr : World} {l : List Int} {ao : Option Addr} {cap : Nat} {u : Value} {R : List Rn} (h : Rsr w wr l ao cap u R) : wr.cell? ⟨0, 18, none⟩ = some (.int .i64 11) ∧ wr.cell? ⟨0, 17, none⟩ = some (.int .i64 3) ∧ wr.cell? ⟨0, 16, none⟩ = some (.int .i64 3) :=
  ⟨h.tab.least 18 (by omega), h.tab.least 17 (by omega), h.tab.least 16 (by omega)⟩

theorem reach18 (k : Nat) (l : List Int) (w wr : World) (ao : Option Addr) (cap : Nat) (u : Value) (R : List Rn) (h : Rsr w wr l ao cap u R) (hk : k < l.length) (hn : l.length ≤ 1048576) :
    Calls Tryd.prog 40 #[.int .i64 18, .slice ao l.length cap, .int .i64 k] wr fun e w' => e = .returned (.int .i64 (n18 l k : Nat)) ∧ Rsr w w' l ao cap u R := by
  have := reach_any 18 k _ l wr h.si h.tab (by omega) (by omega) hk hn
  rw [rch_18] at this
  exact this.mono fun e w' ⟨he, q, hw⟩ => ⟨he, by rw [hw]; exact h.draw q⟩

theorem reach17 (k : Nat) (l : List Int) (w wr : World) (ao : Option Addr) (cap : Nat) (u : Value) (R : List Rn) (h : Rsr w wr l ao cap u R) (hk : k < l.length) (hn : l.length ≤ 1048576) :
    Calls Tryd.prog 40 #[.int .i64 17, .slice ao l.length cap, .int .i64 k] wr fun e w' => e = .returned (.int .i64 (n17 l k : Nat)) ∧ Rsr w w' l ao cap u R := by
  have := reach_any 17 k _ l wr h.si h.tab (by omega) (by omega) hk hn
  rw [rch_17] at this
  exact this.mono fun e w' ⟨he, q, hw⟩ => ⟨he, by rw [hw]; exact h.draw q⟩

theorem reach16 (k : Nat) (l : List Int) (w wr : World) (ao : Option Addr) (cap : Nat) (u : Value) (R : List Rn) (h : Rsr w wr l ao cap u R) (hk : k < l.length) (hn : l.length ≤ 1048576) :
    Calls Tryd.prog 40 #[.int .i64 16, .slice ao l.length cap, .int .i64 k] wr fun e w' => e = .returned (.int .i64 (n16 l k : Nat)) ∧ Rsr w w' l ao cap u R := by
  have := reach_any 16 k _ l wr h.si h.tab (by omega) (by omega) hk hn
  rw [rch_16 hk] at this
  exact this.mono fun e w' ⟨he, q, hw⟩ => ⟨he, by rw [hw]; exact h.draw q⟩

theorem Rsr.more {w wr w3 : World} {l : List Int} {ao : Option Addr} {cap : Nat} {u u3 : Value} {R : List Rn} {p : Rn} {o : Obj} (h : Rsr w wr l ao cap u R) (h0 : SI w (.slice ao l.length cap) l) (t0 : Tab w) (ho : OR w3 w.heap.size u3 (R ++ [p])) (hg : (wr.alloc o).grownBy w3 u.ownBlock) : Rsr w w3 l ao cap u3 (R ++ [p]) := by
  have hb := grow_run h.bel (Nat.le_refl _) h.row hg
  exact ⟨h0.below hb, t0.mono hb, ho, hb⟩

theorem n18_le {l : List Int} {k : Nat} : n18 l k ≤ 138 := by unfold n18; omega
theorem n17_le {l : List Int} {k : Nat} : n17 l k ≤ 10 := by unfold n17; omega
theorem n16_le {l : List Int} {k : Nat} : n16 l k ≤ 6 := by unfold n16; split <;> omega

/-- What one run more means. -/
theorem rns_more {l : List Int} {k c : Nat} {R : List Rn} {p1 : Int} (hk : k < l.length) (hR : rns l = R ++ rnK l k) (hl : R.length ≤ k) (hp : run1 l k = (p1, (c : Int))) : k + c ≤ l.length ∧ 1 ≤ c ∧ c ≤ 138 ∧ rns l = (R ++ [(p1, (c : Int))]) ++ rnK l (k + c) ∧ (R ++ [(p1, (c : Int))]).length ≤ k + c := by
  obtain ⟨c', e, c1, c2, c3⟩ := run1_cnt hk
  rw [hp] at e
  have : c = c' := by simp only at e; omega
  subst this
  refine ⟨c2, c1, c3, ?_, by rw [List.length_append]; simp; omega⟩
  rw [hR, rnK_step hk (by rw [hp]), hp, List.append_assoc]
  rfl

theorem ix0 : ∀ w : World, (Instr.index 82 (.agg #[.int .i64 18, .int .i64 17, .int .i64 16]) (.int .i64 0)).run Tryd.prog w = .ok (.int .i64 18) w := fun _ => by kernel_rfl
theorem ix1 : ∀ w : World, (Instr.index 82 (.agg #[.int .i64 18, .int .i64 17, .int .i64 16]) (.int .i64 1)).run Tryd.prog w = .ok (.int .i64 17) w := fun _ => by kernel_rfl
theorem ix2 : ∀ w : World, (Instr.index 82 (.agg #[.int .i64 18, .int .i64 17, .int .i64 16]) (.int .i64 2)).run Tryd.prog w = .ok (.int .i64 16) w := fun _ => by kernel_rfl

set_option maxHeartbeats 4000000 in
theorem runs_any (v : Value) (l : List Int) (w : World) (h : SI w v l) (T : Tab w) (hn : l.length ≤ 1048576) :
    Calls Tryd.prog 25 #[v] w fun e w' => ∃ u, e = .returned (.tuple #[u, .int .i64 (rnE l)]) ∧ OR w' w.heap.size u (rnL l) ∧ Below w.heap.size w w' := by
  have HS := hide h
  have HT := hide T
  have i0 := ix0
  have i1 := ix1
  have i2 := ix2
  obtain ⟨ao, cap, rfl, hlc, hcm⟩ := h.open
  clear h T
  go_enter Tryd.func25, Tryd.ntmps25
  go_wp2_with fail
  go_step3
  go_wp2_with fail
  refine (codeLengths_any _ l w HS.out).mono ?_
  rintro e w1 ⟨rfl, hw1⟩
  subst hw1
  by_cases hw : wthb l = true
  · have HE : Hid (rnE l = 0 ∧ rnL l = rns l) := ⟨by unfold rnE; rw [if_pos hw], by unfold rnL; rw [if_pos hw]⟩
    rw [hw]
    go_wp2
    go_step3
    go_wp2
    go_loopw [4, 5] (fun u i wr => ∃ (k : Nat) (R : List Rn), k ≤ l.length ∧ i = .int .i64 k ∧ R.length ≤ k ∧ Hid (rns l = R ++ rnK l k) ∧ Hid (Rsr w1 wr l ao cap u R)) (fun _ i _ => l.length - (intOf i).toNat)
    case atStart => exact ⟨0, [], Nat.zero_le _, rfl, Nat.le_refl _, rfl, HS.out, HT.out, OR.nil _ _, Below.refl _ _⟩
    case round =>
      obtain ⟨k, R, hk, rfl, hR, HR, HST⟩ := hrel
      by_cases hlt : k < l.length
      · have hlt' : (k : Int) < (l.length : Int) := by omega
        obtain ⟨pA, pB, pC, pD⟩ := run_pick hlt
        obtain ⟨a1, p1, hu, _⟩ := HST.out.row.shape
        subst hu
        have H18 := hide (fun wr h => reach18 k l w1 wr ao cap (.slice a1 R.length p1) R h hlt hn)
        have H17 := hide (fun wr h => reach17 k l w1 wr ao cap (.slice a1 R.length p1) R h hlt hn)
        have H16 := hide (fun wr h => reach16 k l w1 wr ao cap (.slice a1 R.length p1) R h hlt hn)
        have b18 := n18_le (l := l) (k := k)
        have b17 := n17_le (l := l) (k := k)
        have b16 := n16_le (l := l) (k := k)
        obtain ⟨N18, hN18⟩ : ∃ N, N = n18 l k := ⟨_, rfl⟩
        obtain ⟨N17, hN17⟩ : ∃ N, N = n17 l k := ⟨_, rfl⟩
        obtain ⟨N16, hN16⟩ : ∃ N, N = n16 l k := ⟨_, rfl⟩
        rw [← hN18] at H18 pA pB pC pD b18
        rw [← hN17] at H17 pB pC pD b17
        rw [← hN16] at H16 pC pD b16
        clear hN18 hN17 hN16
        by_cases hA : 11 ≤ N18
        · obtain ⟨hm1, hm2, hm3, hm4, hm5⟩ := rns_more hlt HR.out hR (pA hA)
          have HM4 := hide hm4
          clear pA pB pC pD hm4 HR
          go_wp2
          refine wp_loop_rounds 4 ?_
          rw [rounds_succ]
          go_wp2_with fail
          refine (H18.out _ HST.out).mono ?_
          rintro e w18 ⟨rfl, hs18⟩
          replace HST := hide hs18
          obtain ⟨c18, c17, c16⟩ := hs18.cells
          clear hs18
          have HOR := hide HST.out.row
          have hbw := HST.out.bel.size
          go_wp2_with (at_builtin; refine wpRun rfl _ _ rfl w1.heap.size (.slice a1 R.length p1) R 18 (N18 : Int) rfl HOR.out _ rfl (by omega) hbw ?_)
          intro v3 w3 ho3 hg3
          have HN3 := hide (HST.out.more HS.out HT.out ho3 hg3)
          clear ho3 hg3
          go_wp2
          go_roundw
          case rel => exact ⟨k + N18, _, hm1, by go_num, hm5, HM4, HN3⟩
          case measure => simp [intOf]; omega
        · by_cases hB : 3 ≤ N17
          · obtain ⟨hm1, hm2, hm3, hm4, hm5⟩ := rns_more hlt HR.out hR (pB (by omega) hB)
            have HM4 := hide hm4
            clear pA pB pC pD hm4 HR
            go_wp2
            refine wp_loop_rounds 4 ?_
            rw [rounds_succ]
            go_wp2_with fail
            refine (H18.out _ HST.out).mono ?_
            rintro e w18 ⟨rfl, hs18⟩
            replace HST := hide hs18
            obtain ⟨c18, c17, c16⟩ := hs18.cells
            clear hs18
            go_wp2
            rw [rounds_succ]
            go_wp2_with fail
            refine (H17.out _ HST.out).mono ?_
            rintro e w17 ⟨rfl, hs17⟩
            replace HST := hide hs17
            obtain ⟨c18, c17, c16⟩ := hs17.cells
            clear hs17
            have HOR := hide HST.out.row
            have hbw := HST.out.bel.size
            go_wp2_with (at_builtin; refine wpRun rfl _ _ rfl w1.heap.size (.slice a1 R.length p1) R 17 (N17 : Int) rfl HOR.out _ rfl (by omega) hbw ?_)
            intro v3 w3 ho3 hg3
            have HN3 := hide (HST.out.more HS.out HT.out ho3 hg3)
            clear ho3 hg3
            go_wp2
            go_roundw
            case rel => exact ⟨k + N17, _, hm1, by go_num, hm5, HM4, HN3⟩
            case measure => simp [intOf]; omega
          · by_cases hC : 3 ≤ N16
            · obtain ⟨hm1, hm2, hm3, hm4, hm5⟩ := rns_more hlt HR.out hR (pC (by omega) (by omega) hC)
              have HM4 := hide hm4
              clear pA pB pC pD hm4 HR
              go_wp2
              refine wp_loop_rounds 4 ?_
              rw [rounds_succ]
              go_wp2_with fail
              refine (H18.out _ HST.out).mono ?_
              rintro e w18 ⟨rfl, hs18⟩
              replace HST := hide hs18
              obtain ⟨c18, c17, c16⟩ := hs18.cells
              clear hs18
              go_wp2
              rw [rounds_succ]
              go_wp2_with fail
              refine (H17.out _ HST.out).mono ?_
              rintro e w17 ⟨rfl, hs17⟩
              replace HST := hide hs17
              obtain ⟨c18, c17, c16⟩ := hs17.cells
              clear hs17
              go_wp2
              rw [rounds_succ]
              go_wp2_with fail
              refine (H16.out _ HST.out).mono ?_
              rintro e w16 ⟨rfl, hs16⟩
              replace HST := hide hs16
              obtain ⟨c18, c17, c16⟩ := hs16.cells
              clear hs16
              have HOR := hide HST.out.row
              have hbw := HST.out.bel.size
              go_wp2_with (at_builtin; refine wpRun rfl _ _ rfl w1.heap.size (.slice a1 R.length p1) R 16 (N16 : Int) rfl HOR.out _ rfl (by omega) hbw ?_)
              intro v3 w3 ho3 hg3
              have HN3 := hide (HST.out.more HS.out HT.out ho3 hg3)
              clear ho3 hg3
              go_wp2
              go_roundw
              case rel => exact ⟨k + N16, _, hm1, by go_num, hm5, HM4, HN3⟩
              case measure => simp [intOf]; omega
            · obtain ⟨b, o, rfl, hc⟩ := HS.out.get HST.out.bel hlt
              obtain ⟨hm1, hm2, hm3, hm4, hm5⟩ := rns_more (c := 1) hlt HR.out hR (pD (by omega) (by omega) (by omega))
              obtain ⟨y, HY⟩ : ∃ y, Hid (y = l.getD k 0) := ⟨_, rfl⟩
              rw [← HY.out] at hm4 hm5
              have HM4 := hide hm4
              clear pA pB pC pD hm4 HR hc
              go_wp2
              refine wp_loop_rounds 4 ?_
              rw [rounds_succ]
              go_wp2_with fail
              refine (H18.out _ HST.out).mono ?_
              rintro e w18 ⟨rfl, hs18⟩
              replace HST := hide hs18
              obtain ⟨c18, c17, c16⟩ := hs18.cells
              clear hs18
              go_wp2
              rw [rounds_succ]
              go_wp2_with fail
              refine (H17.out _ HST.out).mono ?_
              rintro e w17 ⟨rfl, hs17⟩
              replace HST := hide hs17
              obtain ⟨c18, c17, c16⟩ := hs17.cells
              clear hs17
              go_wp2
              rw [rounds_succ]
              go_wp2_with fail
              refine (H16.out _ HST.out).mono ?_
              rintro e w16 ⟨rfl, hs16⟩
              replace HST := hide hs16
              obtain ⟨c18, c17, c16⟩ := hs16.cells
              clear hs16
              go_wp2
              rw [rounds_succ]
              obtain ⟨b', o', hbo, hc⟩ := HS.out.get HST.out.bel hlt
              simp only [Option.some.injEq, Addr.mk.injEq, and_true] at hbo
              obtain ⟨rfl, rfl⟩ := hbo
              rw [← HY.out] at hc
              have HOR := hide HST.out.row
              have hbw := HST.out.bel.size
              go_wp2_with (at_builtin; refine wpRun rfl _ _ rfl w1.heap.size (.slice a1 R.length p1) R y 1 rfl HOR.out _ rfl (by omega) hbw ?_)
              intro v3 w3 ho3 hg3
              have HN3 := hide (HST.out.more HS.out HT.out ho3 hg3)
              clear ho3 hg3
              go_wp2
              go_roundw
              case rel => exact ⟨k + 1, _, hm1, by go_num, hm5, HM4, HN3⟩
              case measure => simp [intOf]; omega
      · obtain rfl : k = l.length := by omega
        have hlt' : ¬ (l.length : Int) < (l.length : Int) := by omega
        have HF : Hid (OR wr w1.heap.size u4 (rnL l)) := by
          have := HR.out
          rw [rnK_end (Nat.le_refl _), List.append_nil] at this
          show OR _ _ _ _
          rw [HE.out.2, this]
          exact HST.out.row
        go_wp2
        go_ret2
        rw [HE.out.1]
        exact ⟨_, rfl, HF.out, HST.out.bel⟩
  · have HE : Hid (rnE l = 1 ∧ rnL l = []) := ⟨by unfold rnE; rw [if_neg hw], by unfold rnL; rw [if_neg hw]⟩
    have hw' : wthb l = false := by simpa using hw
    rw [hw']
    go_wp2
    (try simp only [Exit.noGoto_ret])
    go_ret2
    rw [HE.out.1, HE.out.2]
    exact ⟨_, rfl, OR.nil _ _, Below.refl _ _⟩
end Go.Proofs.YtegoienjikjhkaaDoor

