import Derived.Test.YtfoglaajnlbnbaaGreatDoorG20Chk
import Derived.WalkMore
import Derived.Test.YtfoglaajnlbnbaaGreatDoorG16Nde
namespace Go.Proofs.YtfoglaajnlbnbaaGreatDoor
open Go.RowKit Go.Maps
set_option maxRecDepth 20000
set_option linter.unusedVariables false

def zor : List Int := [16, 17, 18, 0, 8, 7, 9, 6, 10, 5, 11, 4, 12, 3, 13, 2, 14, 1, 15]
theorem zor_at : ∀ n : Nat, n < 19 → 0 ≤ zor.getD n 0 ∧ zor.getD n 0 < 19 := by decide

structure Odr (w : World) : Prop where
  get : ∀ i : Nat, i < 19 → w.cell? ⟨3, i, none⟩ = some (.int .i64 (zor.getD i 0))

theorem Odr.mono {w w' : World} (h : Odr w) (hb : Below w.heap.size w w') : Odr w' := ⟨fun i hi => (hb.cell (World.block_lt_of_cell? w _ (h.get i hi))).trans (h.get i hi)⟩

def hck (l d : List Int) : Int := if l.getD 256 0 = 0 ∨ (chkS l ≠ 4 ∧ chkS l ≠ 1) then 75 else if chkS d ≠ 4 ∧ chkS d ≠ 1 ∧ chkS d ≠ 0 then 76 else 0

set_option maxHeartbeats 1000000 in
theorem hcheck_any (v1 v2 : Value) (l1 l2 : List Int) (w : World) (s1 : SI w v1 l1) (s2 : SI w v2 l2) (hl : 257 ≤ l1.length) :
    Calls Tryz.prog 143 #[v1, v2] w fun e w' => e = .returned (.int .i64 (hck l1 l2)) ∧ Below w.heap.size w w' := by
  have H1 := hide s1
  have H2 := hide s2
  obtain ⟨a1, c1, rfl, hc1, hd1⟩ := s1.open
  obtain ⟨a2, c2, rfl, hc2, hd2⟩ := s2.open
  clear s1 s2
  have hl' : (256 : Int) < (l1.length : Int) := by omega
  go_enter Tryz.func143, Tryz.ntmps143
  go_wp2_with fail
  refine (check_any _ l1 w H1.out).mono ?_
  rintro e w1 ⟨rfl, b1⟩
  obtain ⟨b, o, rfl, hc⟩ := H1.out.get b1 (k := 256) (by omega)
  have HB1 := hide b1
  have H21 := hide (H2.out.below b1)
  have HK : Hid (hck l1 l2 = if l1.getD 256 0 = 0 ∨ (chkS l1 ≠ 4 ∧ chkS l1 ≠ 1) then 75 else if chkS l2 ≠ 4 ∧ chkS l2 ≠ 1 ∧ chkS l2 ≠ 0 then 76 else 0) := rfl
  obtain ⟨y, HY⟩ : ∃ y, Hid (y = l1.getD 256 0) := ⟨_, rfl⟩
  obtain ⟨S, HSS⟩ : ∃ S, Hid (S = chkS l1) := ⟨_, rfl⟩
  rw [← HY.out] at hc HK
  rw [← HSS.out] at HK ⊢
  clear b1
  by_cases y0 : y = 0
  · have HR : Hid (hck l1 l2 = 75) := by show _ = _; rw [HK.out, if_pos (.inl y0)]
    subst y0
    go_wp2
    go_ret
    rw [HR.out]
    exact ⟨rfl, HB1.out⟩
  · have y0' : (y == 0) = false := by simpa using y0
    by_cases sok : S = 4 ∨ S = 1
    · have HK2 : Hid (hck l1 l2 = if chkS l2 ≠ 4 ∧ chkS l2 ≠ 1 ∧ chkS l2 ≠ 0 then 76 else 0) := by show _ = _; rw [HK.out, if_neg (by omega)]
      have HCK := hide (check_any _ l2 w1 H21.out)
      obtain ⟨U, HU⟩ : ∃ U, Hid (U = chkS l2) := ⟨_, rfl⟩
      rw [← HU.out] at HK2 HCK
      have tail : ∀ (Z : Prop), Z → Z := fun _ z => z
      rcases sok with rfl | rfl
      all_goals
        go_wp2_with fail
        refine HCK.out.mono ?_
        rintro e w2 ⟨rfl, b2⟩
        have HB2 := hide (HB1.out.trans (b2.mono HB1.out.size))
        clear b2
        by_cases u4 : U = 4
        · have HR : Hid (hck l1 l2 = 0) := by show _ = _; rw [HK2.out, if_neg (by omega)]
          subst u4
          go_wp2
          go_ret
          rw [HR.out]
          exact ⟨rfl, HB2.out⟩
        · have u4' : (U != 4) = true := by simpa using u4
          by_cases u1 : U = 1
          · have HR : Hid (hck l1 l2 = 0) := by show _ = _; rw [HK2.out, if_neg (by omega)]
            subst u1
            go_wp2
            go_ret
            rw [HR.out]
            exact ⟨rfl, HB2.out⟩
          · have u1' : (U != 1) = true := by simpa using u1
            by_cases u0 : U = 0
            · have HR : Hid (hck l1 l2 = 0) := by show _ = _; rw [HK2.out, if_neg (by omega)]
              subst u0
              go_wp2
              go_ret
              rw [HR.out]
              exact ⟨rfl, HB2.out⟩
            · have u0' : (U != 0) = true := by simpa using u0
              have HR : Hid (hck l1 l2 = 76) := by show _ = _; rw [HK2.out, if_pos ⟨u4, u1, u0⟩]
              go_wp2
              go_ret
              rw [HR.out]
              exact ⟨rfl, HB2.out⟩
    · have s4 : (S != 4) = true := by simp; omega
      have s1 : (S != 1) = true := by simp; omega
      have HR : Hid (hck l1 l2 = 75) := by show _ = _; rw [HK.out, if_pos (.inr (by omega))]
      go_wp2
      go_ret
      rw [HR.out]
      exact ⟨rfl, HB1.out⟩

def usg (R : List Rn) : List Int := (List.range 19).map fun (s : Nat) => (((R.map (·.1)).count (s : Int) : Nat) : Int)
theorem usg_len (R : List Rn) : (usg R).length = 19 := by simp [usg]
theorem usg_at (R : List Rn) {s : Nat} (h : s < 19) : (usg R).getD s 0 = (((R.map (·.1)).count (s : Int) : Nat) : Int) := by
  simp only [usg, List.getD_eq_getElem?_getD, List.getElem?_map, List.getElem?_range h]
  rfl
theorem usg_nil : usg [] = List.replicate 19 0 := by decide
theorem usg_snoc (R : List Rn) (s : Nat) (c : Int) (h : s < 19) : usg (R ++ [((s : Int), c)]) = (usg R).set s ((usg R).getD s 0 + 1) := by
  apply List.ext_getElem?
  intro i
  rw [List.getElem?_set, usg_len]
  by_cases hi : i < 19
  · have e1 : (usg (R ++ [((s : Int), c)]))[i]? = some ((usg (R ++ [((s : Int), c)])).getD i 0) := by
      rw [List.getD_eq_getElem?_getD, List.getElem?_eq_getElem (by rw [usg_len]; exact hi)]; rfl
    have e2 : (usg R)[i]? = some ((usg R).getD i 0) := by
      rw [List.getD_eq_getElem?_getD, List.getElem?_eq_getElem (by rw [usg_len]; exact hi)]; rfl
    rw [e1, usg_at _ hi, List.map_append, List.count_append]
    by_cases q : s = i
    · subst q
      rw [if_pos rfl, if_pos h, usg_at _ h]
      simp
    · rw [if_neg q, e2, usg_at _ hi]
      have : List.count (i : Int) [(s : Int)] = 0 := by rw [List.count_eq_zero]; simp; omega
      simp only [List.map_cons, List.map_nil, this]
      simp
  · rw [List.getElem?_eq_none (by rw [usg_len]; omega)]
    by_cases q : s = i
    · rw [if_pos q, if_neg (by omega)]
    · rw [if_neg q, List.getElem?_eq_none (by rw [usg_len]; omega)]

theorem usg_le (R : List Rn) (s : Nat) (h : s < 19) : 0 ≤ (usg R).getD s 0 ∧ (usg R).getD s 0 ≤ R.length := by
  rw [usg_at R h]
  have := List.count_le_length (a := (s : Int)) (l := R.map (·.1))
  rw [List.length_map] at this
  omega

set_option maxHeartbeats 1000000 in
theorem huses_any (v : Value) (R : List Rn) (w : World) (h : SR w v R) (hok : ∀ r ∈ R, Okr r) (hn : R.length ≤ 1048576) :
    Calls Tryz.prog 146 #[v] w fun e w' => ∃ g, e = .returned (.slice (some ⟨g, 0, none⟩) 19 19) ∧ OI w' w.heap.size (.slice (some ⟨g, 0, none⟩) 19 19) (usg R) ∧ Below w.heap.size w w' := by
  have HS := hide h
  have HOK := hide hok
  obtain ⟨ao, cap, rfl, hlc, hcm⟩ := h.open
  clear h hok
  go_enter Tryz.func146, Tryz.ntmps146
  go_wp2_with (at_make; refine wpList_mkI rfl _ _ rfl _ _ _ _ 19 19 rfl rfl rfl rfl (Nat.le_refl _) (by omega) ?_)
  intro w1 hg1 hb1
  have HO1 : Hid (OI w1 w.heap.size (.slice (some ⟨w.heap.size, 0, none⟩) 19 19) (usg [])) := by
    rw [usg_nil]
    exact hide (OI.of_full (l := List.replicate 19 0) (by rw [hg1]; rfl) (Nat.le_refl _) (by unfold maxLen; simp))
  have HB1 := hide hb1
  clear hg1 hb1
  go_wp2
  go_loopw [9] (fun i wr => ∃ k : Nat, k ≤ R.length ∧ i = .int .i64 k ∧ Hid (OI wr w.heap.size (.slice (some ⟨w.heap.size, 0, none⟩) 19 19) (usg (R.take k))) ∧ Hid (Below w.heap.size w wr)) (fun i _ => R.length - (intOf i).toNat)
  case atStart => exact ⟨0, Nat.zero_le _, rfl, HO1.out, HB1.out⟩
  case round =>
    obtain ⟨k, hk, rfl, HO, HB⟩ := hrel
    by_cases hlt : k < R.length
    · have hlt' : (k : Int) < (R.length : Int) := by omega
      obtain ⟨b, o, rfl, c1, c2⟩ := HS.out.get HB.out hlt
      have ok : Okr (R.getD k rn0) := HOK.out _ (by rw [show R.getD k rn0 = R[k] by simp [hlt]]; exact List.getElem_mem hlt)
      have h1 := ok.1
      have h2 := ok.2.1
      have HSN : Hid (R.take (k + 1) = R.take k ++ [R.getD k rn0]) := by show _ = _; rw [List.take_succ_eq_append_getElem hlt]; simp [hlt]
      obtain ⟨r, hr⟩ : ∃ r, r = R.getD k rn0 := ⟨_, rfl⟩
      rw [← hr] at c1 c2 h1 h2 HSN
      obtain ⟨s', c⟩ := r
      simp only at c1 c2 h1 h2
      obtain ⟨s, rfl⟩ := Int.eq_ofNat_of_zero_le h1
      have hs : s < 19 := by omega
      have hs' : (s : Int) < 19 := by omega
      clear hr ok h1 h2
      obtain ⟨wx, hwx⟩ : ∃ wx, wr.alloc (.cells #[.int .i64 s, .int .i64 c] 182) = wx := ⟨_, rfl⟩
      have HBX : Hid (Below w.heap.size w wx) := by rw [← hwx]; exact hide (HB.out.alloc HB.out.size _)
      have HOX : Hid (OI wx w.heap.size (.slice (some ⟨w.heap.size, 0, none⟩) 19 19) (usg (R.take k))) := by rw [← hwx]; exact hide (HO.out.alloc _)
      have z0 : wx.cell? ⟨wr.heap.size, 0, none⟩ = some (.int .i64 s) := by rw [← hwx]; unfold World.cell?; simp only [heap_alloc_new]; rfl
      have y0 := HOX.out.get (b := w.heap.size) rfl (i := s) (by rw [usg_len]; exact hs)
      have hbd := usg_le (R.take k) s hs
      obtain ⟨g, cc, hv, _, hfz, hput⟩ := HOX.out.put (k := s) (by rw [usg_len]; exact hs) ((usg (R.take k)).getD s 0 + 1)
      simp only [Value.slice.injEq, Option.some.injEq, Addr.mk.injEq, and_true] at hv
      obtain ⟨rfl, -, -⟩ := hv
      rw [← usg_snoc (R.take k) s c hs, ← HSN.out] at hput
      have HP := hide hput
      have hRl : (R.take k).length ≤ 1048576 := by rw [List.length_take]; omega
      obtain ⟨Y, hY⟩ : ∃ Y, Y = (usg (R.take k)).getD s 0 := ⟨_, rfl⟩
      rw [← hY] at y0 hbd HP
      have hY1 : 0 ≤ Y := hbd.1
      have hY2 : Y ≤ 1048576 := by omega
      have HBN : Hid (Below w.heap.size w (wx.setCell ⟨w.heap.size, s, none⟩ (.int .i64 (Y + 1)))) := HBX.out.setCell (p := ⟨w.heap.size, s, none⟩) (Nat.le_refl _) _
      clear hput hY hbd
      go_wp2
      go_roundw
      case rel => exact ⟨k + 1, by omega, by go_num, HP, HBN⟩
      case measure => simp [intOf]; omega
    · obtain rfl : k = R.length := by omega
      have hlt' : ¬ (R.length : Int) < (R.length : Int) := by omega
      have HF : Hid (OI wr w.heap.size (.slice (some ⟨w.heap.size, 0, none⟩) 19 19) (usg R)) := by have := HO.out; rwa [List.take_of_length_le (Nat.le_refl _)] at this
      go_wp2
      go_ret
      exact ⟨_, rfl, HF.out, HB.out⟩
end Go.Proofs.YtfoglaajnlbnbaaGreatDoor

namespace Go.Proofs.YtfoglaajnlbnbaaGreatDoor
open Go.RowKit Go.Maps
set_option maxRecDepth 20000
set_option linter.unusedVariables false

def wrn (c : List Int) : Nat → Nat
  | 0 => 0
  | n + 1 => if 4 < n + 1 ∧ c.getD (zor.getD n 0).toNat 0 = 0 then wrn c n else n + 1
def wrt (c : List Int) : Nat := wrn c 19

theorem wrn_le (c : List Int) : ∀ n, wrn c n ≤ n
  | 0 => Nat.le_refl _
  | n + 1 => by simp only [wrn]; split
                · have := wrn_le c n; omega
                · exact Nat.le_refl _
theorem wrt_le (c : List Int) : wrt c ≤ 19 := wrn_le c 19
theorem wrn_ge (c : List Int) : ∀ n, 4 ≤ n → 4 ≤ wrn c n
  | 0, h => h
  | n + 1, h => by simp only [wrn]; split
                   · rename_i q; exact wrn_ge c n (by omega)
                   · exact h
theorem wrt_ge (c : List Int) : 4 ≤ wrt c := wrn_ge c 19 (by omega)

set_option maxHeartbeats 1000000 in
theorem written_any (v : Value) (c : List Int) (w : World) (h : SI w v c) (O : Odr w) (hc : c.length = 19) :
    Calls Tryz.prog 148 #[v] w fun e w' => e = .returned (.int .i64 (wrt c : Nat)) ∧ w' = w := by
  have HS := hide h
  have HO := hide O
  obtain ⟨ao, cap, rfl, hlc, hcm⟩ := h.open
  clear h O
  go_enter Tryz.func148, Tryz.ntmps148
  go_wp2
  go_loopw [3] (fun i wr => ∃ k : Nat, k ≤ 19 ∧ 4 ≤ k ∧ i = .int .i64 k ∧ wr = w ∧ Hid (wrt c = wrn c k)) (fun i _ => (intOf i).toNat)
  case atStart => exact ⟨19, Nat.le_refl _, by omega, rfl, rfl, rfl⟩
  case round =>
    obtain ⟨k, hk, hk4, rfl, hw, HK⟩ := hrel
    subst hw
    by_cases hlt : 4 < k
    · have hlt' : (4 : Int) < (k : Int) := by omega
      obtain ⟨j, rfl⟩ : ∃ j, k = j + 1 := ⟨k - 1, by omega⟩
      have hj19 : (j : Int) < 19 := by omega
      have o1 := HO.out.get j (by omega)
      have o2 := zor_at j (by omega)
      have HT : Hid (wrn c (j + 1) = if c.getD (zor.getD j 0).toNat 0 = 0 then wrn c j else j + 1) := by
        show _ = _
        simp only [wrn]
        by_cases q : c.getD (zor.getD j 0).toNat 0 = 0
        · rw [if_pos ⟨hlt, q⟩, if_pos q]
        · rw [if_neg (fun z => q z.2), if_neg q]
      obtain ⟨z', hz⟩ : ∃ z', z' = zor.getD j 0 := ⟨_, rfl⟩
      rw [← hz] at o1 o2 HT
      obtain ⟨z, rfl⟩ := Int.eq_ofNat_of_zero_le o2.1
      rw [Int.toNat_natCast] at HT
      have hzl : (z : Int) < (c.length : Int) := by rw [hc]; exact o2.2
      obtain ⟨b, o, rfl, hcz⟩ := HS.out.get (Below.refl _ _) (k := z) (by omega)
      obtain ⟨y, HY⟩ : ∃ y, Hid (y = c.getD z 0) := ⟨_, rfl⟩
      rw [← HY.out] at hcz HT
      have ej : ((j : Int) + 1 - 1) = (j : Int) := by omega
      clear hz o2
      by_cases hy : y = 0
      · subst hy
        have HK2 : Hid (wrt c = wrn c j) := by show _ = _; rw [HK.out, HT.out, if_pos rfl]
        go_wp2
        go_roundw
        case rel => exact ⟨j, by omega, by omega, rfl, HK2⟩
        case measure => simp [intOf]; omega
      · have hy' : (y == 0) = false := by simpa using hy
        have HK2 : Hid (wrt c = j + 1) := by show _ = _; rw [HK.out, HT.out, if_neg hy]
        go_wp2
        go_ret
        rw [HK2.out]
        exact ⟨by go_num, rfl⟩
    · obtain rfl : k = 4 := by omega
      have HK2 : Hid (wrt c = 4) := by
        show _ = _
        have h1 := wrt_ge c
        have h2 := wrn_le c 4
        have h3 := HK.out
        omega
      go_wp2
      go_ret
      rw [HK2.out]
      exact ⟨rfl, rfl⟩

def rsz (C : List Int) : List Rn → Int
  | [] => 0
  | r :: R => C.getD r.1.toNat 0 + (frt r.1 : Nat) + rsz C R
def hsz (C : List Int) (R : List Rn) : Int := 14 + 3 * (wrt C : Int) + rsz C R

theorem rsz_snoc (C : List Int) (R : List Rn) (r : Rn) : rsz C (R ++ [r]) = rsz C R + (C.getD r.1.toNat 0 + (frt r.1 : Nat)) := by
  induction R with
  | nil => simp [rsz]
  | cons a R ih => simp only [List.cons_append, rsz, ih]; omega

theorem frt_le (s : Int) : frt s ≤ 7 := by unfold frt; split; omega; split; omega; split <;> omega

theorem rsz_bound {C : List Int} (hC : ∀ s, 0 ≤ C.getD s 0 ∧ C.getD s 0 ≤ 15) (R : List Rn) : 0 ≤ rsz C R ∧ rsz C R ≤ 22 * R.length := by
  induction R with
  | nil => simp [rsz]
  | cons r R ih =>
    have := hC r.1.toNat
    have := frt_le r.1
    simp only [rsz, List.length_cons]
    omega

set_option maxHeartbeats 2000000 in
theorem hsize_any (vL vD vC vR : Value) (C : List Int) (R : List Rn) (w : World) (hvl : vL.oneCell' = true) (hvd : vD.oneCell' = true) (hC : SI w vC C) (hR : SR w vR R) (T : Tab w) (O : Odr w) (h19 : C.length = 19) (hb : ∀ s, 0 ≤ C.getD s 0 ∧ C.getD s 0 ≤ 15) (hok : ∀ r ∈ R, Okr r) (hn : R.length ≤ 1048576) :
    Calls Tryz.prog 147 #[.agg #[vL, vD, vC, vR, .int .i64 0]] w fun e w' => e = .returned (.int .i64 (hsz C R)) ∧ Below w.heap.size w w' := by
  have HC := hide hC
  have HR := hide hR
  have HT := hide T
  have HO := hide O
  have HOK := hide hok
  have HBD := hide hb
  obtain ⟨aC, cC, rfl, hc1, hc2⟩ := hC.open
  obtain ⟨aR, cR, rfl, hr1, hr2⟩ := hR.open
  clear hC hR T O hok hb
  have H19 := hide h19
  have HC0 : Hid (∀ W, Below w.heap.size w W → ∀ k, k < 19 → ∃ b o, aC = some ⟨b, o, none⟩ ∧ W.cell? ⟨b, o + k, none⟩ = some (.int .i64 (C.getD k 0))) := fun W hW k hk => HC.out.get hW (by rw [H19.out]; exact hk)
  have HW0 : Hid (∀ W, Below w.heap.size w W → Calls Tryz.prog 148 #[.slice aC 19 cC] W fun e w' => e = .returned (.int .i64 (wrt C : Nat)) ∧ w' = W) := fun W hW => by
    have := written_any _ C W (HC.out.below hW) (HO.out.mono hW) H19.out
    rwa [H19.out] at this
  rw [h19] at hc1 ⊢
  clear h19 HC
  obtain ⟨wb, hwb⟩ : ∃ wb, w.alloc (.cells #[vL, vD, .slice aC 19 cC, .slice aR R.length cR, .int .i64 0] 129) = wb := ⟨_, rfl⟩
  have hb0 : Below w.heap.size w wb := by rw [← hwb]; exact (Below.refl _ _).alloc (Nat.le_refl _) _
  have hg0 : wb.heap[w.heap.size]? = some (.cells #[vL, vD, .slice aC 19 cC, .slice aR R.length cR, .int .i64 0] 129 (0, 0)) := by rw [← hwb]; exact heap_alloc_new w _
  have d2 : wb.cell? ⟨w.heap.size, 2, none⟩ = some (.slice aC 19 cC) := by unfold World.cell?; rw [hg0]; rfl
  have d3 : wb.cell? ⟨w.heap.size, 3, none⟩ = some (.slice aR R.length cR) := by unfold World.cell?; rw [hg0]; rfl
  have HG0 := hide hg0
  have hsl : w.heap.size < wb.heap.size := by rw [← hwb]; simp
  have HSL := hide hsl
  have HB0 := hide hb0
  have hw19 := wrt_le C
  have HWB := hide hwb
  clear hb0 hg0 hwb hsl
  go_enter Tryz.func147, Tryz.ntmps147
  go_wp2_with fail
  rw [HWB.out]
  refine (HW0.out wb HB0.out).mono ?_
  rintro e w1 ⟨rfl, hw1⟩
  subst hw1
  obtain ⟨W, HW⟩ : ∃ W, Hid (W = wrt C) := ⟨_, rfl⟩
  have HZ : Hid (hsz C R = 14 + 3 * (W : Int) + rsz C R) := by show _ = _; rw [HW.out]; rfl
  rw [← HW.out] at hw19 ⊢
  have HRB := hide (fun k => rsz_bound HBD.out (R.take k))
  go_wp2
  go_loopw [3, 14] (fun t i wr => ∃ k : Nat, k ≤ R.length ∧ i = .int .i64 k ∧ t = .int .i64 (14 + 3 * (W : Int) + rsz C (R.take k)) ∧ Hid (wr.heap[w.heap.size]? = some (.cells #[vL, vD, .slice aC 19 cC, .slice aR R.length cR, .int .i64 0] 129 (0, 0))) ∧ Hid (Below w.heap.size w wr)) (fun _ i _ => R.length - (intOf i).toNat)
  case atStart => exact ⟨0, Nat.zero_le _, rfl, by simp [rsz], HG0.out, HB0.out⟩
  case round =>
    obtain ⟨k, hk, rfl, rfl, HG, HB⟩ := hrel
    by_cases hlt : k < R.length
    · have hlt' : (k : Int) < (R.length : Int) := by omega
      obtain ⟨b, o, rfl, c1, c2⟩ := HR.out.get HB.out hlt
      have ok : Okr (R.getD k rn0) := HOK.out _ (by rw [show R.getD k rn0 = R[k] by simp [hlt]]; exact List.getElem_mem hlt)
      have hk1 := ok.1
      have hk2 := ok.2.1
      have HSN : Hid (R.take (k + 1) = R.take k ++ [R.getD k rn0]) := by show _ = _; rw [List.take_succ_eq_append_getElem hlt]; simp [hlt]
      obtain ⟨r, hr⟩ : ∃ r, r = R.getD k rn0 := ⟨_, rfl⟩
      rw [← hr] at c1 c2 hk1 hk2 HSN
      obtain ⟨s', c⟩ := r
      simp only at c1 c2 hk1 hk2
      obtain ⟨s, rfl⟩ := Int.eq_ofNat_of_zero_le hk1
      have hs : s < 19 := by omega
      have hs' : (s : Int) < 19 := by omega
      have HRN : Hid (rsz C (R.take (k + 1)) = rsz C (R.take k) + (C.getD s 0 + (frt s : Nat))) := by show _ = _; rw [HSN.out, rsz_snoc]; rfl
      have hrb := HRB.out k
      have hrl : (R.take k).length ≤ 1048576 := by rw [List.length_take]; omega
      obtain ⟨wx, hwx⟩ : ∃ wx, wr.alloc (.cells #[.int .i64 s, .int .i64 c] 182) = wx := ⟨_, rfl⟩
      have HBX : Hid (Below w.heap.size w wx) := by rw [← hwx]; exact hide (HB.out.alloc HB.out.size _)
      have hgx : wx.heap[w.heap.size]? = some (.cells #[vL, vD, .slice aC 19 cC, .slice (some ⟨b, o, none⟩) R.length cR, .int .i64 0] 129 (0, 0)) := by
        rw [← hwx, Below.heap_alloc wr _ _ (by
          rcases Nat.lt_or_ge w.heap.size wr.heap.size with h | h
          · exact h
          · have := HG.out; rw [Array.getElem?_eq_none h] at this; cases this)]
        exact HG.out
      have x2 : wx.cell? ⟨w.heap.size, 2, none⟩ = some (.slice aC 19 cC) := by unfold World.cell?; rw [hgx]; rfl
      have z0 : wx.cell? ⟨wr.heap.size, 0, none⟩ = some (.int .i64 s) := by rw [← hwx]; unfold World.cell?; simp only [heap_alloc_new]; rfl
      obtain ⟨bC, oC, hbC, y0⟩ := HC0.out wx HBX.out s hs
      subst hbC
      have f0 := (HT.out.mono HBX.out).further s hs
      have hcb := HBD.out s
      have hfb := frt_le s
      have HGX : Hid (∀ q, (wx.drewN q).heap[w.heap.size]? = some (.cells #[vL, vD, .slice (some ⟨bC, oC, none⟩) 19 cC, .slice (some ⟨b, o, none⟩) R.length cR, .int .i64 0] 129 (0, 0))) := fun q => hgx
      have HBD2 : Hid (∀ q, Below w.heap.size w (wx.drewN q)) := fun q => below_drewN HBX.out q
      obtain ⟨Y, HY⟩ : ∃ Y, Hid (Y = C.getD s 0) := ⟨_, rfl⟩
      obtain ⟨F, HF⟩ : ∃ F, Hid (F = frt s) := ⟨_, rfl⟩
      obtain ⟨Z, HZZ⟩ : ∃ Z, Hid (Z = rsz C (R.take k)) := ⟨_, rfl⟩
      rw [← HY.out] at y0 hcb HRN
      rw [← HF.out] at f0 hfb HRN
      rw [← HZZ.out] at HRN hrb ⊢
      have hz1 : 0 ≤ Z := hrb.1
      have hz2 : Z ≤ 23068672 := by omega
      have hy1 : 0 ≤ Y := hcb.1
      have hy2 : Y ≤ 15 := hcb.2
      clear hr ok hk1 hk2 hgx hcb hrb HSN
      go_wp2
      go_quiet (fail)
      go_wp2
      go_roundw
      case rel => exact ⟨k + 1, by omega, by go_num, by rw [HRN.out]; go_num, HGX.out _, HBD2.out _⟩
      case measure => simp [intOf]; omega
    · obtain rfl : k = R.length := by omega
      have hlt' : ¬ (R.length : Int) < (R.length : Int) := by omega
      have HF : Hid (14 + 3 * (W : Int) + rsz C (R.take R.length) = hsz C R) := by show _ = _; rw [List.take_of_length_le (Nat.le_refl _)]; exact HZ.out.symm
      rw [HF.out]
      go_wp2
      go_ret
      exact ⟨rfl, HB.out⟩
end Go.Proofs.YtfoglaajnlbnbaaGreatDoor

namespace Go.Proofs.YtfoglaajnlbnbaaGreatDoor
open Go.RowKit Go.Maps
set_option maxRecDepth 20000
set_option linter.unusedVariables false

def rch (s : Nat) (l : List Int) (k : Nat) : Nat := if s = 16 ∧ k = 0 then 0 else min (eqn (mnt s (l.take k)) (l.drop k)) (mst s).toNat

theorem rch_18 (l : List Int) (k : Nat) : rch 18 l k = n18 l k := by unfold rch n18; rw [if_neg (by omega)]; rfl
theorem rch_17 (l : List Int) (k : Nat) : rch 17 l k = n17 l k := by unfold rch n17; rw [if_neg (by omega)]; rfl
theorem rch_16 {l : List Int} {k : Nat} (hk : k < l.length) : rch 16 l k = n16 l k := by
  unfold rch n16
  by_cases h : k = 0
  · rw [if_pos ⟨rfl, h⟩, if_pos h]
  · rw [if_neg (by omega), if_neg h]
    have e : mnt (16 : Nat) (l.take k) = l.getD (k - 1) 0 := by
      show mnt 16 (l.take k) = _
      unfold mnt
      rw [if_neg (by decide), if_pos rfl, List.length_take, show min k l.length - 1 = k - 1 by omega]
      simp only [List.getD_eq_getElem?_getD, List.getElem?_take]
      rw [if_pos (by omega)]
    rw [e]; rfl

theorem SI.sub {w : World} {b o cap : Nat} {l : List Int} (h : SI w (.slice (some ⟨b, o, none⟩) l.length cap) l) {i j : Nat} (hij : i ≤ j) (hj : j ≤ l.length) : SI w (.slice (some ⟨b, o + i, none⟩) (j - i) (cap - i)) ((l.drop i).take (j - i)) := by
  obtain ⟨ao', cap', he, h1, h2, h3, h4⟩ := h
  simp only [Value.slice.injEq] at he
  obtain ⟨rfl, -, rfl⟩ := he
  have hl : ((l.drop i).take (j - i)).length = j - i := by rw [List.length_take, List.length_drop]; omega
  refine ⟨_, _, by rw [hl], by rw [hl]; omega, by omega, (fun e => by cases e), fun x hx n hn => ?_⟩
  cases hx
  rw [hl] at hn
  have := h4 _ rfl (i + n) (by omega)
  rw [Addr.add_lit] at this ⊢
  rw [Nat.add_assoc, this]
  simp only [List.getD_eq_getElem?_getD, List.getElem?_take, List.getElem?_drop]
  rw [if_pos hn]

set_option maxHeartbeats 1000000 in
theorem reach_any (s k : Nat) (v : Value) (l : List Int) (w : World) (h : SI w v l) (T : Tab w) (hs1 : 16 ≤ s) (hs2 : s < 19) (hk : k < l.length) (hn : l.length ≤ 1048576) :
    Calls Tryz.prog 170 #[.int .i64 s, v, .int .i64 k] w fun e w' => e = .returned (.int .i64 (rch s l k : Nat)) ∧ ∃ q, w' = w.drewN q := by
  have HS := hide h
  have HT := hide T
  obtain ⟨ao, cap, rfl, hlc, hcm⟩ := h.open
  clear h T
  by_cases hz : s = 16 ∧ k = 0
  · have HR : Hid (rch s l k = 0) := by show _ = _; unfold rch; rw [if_pos hz]
    obtain ⟨rfl, rfl⟩ := hz
    go_enter Tryz.func170, Tryz.ntmps170
    go_wp2
    go_ret
    rw [HR.out]
    exact ⟨rfl, 0, rfl⟩
  · have HR : Hid (rch s l k = min (eqn (mnt s (l.take k)) (l.drop k)) (mst s).toNat) := by show _ = _; unfold rch; rw [if_neg hz]
    obtain ⟨b, o, rfl, _⟩ := HS.out.get (Below.refl _ _) hk
    have HT0 : Hid (SI w (.slice (some ⟨b, o, none⟩) k cap) (l.take k)) := by
      have := HS.out.sub (i := 0) (j := k) (Nat.zero_le _) (by omega)
      exact hide (by simpa using this)
    have hlk : (l.take k).length = k := by rw [List.length_take]; omega
    have HMM : Hid ((s : Int) = 16 → 0 < (l.take k).length) := fun e => by rw [hlk]; omega
    obtain ⟨V, HV⟩ : ∃ V, Hid (V = mnt s (l.take k)) := ⟨_, rfl⟩
    obtain ⟨M, hM, HM⟩ : ∃ M : Nat, M ≤ 138 ∧ Hid (mst s = (M : Int)) := by
      rcases tab_cases s hs2 with ⟨_, _, c⟩ | ⟨_, _, c⟩ | ⟨_, _, c⟩ | ⟨_, _, c⟩ <;> rw [c]
      · exact ⟨1, by omega, rfl⟩
      · exact ⟨6, by omega, rfl⟩
      · exact ⟨10, by omega, rfl⟩
      · exact ⟨138, by omega, rfl⟩
    rw [← HV.out, HM.out, Int.toNat_natCast] at HR
    obtain ⟨hi, hhi⟩ : ∃ hi, hi = min (k + M) l.length := ⟨_, rfl⟩
    have hi1 : k ≤ hi := by omega
    have hi2 : hi ≤ l.length := by omega
    have HW : Hid (SI w (.slice (some ⟨b, o + k, none⟩) (hi - k) (cap - k)) ((l.drop k).take (hi - k))) := HS.out.sub hi1 hi2
    have HRW : Hid (rch s l k = eqn V ((l.drop k).take (hi - k))) := by
      show _ = _
      rw [HR.out, eqn_min]
      have := eqn_le V (l.drop k)
      rw [List.length_drop] at this
      omega
    have hz1 : ((s : Int) == 16) = true → ((k : Int) == 0) = false := fun e => by simp at e ⊢; omega
    go_enter Tryz.func170, Tryz.ntmps170
    by_cases e16 : s = 16
    · have g1 : ((s : Int) == 16) = true := by simp; omega
      have g2 : ((k : Int) == 0) = false := hz1 g1
      clear e16 hz1 hz
      go_wp2_with fail
      refine (meant_any s _ (l.take k) w HT0.out HMM.out).mono ?_
      rintro e w1 ⟨rfl, hw1⟩
      subst hw1
      rw [← HV.out]
      go_wp2_with fail
      refine (most_any s w1 hs2 HT.out).mono ?_
      rintro e w2 ⟨rfl, q, hw2⟩
      rw [HM.out]
      go_wp2
      all_goals
        first
        | rw [show ((k : Int) + (M : Int)).toNat - k = hi - k by omega]
        | rw [show l.length - k = hi - k by omega]
        have HRL : Hid (((l.drop k).take (hi - k)).length = hi - k) := by show _ = _; rw [List.length_take, List.length_drop]; omega
        obtain ⟨N, hN⟩ : ∃ N, N = hi - k := ⟨_, rfl⟩
        obtain ⟨R, HRR⟩ : ∃ R, Hid (R = (l.drop k).take (hi - k)) := ⟨_, rfl⟩
        have hNb : N ≤ 1048576 := by omega
        rw [← HRR.out] at HW HRW HRL
        rw [← hN] at HW HRL ⊢
        have HSR : Hid (SI w1 (.slice (some ⟨b, o + k, none⟩) R.length (cap - k)) R) := by rw [HRL.out]; exact HW.out
        have HLR : Hid (R.length = N) := HRL.out
        clear HT0 HMM HV HR HM HW HS HRL hN hhi hi1 hi2 hM hlk HRR
        go_loopw [34] (fun i wr => ∃ j : Nat, j ≤ N ∧ i = .int .i64 j ∧ wr = w1.drewN q ∧ Hid (j ≤ eqn V R)) (fun i _ => N - (intOf i).toNat)
        case atStart => exact ⟨0, Nat.zero_le _, rfl, rfl, Nat.zero_le _⟩
        case round =>
          obtain ⟨j, hj, rfl, hw, HJ⟩ := hrel
          subst hw
          by_cases hlt : j < N
          · have hlt' : (j : Int) < (N : Int) := by omega
            obtain ⟨b2, o2, hbo, hc⟩ := HSR.out.get (w := w1.drewN q) (below_drewN (Below.refl _ _) q) (k := j) (by rw [HLR.out]; exact hlt)
            simp only [Option.some.injEq, Addr.mk.injEq, and_true] at hbo
            obtain ⟨rfl, rfl⟩ := hbo
            have HG := hide (eqn_go HJ.out (by rw [HLR.out]; exact hlt))
            obtain ⟨y, HY⟩ : ∃ y, Hid (y = R.getD j 0) := ⟨_, rfl⟩
            rw [← HY.out] at hc HG
            by_cases hy : y = V
            · subst hy
              have HJ2 := hide (HG.out.1 rfl)
              go_wp2
              go_roundw
              case rel => exact ⟨j + 1, by omega, by go_num, trivial, HJ2⟩
              case measure => simp [intOf]; omega
            · have hy' : (y != V) = true := by simpa using hy
              have HE : Hid (rch s l k = j) := by show _ = _; rw [HRW.out]; exact HG.out.2 hy
              go_wp2
              go_ret
              rw [HE.out]
              exact ⟨rfl, q, rfl⟩
          · obtain rfl : j = N := by omega
            have hlt' : ¬ (j : Int) < (j : Int) := by omega
            have HE : Hid (rch s l k = j) := by show _ = _; rw [HRW.out, eqn_end (by rw [HLR.out]; exact HJ.out)]; exact HLR.out
            go_wp2
            go_ret
            rw [HE.out]
            exact ⟨rfl, q, rfl⟩
    · have g1 : ((s : Int) == 16) = false := by simp; omega
      clear e16 hz1 hz
      go_wp2_with fail
      refine (meant_any s _ (l.take k) w HT0.out HMM.out).mono ?_
      rintro e w1 ⟨rfl, hw1⟩
      subst hw1
      rw [← HV.out]
      go_wp2_with fail
      refine (most_any s w1 hs2 HT.out).mono ?_
      rintro e w2 ⟨rfl, q, hw2⟩
      rw [HM.out]
      go_wp2
      all_goals
        first
        | rw [show ((k : Int) + (M : Int)).toNat - k = hi - k by omega]
        | rw [show l.length - k = hi - k by omega]
        have HRL : Hid (((l.drop k).take (hi - k)).length = hi - k) := by show _ = _; rw [List.length_take, List.length_drop]; omega
        obtain ⟨N, hN⟩ : ∃ N, N = hi - k := ⟨_, rfl⟩
        obtain ⟨R, HRR⟩ : ∃ R, Hid (R = (l.drop k).take (hi - k)) := ⟨_, rfl⟩
        have hNb : N ≤ 1048576 := by omega
        rw [← HRR.out] at HW HRW HRL
        rw [← hN] at HW HRL ⊢
        have HSR : Hid (SI w1 (.slice (some ⟨b, o + k, none⟩) R.length (cap - k)) R) := by rw [HRL.out]; exact HW.out
        have HLR : Hid (R.length = N) := HRL.out
        clear HT0 HMM HV HR HM HW HS HRL hN hhi hi1 hi2 hM hlk HRR
        go_loopw [34] (fun i wr => ∃ j : Nat, j ≤ N ∧ i = .int .i64 j ∧ wr = w1.drewN q ∧ Hid (j ≤ eqn V R)) (fun i _ => N - (intOf i).toNat)
        case atStart => exact ⟨0, Nat.zero_le _, rfl, rfl, Nat.zero_le _⟩
        case round =>
          obtain ⟨j, hj, rfl, hw, HJ⟩ := hrel
          subst hw
          by_cases hlt : j < N
          · have hlt' : (j : Int) < (N : Int) := by omega
            obtain ⟨b2, o2, hbo, hc⟩ := HSR.out.get (w := w1.drewN q) (below_drewN (Below.refl _ _) q) (k := j) (by rw [HLR.out]; exact hlt)
            simp only [Option.some.injEq, Addr.mk.injEq, and_true] at hbo
            obtain ⟨rfl, rfl⟩ := hbo
            have HG := hide (eqn_go HJ.out (by rw [HLR.out]; exact hlt))
            obtain ⟨y, HY⟩ : ∃ y, Hid (y = R.getD j 0) := ⟨_, rfl⟩
            rw [← HY.out] at hc HG
            by_cases hy : y = V
            · subst hy
              have HJ2 := hide (HG.out.1 rfl)
              go_wp2
              go_roundw
              case rel => exact ⟨j + 1, by omega, by go_num, trivial, HJ2⟩
              case measure => simp [intOf]; omega
            · have hy' : (y != V) = true := by simpa using hy
              have HE : Hid (rch s l k = j) := by show _ = _; rw [HRW.out]; exact HG.out.2 hy
              go_wp2
              go_ret
              rw [HE.out]
              exact ⟨rfl, q, rfl⟩
          · obtain rfl : j = N := by omega
            have hlt' : ¬ (j : Int) < (j : Int) := by omega
            have HE : Hid (rch s l k = j) := by show _ = _; rw [HRW.out, eqn_end (by rw [HLR.out]; exact HJ.out)]; exact HLR.out
            go_wp2
            go_ret
            rw [HE.out]
            exact ⟨rfl, q, rfl⟩
end Go.Proofs.YtfoglaajnlbnbaaGreatDoor

namespace Go.Proofs.YtfoglaajnlbnbaaGreatDoor
open Go.RowKit Go.Maps
set_option maxRecDepth 20000
set_option linter.unusedVariables false

structure Rsr (w wr : World) (l : List Int) (ao : Option Addr) (cap : Nat) (u : Value) (R : List Rn) : Prop where
  si : SI wr (.slice ao l.length cap) l
  tab : Tab wr
  row : OR wr w.heap.size u R
  bel : Below w.heap.size w wr

theorem Rsr.draw {w wr : World} {l : List Int} {ao : Option Addr} {cap : Nat} {u : Value} {R : List Rn} (h : Rsr w wr l ao cap u R) (q : Nat) : Rsr w (wr.drewN q) l ao cap u R :=
  ⟨h.si, h.tab.drewN q, h.row.drewN q, below_drewN h.bel q⟩

theorem Rsr.cells {w wr : World} {l : List Int} {ao : Option Addr} {cap : Nat} {u : Value} {R : List Rn} (h : Rsr w wr l ao cap u R) : wr.cell? ⟨4, 18, none⟩ = some (.int .i64 11) ∧ wr.cell? ⟨4, 17, none⟩ = some (.int .i64 3) ∧ wr.cell? ⟨4, 16, none⟩ = some (.int .i64 3) :=
  ⟨h.tab.least 18 (by omega), h.tab.least 17 (by omega), h.tab.least 16 (by omega)⟩

theorem reach18 (k : Nat) (l : List Int) (w wr : World) (ao : Option Addr) (cap : Nat) (u : Value) (R : List Rn) (h : Rsr w wr l ao cap u R) (hk : k < l.length) (hn : l.length ≤ 1048576) :
    Calls Tryz.prog 170 #[.int .i64 18, .slice ao l.length cap, .int .i64 k] wr fun e w' => e = .returned (.int .i64 (n18 l k : Nat)) ∧ Rsr w w' l ao cap u R := by
  have := reach_any 18 k _ l wr h.si h.tab (by omega) (by omega) hk hn
  rw [rch_18] at this
  exact this.mono fun e w' ⟨he, q, hw⟩ => ⟨he, by rw [hw]; exact h.draw q⟩

theorem reach17 (k : Nat) (l : List Int) (w wr : World) (ao : Option Addr) (cap : Nat) (u : Value) (R : List Rn) (h : Rsr w wr l ao cap u R) (hk : k < l.length) (hn : l.length ≤ 1048576) :
    Calls Tryz.prog 170 #[.int .i64 17, .slice ao l.length cap, .int .i64 k] wr fun e w' => e = .returned (.int .i64 (n17 l k : Nat)) ∧ Rsr w w' l ao cap u R := by
  have := reach_any 17 k _ l wr h.si h.tab (by omega) (by omega) hk hn
  rw [rch_17] at this
  exact this.mono fun e w' ⟨he, q, hw⟩ => ⟨he, by rw [hw]; exact h.draw q⟩

theorem reach16 (k : Nat) (l : List Int) (w wr : World) (ao : Option Addr) (cap : Nat) (u : Value) (R : List Rn) (h : Rsr w wr l ao cap u R) (hk : k < l.length) (hn : l.length ≤ 1048576) :
    Calls Tryz.prog 170 #[.int .i64 16, .slice ao l.length cap, .int .i64 k] wr fun e w' => e = .returned (.int .i64 (n16 l k : Nat)) ∧ Rsr w w' l ao cap u R := by
  have := reach_any 16 k _ l wr h.si h.tab (by omega) (by omega) hk hn
  rw [rch_16 hk] at this
  exact this.mono fun e w' ⟨he, q, hw⟩ => ⟨he, by rw [hw]; exact h.draw q⟩

theorem Rsr.more {w wr w3 : World} {l : List Int} {ao : Option Addr} {cap : Nat} {u u3 : Value} {R : List Rn} {p : Rn} {o : Obj} (h : Rsr w wr l ao cap u R) (h0 : SI w (.slice ao l.length cap) l) (t0 : Tab w) (ho : OR w3 w.heap.size u3 (R ++ [p])) (hg : (wr.alloc o).grownBy w3 u.ownBlock) : Rsr w w3 l ao cap u3 (R ++ [p]) := by
  have hb := grow_run h.bel (Nat.le_refl _) h.row hg
  exact ⟨h0.below hb, t0.mono hb, ho, hb⟩

theorem n18_le {l : List Int} {k : Nat} : n18 l k ≤ 138 := by unfold n18; omega
theorem n17_le {l : List Int} {k : Nat} : n17 l k ≤ 10 := by unfold n17; omega
theorem n16_le {l : List Int} {k : Nat} : n16 l k ≤ 6 := by unfold n16; split <;> omega

theorem rns_more {l : List Int} {k c : Nat} {R : List Rn} {p1 : Int} (hk : k < l.length) (hR : rns l = R ++ rnK l k) (hl : R.length ≤ k) (hp : run1 l k = (p1, (c : Int))) : k + c ≤ l.length ∧ 1 ≤ c ∧ c ≤ 138 ∧ rns l = (R ++ [(p1, (c : Int))]) ++ rnK l (k + c) ∧ (R ++ [(p1, (c : Int))]).length ≤ k + c := by
  obtain ⟨c', e, c1, c2, c3⟩ := run1_cnt hk
  rw [hp] at e
  have : c = c' := by simp only at e; omega
  subst this
  refine ⟨c2, c1, c3, ?_, by rw [List.length_append]; simp; omega⟩
  rw [hR, rnK_step hk (by rw [hp]), hp, List.append_assoc]
  rfl

theorem ix0 : ∀ w : World, (Instr.index 231 (.agg #[.int .i64 18, .int .i64 17, .int .i64 16]) (.int .i64 0)).run Tryz.prog w = .ok (.int .i64 18) w := fun _ => by kernel_rfl
theorem ix1 : ∀ w : World, (Instr.index 231 (.agg #[.int .i64 18, .int .i64 17, .int .i64 16]) (.int .i64 1)).run Tryz.prog w = .ok (.int .i64 17) w := fun _ => by kernel_rfl
theorem ix2 : ∀ w : World, (Instr.index 231 (.agg #[.int .i64 18, .int .i64 17, .int .i64 16]) (.int .i64 2)).run Tryz.prog w = .ok (.int .i64 16) w := fun _ => by kernel_rfl

set_option maxHeartbeats 4000000 in
theorem runs_any (v : Value) (l : List Int) (w : World) (h : SI w v l) (T : Tab w) (hn : l.length ≤ 1048576) :
    Calls Tryz.prog 144 #[v] w fun e w' => ∃ u, e = .returned (.tuple #[u, .int .i64 (rnE l)]) ∧ OR w' w.heap.size u (rnL l) ∧ Below w.heap.size w w' := by
  have HS := hide h
  have HT := hide T
  have i0 := ix0
  have i1 := ix1
  have i2 := ix2
  obtain ⟨ao, cap, rfl, hlc, hcm⟩ := h.open
  clear h T
  go_enter Tryz.func144, Tryz.ntmps144
  go_wp2_with fail
  go_step3
  go_wp2_with fail
  refine (codeLengths_any _ l w HS.out).mono ?_
  rintro e w1 ⟨rfl, hw1⟩
  subst hw1
  by_cases hw : wthb l = true
  · have HE : Hid (rnE l = 0 ∧ rnL l = rns l) := ⟨by unfold rnE; rw [if_pos hw], by unfold rnL; rw [if_pos hw]⟩
    rw [hw]
    go_wp2
    go_step3
    go_wp2
    go_loopw [4, 5] (fun u i wr => ∃ (k : Nat) (R : List Rn), k ≤ l.length ∧ i = .int .i64 k ∧ R.length ≤ k ∧ Hid (rns l = R ++ rnK l k) ∧ Hid (Rsr w1 wr l ao cap u R)) (fun _ i _ => l.length - (intOf i).toNat)
    case atStart => exact ⟨0, [], Nat.zero_le _, rfl, Nat.le_refl _, rfl, HS.out, HT.out, OR.nil _ _, Below.refl _ _⟩
    case round =>
      obtain ⟨k, R, hk, rfl, hR, HR, HST⟩ := hrel
      by_cases hlt : k < l.length
      · have hlt' : (k : Int) < (l.length : Int) := by omega
        obtain ⟨pA, pB, pC, pD⟩ := run_pick hlt
        obtain ⟨a1, p1, hu, _⟩ := HST.out.row.shape
        subst hu
        have H18 := hide (fun wr h => reach18 k l w1 wr ao cap (.slice a1 R.length p1) R h hlt hn)
        have H17 := hide (fun wr h => reach17 k l w1 wr ao cap (.slice a1 R.length p1) R h hlt hn)
        have H16 := hide (fun wr h => reach16 k l w1 wr ao cap (.slice a1 R.length p1) R h hlt hn)
        have b18 := n18_le (l := l) (k := k)
        have b17 := n17_le (l := l) (k := k)
        have b16 := n16_le (l := l) (k := k)
        obtain ⟨N18, hN18⟩ : ∃ N, N = n18 l k := ⟨_, rfl⟩
        obtain ⟨N17, hN17⟩ : ∃ N, N = n17 l k := ⟨_, rfl⟩
        obtain ⟨N16, hN16⟩ : ∃ N, N = n16 l k := ⟨_, rfl⟩
        rw [← hN18] at H18 pA pB pC pD b18
        rw [← hN17] at H17 pB pC pD b17
        rw [← hN16] at H16 pC pD b16
        clear hN18 hN17 hN16
        by_cases hA : 11 ≤ N18
        · obtain ⟨hm1, hm2, hm3, hm4, hm5⟩ := rns_more hlt HR.out hR (pA hA)
          have HM4 := hide hm4
          clear pA pB pC pD hm4 HR
          go_wp2
          refine wp_loop_rounds 4 ?_
          rw [rounds_succ]
          go_wp2_with fail
          refine (H18.out _ HST.out).mono ?_
          rintro e w18 ⟨rfl, hs18⟩
          replace HST := hide hs18
          obtain ⟨c18, c17, c16⟩ := hs18.cells
          clear hs18
          have HOR := hide HST.out.row
          have hbw := HST.out.bel.size
          go_wp2_with (at_builtin; refine wpRun rfl _ _ rfl w1.heap.size (.slice a1 R.length p1) R 18 (N18 : Int) rfl HOR.out _ rfl (by omega) hbw ?_)
          intro v3 w3 ho3 hg3
          have HN3 := hide (HST.out.more HS.out HT.out ho3 hg3)
          clear ho3 hg3
          go_wp2
          go_roundw
          case rel => exact ⟨k + N18, _, hm1, by go_num, hm5, HM4, HN3⟩
          case measure => simp [intOf]; omega
        · by_cases hB : 3 ≤ N17
          · obtain ⟨hm1, hm2, hm3, hm4, hm5⟩ := rns_more hlt HR.out hR (pB (by omega) hB)
            have HM4 := hide hm4
            clear pA pB pC pD hm4 HR
            go_wp2
            refine wp_loop_rounds 4 ?_
            rw [rounds_succ]
            go_wp2_with fail
            refine (H18.out _ HST.out).mono ?_
            rintro e w18 ⟨rfl, hs18⟩
            replace HST := hide hs18
            obtain ⟨c18, c17, c16⟩ := hs18.cells
            clear hs18
            go_wp2
            rw [rounds_succ]
            go_wp2_with fail
            refine (H17.out _ HST.out).mono ?_
            rintro e w17 ⟨rfl, hs17⟩
            replace HST := hide hs17
            obtain ⟨c18, c17, c16⟩ := hs17.cells
            clear hs17
            have HOR := hide HST.out.row
            have hbw := HST.out.bel.size
            go_wp2_with (at_builtin; refine wpRun rfl _ _ rfl w1.heap.size (.slice a1 R.length p1) R 17 (N17 : Int) rfl HOR.out _ rfl (by omega) hbw ?_)
            intro v3 w3 ho3 hg3
            have HN3 := hide (HST.out.more HS.out HT.out ho3 hg3)
            clear ho3 hg3
            go_wp2
            go_roundw
            case rel => exact ⟨k + N17, _, hm1, by go_num, hm5, HM4, HN3⟩
            case measure => simp [intOf]; omega
          · by_cases hC : 3 ≤ N16
            · obtain ⟨hm1, hm2, hm3, hm4, hm5⟩ := rns_more hlt HR.out hR (pC (by omega) (by omega) hC)
              have HM4 := hide hm4
              clear pA pB pC pD hm4 HR
              go_wp2
              refine wp_loop_rounds 4 ?_
              rw [rounds_succ]
              go_wp2_with fail
              refine (H18.out _ HST.out).mono ?_
              rintro e w18 ⟨rfl, hs18⟩
              replace HST := hide hs18
              obtain ⟨c18, c17, c16⟩ := hs18.cells
              clear hs18
              go_wp2
              rw [rounds_succ]
              go_wp2_with fail
              refine (H17.out _ HST.out).mono ?_
              rintro e w17 ⟨rfl, hs17⟩
              replace HST := hide hs17
              obtain ⟨c18, c17, c16⟩ := hs17.cells
              clear hs17
              go_wp2
              rw [rounds_succ]
              go_wp2_with fail
              refine (H16.out _ HST.out).mono ?_
              rintro e w16 ⟨rfl, hs16⟩
              replace HST := hide hs16
              obtain ⟨c18, c17, c16⟩ := hs16.cells
              clear hs16
              have HOR := hide HST.out.row
              have hbw := HST.out.bel.size
              go_wp2_with (at_builtin; refine wpRun rfl _ _ rfl w1.heap.size (.slice a1 R.length p1) R 16 (N16 : Int) rfl HOR.out _ rfl (by omega) hbw ?_)
              intro v3 w3 ho3 hg3
              have HN3 := hide (HST.out.more HS.out HT.out ho3 hg3)
              clear ho3 hg3
              go_wp2
              go_roundw
              case rel => exact ⟨k + N16, _, hm1, by go_num, hm5, HM4, HN3⟩
              case measure => simp [intOf]; omega
            · obtain ⟨b, o, rfl, hc⟩ := HS.out.get HST.out.bel hlt
              obtain ⟨hm1, hm2, hm3, hm4, hm5⟩ := rns_more (c := 1) hlt HR.out hR (pD (by omega) (by omega) (by omega))
              obtain ⟨y, HY⟩ : ∃ y, Hid (y = l.getD k 0) := ⟨_, rfl⟩
              rw [← HY.out] at hm4 hm5
              have HM4 := hide hm4
              clear pA pB pC pD hm4 HR hc
              go_wp2
              refine wp_loop_rounds 4 ?_
              rw [rounds_succ]
              go_wp2_with fail
              refine (H18.out _ HST.out).mono ?_
              rintro e w18 ⟨rfl, hs18⟩
              replace HST := hide hs18
              obtain ⟨c18, c17, c16⟩ := hs18.cells
              clear hs18
              go_wp2
              rw [rounds_succ]
              go_wp2_with fail
              refine (H17.out _ HST.out).mono ?_
              rintro e w17 ⟨rfl, hs17⟩
              replace HST := hide hs17
              obtain ⟨c18, c17, c16⟩ := hs17.cells
              clear hs17
              go_wp2
              rw [rounds_succ]
              go_wp2_with fail
              refine (H16.out _ HST.out).mono ?_
              rintro e w16 ⟨rfl, hs16⟩
              replace HST := hide hs16
              obtain ⟨c18, c17, c16⟩ := hs16.cells
              clear hs16
              go_wp2
              rw [rounds_succ]
              obtain ⟨b', o', hbo, hc⟩ := HS.out.get HST.out.bel hlt
              simp only [Option.some.injEq, Addr.mk.injEq, and_true] at hbo
              obtain ⟨rfl, rfl⟩ := hbo
              rw [← HY.out] at hc
              have HOR := hide HST.out.row
              have hbw := HST.out.bel.size
              go_wp2_with (at_builtin; refine wpRun rfl _ _ rfl w1.heap.size (.slice a1 R.length p1) R y 1 rfl HOR.out _ rfl (by omega) hbw ?_)
              intro v3 w3 ho3 hg3
              have HN3 := hide (HST.out.more HS.out HT.out ho3 hg3)
              clear ho3 hg3
              go_wp2
              go_roundw
              case rel => exact ⟨k + 1, _, hm1, by go_num, hm5, HM4, HN3⟩
              case measure => simp [intOf]; omega
      · obtain rfl : k = l.length := by omega
        have hlt' : ¬ (l.length : Int) < (l.length : Int) := by omega
        have HF : Hid (OR wr w1.heap.size u4 (rnL l)) := by
          have := HR.out
          rw [rnK_end (Nat.le_refl _), List.append_nil] at this
          show OR _ _ _ _
          rw [HE.out.2, this]
          exact HST.out.row
        go_wp2
        go_ret2
        rw [HE.out.1]
        exact ⟨_, rfl, HF.out, HST.out.bel⟩
  · have HE : Hid (rnE l = 1 ∧ rnL l = []) := ⟨by unfold rnE; rw [if_neg hw], by unfold rnL; rw [if_neg hw]⟩
    have hw' : wthb l = false := by simpa using hw
    rw [hw']
    go_wp2
    (try simp only [Exit.noGoto_ret])
    go_ret2
    rw [HE.out.1, HE.out.2]
    exact ⟨_, rfl, OR.nil _ _, Below.refl _ _⟩
end Go.Proofs.YtfoglaajnlbnbaaGreatDoor

namespace Go.Proofs.YtfoglaajnlbnbaaGreatDoor
open Go.RowKit Go.Maps
set_option maxRecDepth 20000
set_option linter.unusedVariables false

def mkL (l : List Int) : List Int := trm l 257
def mkD (d : List Int) : List Int := trm d 1
def mkE (l d : List Int) : Int := if 286 < l.length ∨ 30 < d.length ∨ wthb l = false ∨ wthb d = false then 1 else hck (mkL l) (mkD d)
def mkR (l d : List Int) : List Rn := rns (mkL l ++ mkD d)
def mkC (l d : List Int) : List Int := lmt (usg (mkR l d)) 7
def mkZ (l d : List Int) : Int := hsz (mkC l d) (mkR l d)

theorem usg_sound {R : List Rn} (h : R.length ≤ 1048576) : Sound (usg R) := by
  refine ⟨by rw [usg_len]; omega, fun i hi => ?_⟩
  rw [usg_len] at hi
  have := usg_le R i hi
  omega

theorem usg_us (R : List Rn) : (us6 (usg R)).length ≤ 2 ^ 7 := by
  have := usk_len (usg R) (usg R).length
  rw [usg_len] at this
  show (usk (usg R) (usg R).length).length ≤ 128
  rw [usg_len]
  omega

theorem usg_lm {R : List Rn} (h : R.length ≤ 1048576) : lmE (usg R) 7 = 0 ∧ lmL (usg R) 7 = lmt (usg R) 7 := by
  have hb : bnb (usg R) 4294967296 = true := bnb_iff.2 (usg_sound h).ok
  have h0 : lmE (usg R) 7 = 0 := by
    unfold lmE
    rw [if_neg (by rw [usg_len]; omega), if_neg (by rw [hb]; decide), if_neg (by have := usg_us R; show ¬ 2 ^ 7 < _; omega)]
  refine ⟨h0, ?_⟩
  unfold lmL
  rw [if_pos h0]
  rfl

theorem lmt7 {R : List Rn} (h : R.length ≤ 1048576) : (lmt (usg R) 7).length = 19 ∧ ∀ s, 0 ≤ (lmt (usg R) 7).getD s 0 ∧ (lmt (usg R) 7).getD s 0 ≤ 7 := by
  have g := gd_lmt (usg_sound h) (L := 7) (by omega) (usg_us R)
  have hl : (lmt (usg R) 7).length = 19 := by rw [lmt_len, usg_len]
  refine ⟨hl, fun s => ?_⟩
  by_cases hs : s < 19
  · by_cases z : (usg R).getD s 0 = 0
    · rw [g.zero s (by rw [usg_len]; exact hs) z]; omega
    · have := usg_le R s hs
      have := g.ok s (mem_us.2 ⟨by rw [usg_len]; exact hs, by omega⟩)
      omega
  · rw [show (lmt (usg R) 7).getD s 0 = 0 by rw [List.getD_eq_getElem?_getD, List.getElem?_eq_none (by omega)]; rfl]; omega

theorem trm_lens {l : List Int} {f : Nat} (hl : l.length ≤ 286) (hf : f ≤ 257) : f ≤ (trm l f).length ∧ (trm l f).length ≤ max l.length f := by
  rw [trm_len]
  have := tln_le l f
  omega

def Hbox (w : World) (g : Nat) (a b c d e : Value) : Prop := w.heap[g]? = some (.cells #[a, b, c, d, e] 129 (0, 0))

theorem Hbox.cells {w : World} {g : Nat} {a b c d e : Value} (h : Hbox w g a b c d e) : w.cell? ⟨g, 0, none⟩ = some a ∧ w.cell? ⟨g, 1, none⟩ = some b ∧ w.cell? ⟨g, 2, none⟩ = some c ∧ w.cell? ⟨g, 3, none⟩ = some d ∧ w.cell? ⟨g, 4, none⟩ = some e := by
  unfold Hbox at h
  refine ⟨?_, ?_, ?_, ?_, ?_⟩ <;> (unfold World.cell?; rw [h]; rfl)
theorem Hbox.frozen {w : World} {g : Nat} {a b c d e : Value} (h : Hbox w g a b c d e) : w.frozen? ⟨g, 0, none⟩ = false ∧ w.frozen? ⟨g, 1, none⟩ = false ∧ w.frozen? ⟨g, 2, none⟩ = false ∧ w.frozen? ⟨g, 3, none⟩ = false ∧ w.frozen? ⟨g, 4, none⟩ = false := by
  unfold Hbox at h
  refine ⟨?_, ?_, ?_, ?_, ?_⟩ <;> (unfold World.frozen?; rw [h]; rfl)
theorem Hbox.lt {w : World} {g : Nat} {a b c d e : Value} (h : Hbox w g a b c d e) : g < w.heap.size := by
  rcases Nat.lt_or_ge g w.heap.size with q | q
  · exact q
  · unfold Hbox at h; rw [Array.getElem?_eq_none q] at h; cases h
theorem Hbox.below {w w' : World} {g : Nat} {a b c d e : Value} (h : Hbox w g a b c d e) (hb : Below w.heap.size w w') : Hbox w' g a b c d e := (hb.block g h.lt).trans h
theorem Hbox.set {w : World} {g : Nat} {a b c d e : Value} (h : Hbox w g a b c d e) (v : Value) : Hbox (w.setCell ⟨g, 2, none⟩ v) g a b v d e ∧ Hbox (w.setCell ⟨g, 3, none⟩ v) g a b c v e ∧ Hbox (w.setCell ⟨g, 4, none⟩ v) g a b c d v := by
  refine ⟨?_, ?_, ?_⟩ <;> (unfold Hbox; rw [heap_setCell_at _ h]; rfl)
theorem Hbox.put {w : World} {g : Nat} {a b c d e a' b' c' d' e' : Value} (h : Hbox w g a b c d e) : Hbox (((((w.setCell ⟨g, 0, none⟩ a').setCell ⟨g, 1, none⟩ b').setCell ⟨g, 2, none⟩ c').setCell ⟨g, 3, none⟩ d').setCell ⟨g, 4, none⟩ e') g a' b' c' d' e' := by
  have h0 := heap_setCell_at (k := 0) a' h
  have h1 := heap_setCell_at (k := 1) b' h0
  have h2 := heap_setCell_at (k := 2) c' h1
  have h3 := heap_setCell_at (k := 3) d' h2
  exact (heap_setCell_at (k := 4) e' h3).trans rfl

theorem put_below {w w0 : World} {g B : Nat} {a' b' c' d' e' : Value} (h : Below B w0 w) (hB : B ≤ g) : Below B w0 (((((w.setCell ⟨g, 0, none⟩ a').setCell ⟨g, 1, none⟩ b').setCell ⟨g, 2, none⟩ c').setCell ⟨g, 3, none⟩ d').setCell ⟨g, 4, none⟩ e') :=
  ((((h.setCell (p := ⟨g, 0, none⟩) hB _).setCell (p := ⟨g, 1, none⟩) hB _).setCell (p := ⟨g, 2, none⟩) hB _).setCell (p := ⟨g, 3, none⟩) hB _).setCell (p := ⟨g, 4, none⟩) hB _

structure Mkd (w : World) (B : Nat) (vL vD vC vR : Value) (L D C : List Int) (R : List Rn) : Prop where
  l : OI w B vL L
  d : OI w B vD D
  c : OI w B vC C
  r : OR w B vR R

theorem Mkd.below {w w' : World} {B : Nat} {vL vD vC vR : Value} {L D C : List Int} {R : List Rn} (h : Mkd w B vL vD vC vR L D C R) (hb : Below w.heap.size w w') : Mkd w' B vL vD vC vR L D C R :=
  ⟨h.l.below hb (Nat.le_refl _), h.d.below hb (Nat.le_refl _), h.c.below hb (Nat.le_refl _), h.r.below hb (Nat.le_refl _)⟩
end Go.Proofs.YtfoglaajnlbnbaaGreatDoor

