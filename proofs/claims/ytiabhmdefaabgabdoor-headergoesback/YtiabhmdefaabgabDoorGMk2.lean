import Derived.Test.YtiabhmdefaabgabDoorGMk1
import Derived.Test.YtiabhmdefaabgabDoorGRw1
import Derived.Test.YtiabhmdefaabgabDoorG5b
namespace Go.Proofs.YtiabhmdefaabgabDoor
open Go.RowKit Go.Maps
set_option maxRecDepth 20000
set_option linter.unusedVariables false

/-- The order of the small code's lengths. -/
def zor : List Int := [16, 17, 18, 0, 8, 7, 9, 6, 10, 5, 11, 4, 12, 3, 13, 2, 14, 1, 15]
theorem zor_at : ∀ n : Nat, n < 19 → 0 ≤ zor.getD n 0 ∧ zor.getD n 0 < 19 := by decide

structure Odr (w : World) : Prop where
  get : ∀ i : Nat, i < 19 → w.cell? ⟨2, i, none⟩ = some (.int .i64 (zor.getD i 0))

theorem Odr.mono {w w' : World} (h : Odr w) (hb : Below w.heap.size w w') : Odr w' := ⟨fun i hi => (hb.cell (World.block_lt_of_cell? w _ (h.get i hi))).trans (h.get i hi)⟩

/-- May a block have these two codes? -/
def hck (l d : List Int) : Int := if l.getD 256 0 = 0 ∨ (chkS l ≠ 4 ∧ chkS l ≠ 1) then 75 else if chkS d ≠ 4 ∧ chkS d ≠ 1 ∧ chkS d ≠ 0 then 76 else 0

set_option maxHeartbeats 1000000 in
theorem hcheck_any (v1 v2 : Value) (l1 l2 : List Int) (w : World) (s1 : SI w v1 l1) (s2 : SI w v2 l2) (hl : 257 ≤ l1.length) :
    Calls Tryd.prog 33 #[v1, v2] w fun e w' => e = .returned (.int .i64 (hck l1 l2)) ∧ Below w.heap.size w w' := by
  have H1 := hide s1
  have H2 := hide s2
  obtain ⟨a1, c1, rfl, hc1, hd1⟩ := s1.open
  obtain ⟨a2, c2, rfl, hc2, hd2⟩ := s2.open
  clear s1 s2
  have hl' : (256 : Int) < (l1.length : Int) := by omega
  go_enter Tryd.func33, Tryd.ntmps33
  go_wp2_with fail
  refine (check_any _ l1 w H1.out).mono ?_
  rintro e w1 ⟨rfl, b1⟩
  obtain ⟨b, o, rfl, hc⟩ := H1.out.get b1 (k := 256) (by omega)
  have HB1 := hide b1
  have H21 := hide (H2.out.below b1)
  have HK : Hid (hck l1 l2 = if l1.getD 256 0 = 0 ∨ (chkS l1 ≠ 4 ∧ chkS l1 ≠ 1) then 75 else if chkS l2 ≠ 4 ∧ chkS l2 ≠ 1 ∧ chkS l2 ≠ 0 then 76 else 0) := rfl
  obtain ⟨y, HY⟩ : ∃ y, Hid (y = l1.getD 256 0) := ⟨_, rfl⟩
  obtain ⟨S, HSS⟩ : ∃ S, Hid (S = chkS l1) := ⟨_, rfl⟩
  rw [← HY.out] at hc HK
  rw [← HSS.out] at HK ⊢
  clear b1
  by_cases y0 : y = 0
  · have HR : Hid (hck l1 l2 = 75) := by show _ = _; rw [HK.out, if_pos (.inl y0)]
    subst y0
    go_wp2
    go_ret
    rw [HR.out]
    exact ⟨rfl, HB1.out⟩
  · have y0' : (y == 0) = false := by simpa using y0
    by_cases sok : S = 4 ∨ S = 1
    · have HK2 : Hid (hck l1 l2 = if chkS l2 ≠ 4 ∧ chkS l2 ≠ 1 ∧ chkS l2 ≠ 0 then 76 else 0) := by show _ = _; rw [HK.out, if_neg (by omega)]
      have HCK := hide (check_any _ l2 w1 H21.out)
      obtain ⟨U, HU⟩ : ∃ U, Hid (U = chkS l2) := ⟨_, rfl⟩
      rw [← HU.out] at HK2 HCK
      have tail : ∀ (Z : Prop), Z → Z := fun _ z => z
      rcases sok with rfl | rfl
      all_goals
        go_wp2_with fail
        refine HCK.out.mono ?_
        rintro e w2 ⟨rfl, b2⟩
        have HB2 := hide (HB1.out.trans (b2.mono HB1.out.size))
        clear b2
        by_cases u4 : U = 4
        · have HR : Hid (hck l1 l2 = 0) := by show _ = _; rw [HK2.out, if_neg (by omega)]
          subst u4
          go_wp2
          go_ret
          rw [HR.out]
          exact ⟨rfl, HB2.out⟩
        · have u4' : (U != 4) = true := by simpa using u4
          by_cases u1 : U = 1
          · have HR : Hid (hck l1 l2 = 0) := by show _ = _; rw [HK2.out, if_neg (by omega)]
            subst u1
            go_wp2
            go_ret
            rw [HR.out]
            exact ⟨rfl, HB2.out⟩
          · have u1' : (U != 1) = true := by simpa using u1
            by_cases u0 : U = 0
            · have HR : Hid (hck l1 l2 = 0) := by show _ = _; rw [HK2.out, if_neg (by omega)]
              subst u0
              go_wp2
              go_ret
              rw [HR.out]
              exact ⟨rfl, HB2.out⟩
            · have u0' : (U != 0) = true := by simpa using u0
              have HR : Hid (hck l1 l2 = 76) := by show _ = _; rw [HK2.out, if_pos ⟨u4, u1, u0⟩]
              go_wp2
              go_ret
              rw [HR.out]
              exact ⟨rfl, HB2.out⟩
    · have s4 : (S != 4) = true := by simp; omega
      have s1 : (S != 1) = true := by simp; omega
      have HR : Hid (hck l1 l2 = 75) := by show _ = _; rw [HK.out, if_pos (.inr (by omega))]
      go_wp2
      go_ret
      rw [HR.out]
      exact ⟨rfl, HB1.out⟩

/-- How often each symbol of the small code is the Sym of a run. -/
def usg (R : List Rn) : List Int := (List.range 19).map fun (s : Nat) => (((R.map (·.1)).count (s : Int) : Nat) : Int)
theorem usg_len (R : List Rn) : (usg R).length = 19 := by simp [usg]
theorem usg_at (R : List Rn) {s : Nat} (h : s < 19) : (usg R).getD s 0 = (((R.map (·.1)).count (s : Int) : Nat) : Int) := by
  simp only [usg, List.getD_eq_getElem?_getD, List.getElem?_map, List.getElem?_range h]
  rfl
theorem usg_nil : usg [] = List.replicate 19 0 := by decide
theorem usg_snoc (R : List Rn) (s : Nat) (c : Int) (h : s < 19) : usg (R ++ [((s : Int), c)]) = (usg R).set s ((usg R).getD s 0 + 1) := by
  apply List.ext_getElem?
  intro i
  rw [List.getElem?_set, usg_len]
  by_cases hi : i < 19
  · have e1 : (usg (R ++ [((s : Int), c)]))[i]? = some ((usg (R ++ [((s : Int), c)])).getD i 0) := by
      rw [List.getD_eq_getElem?_getD, List.getElem?_eq_getElem (by rw [usg_len]; exact hi)]; rfl
    have e2 : (usg R)[i]? = some ((usg R).getD i 0) := by
      rw [List.getD_eq_getElem?_getD, List.getElem?_eq_getElem (by rw [usg_len]; exact hi)]; rfl
    rw [e1, usg_at _ hi, List.map_append, List.count_append]
    by_cases q : s = i
    · subst q
      rw [if_pos rfl, if_pos h, usg_at _ h]
      simp
    · rw [if_neg q, e2, usg_at _ hi]
      have : List.count (i : Int) [(s : Int)] = 0 := by rw [List.count_eq_zero]; simp; omega
      simp only [List.map_cons, List.map_nil, this]
      simp
  · rw [List.getElem?_eq_none (by rw [usg_len]; omega)]
    by_cases q : s = i
    · rw [if_pos q, if_neg (by omega)]
    · rw [if_neg q, List.getElem?_eq_none (by rw [usg_len]; omega)]

theorem usg_le (R : List Rn) (s : Nat) (h : s < 19) : 0 ≤ (usg R).getD s 0 ∧ (usg R).getD s 0 ≤ R.length := by
  rw [usg_at R h]
  have := List.count_le_length (a := (s : Int)) (l := R.map (·.1))
  rw [List.length_map] at this
  omega

set_option maxHeartbeats 1000000 in
theorem huses_any (v : Value) (R : List Rn) (w : World) (h : SR w v R) (hok : ∀ r ∈ R, Okr r) (hn : R.length ≤ 1048576) :
    Calls Tryd.prog 37 #[v] w fun e w' => ∃ g, e = .returned (.slice (some ⟨g, 0, none⟩) 19 19) ∧ OI w' w.heap.size (.slice (some ⟨g, 0, none⟩) 19 19) (usg R) ∧ Below w.heap.size w w' := by
  have HS := hide h
  have HOK := hide hok
  obtain ⟨ao, cap, rfl, hlc, hcm⟩ := h.open
  clear h hok
  go_enter Tryd.func37, Tryd.ntmps37
  go_wp2_with (at_make; refine wpList_mkI rfl _ _ rfl _ _ _ _ 19 19 rfl rfl rfl rfl (Nat.le_refl _) (by omega) ?_)
  intro w1 hg1 hb1
  have HO1 : Hid (OI w1 w.heap.size (.slice (some ⟨w.heap.size, 0, none⟩) 19 19) (usg [])) := by
    rw [usg_nil]
    exact hide (OI.of_full (l := List.replicate 19 0) (by rw [hg1]; rfl) (Nat.le_refl _) (by unfold maxLen; simp))
  have HB1 := hide hb1
  clear hg1 hb1
  go_wp2
  go_loopw [9] (fun i wr => ∃ k : Nat, k ≤ R.length ∧ i = .int .i64 k ∧ Hid (OI wr w.heap.size (.slice (some ⟨w.heap.size, 0, none⟩) 19 19) (usg (R.take k))) ∧ Hid (Below w.heap.size w wr)) (fun i _ => R.length - (intOf i).toNat)
  case atStart => exact ⟨0, Nat.zero_le _, rfl, HO1.out, HB1.out⟩
  case round =>
    obtain ⟨k, hk, rfl, HO, HB⟩ := hrel
    by_cases hlt : k < R.length
    · have hlt' : (k : Int) < (R.length : Int) := by omega
      obtain ⟨b, o, rfl, c1, c2⟩ := HS.out.get HB.out hlt
      have ok : Okr (R.getD k rn0) := HOK.out _ (by rw [show R.getD k rn0 = R[k] by simp [hlt]]; exact List.getElem_mem hlt)
      have h1 := ok.1
      have h2 := ok.2.1
      have HSN : Hid (R.take (k + 1) = R.take k ++ [R.getD k rn0]) := by show _ = _; rw [List.take_succ_eq_append_getElem hlt]; simp [hlt]
      obtain ⟨r, hr⟩ : ∃ r, r = R.getD k rn0 := ⟨_, rfl⟩
      rw [← hr] at c1 c2 h1 h2 HSN
      obtain ⟨s', c⟩ := r
      simp only at c1 c2 h1 h2
      obtain ⟨s, rfl⟩ := Int.eq_ofNat_of_zero_le h1
      have hs : s < 19 := by omega
      have hs' : (s : Int) < 19 := by omega
      clear hr ok h1 h2
      obtain ⟨wx, hwx⟩ : ∃ wx, wr.alloc (.cells #[.int .i64 s, .int .i64 c] 87) = wx := ⟨_, rfl⟩
      have HBX : Hid (Below w.heap.size w wx) := by rw [← hwx]; exact hide (HB.out.alloc HB.out.size _)
      have HOX : Hid (OI wx w.heap.size (.slice (some ⟨w.heap.size, 0, none⟩) 19 19) (usg (R.take k))) := by rw [← hwx]; exact hide (HO.out.alloc _)
      have z0 : wx.cell? ⟨wr.heap.size, 0, none⟩ = some (.int .i64 s) := by rw [← hwx]; unfold World.cell?; simp only [heap_alloc_new]; rfl
      have y0 := HOX.out.get (b := w.heap.size) rfl (i := s) (by rw [usg_len]; exact hs)
      have hbd := usg_le (R.take k) s hs
      obtain ⟨g, cc, hv, _, hfz, hput⟩ := HOX.out.put (k := s) (by rw [usg_len]; exact hs) ((usg (R.take k)).getD s 0 + 1)
      simp only [Value.slice.injEq, Option.some.injEq, Addr.mk.injEq, and_true] at hv
      obtain ⟨rfl, -, -⟩ := hv
      rw [← usg_snoc (R.take k) s c hs, ← HSN.out] at hput
      have HP := hide hput
      have hRl : (R.take k).length ≤ 1048576 := by rw [List.length_take]; omega
      obtain ⟨Y, hY⟩ : ∃ Y, Y = (usg (R.take k)).getD s 0 := ⟨_, rfl⟩
      rw [← hY] at y0 hbd HP
      have hY1 : 0 ≤ Y := hbd.1
      have hY2 : Y ≤ 1048576 := by omega
      have HBN : Hid (Below w.heap.size w (wx.setCell ⟨w.heap.size, s, none⟩ (.int .i64 (Y + 1)))) := HBX.out.setCell (p := ⟨w.heap.size, s, none⟩) (Nat.le_refl _) _
      clear hput hY hbd
      go_wp2
      go_roundw
      case rel => exact ⟨k + 1, by omega, by go_num, HP, HBN⟩
      case measure => simp [intOf]; omega
    · obtain rfl : k = R.length := by omega
      have hlt' : ¬ (R.length : Int) < (R.length : Int) := by omega
      have HF : Hid (OI wr w.heap.size (.slice (some ⟨w.heap.size, 0, none⟩) 19 19) (usg R)) := by have := HO.out; rwa [List.take_of_length_le (Nat.le_refl _)] at this
      go_wp2
      go_ret
      exact ⟨_, rfl, HF.out, HB.out⟩
end Go.Proofs.YtiabhmdefaabgabDoor

