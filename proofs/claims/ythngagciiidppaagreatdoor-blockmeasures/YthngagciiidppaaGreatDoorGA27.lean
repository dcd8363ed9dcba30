import Derived.Test.YthngagciiidppaaGreatDoorGA26
import Derived.Test.YthngagciiidppaaGreatDoorGA25
namespace Go.Proofs.YthngagciiidppaaGreatDoor
open Go.RowKit Go.Maps
set_option maxRecDepth 20000
set_option linter.unusedVariables false

theorem tab_cases (s : Nat) (h : s < 19) : (lst s = 1 ∧ frt s = 0 ∧ mst s = 1) ∨ (lst s = 3 ∧ frt s = 2 ∧ mst s = 6) ∨ (lst s = 3 ∧ frt s = 3 ∧ mst s = 10) ∨ (lst s = 11 ∧ frt s = 7 ∧ mst s = 138) := by
  unfold lst frt mst
  by_cases h1 : (s : Int) < 16
  · left; rw [if_pos h1, if_pos h1, if_pos h1]; exact ⟨rfl, rfl, rfl⟩
  · by_cases h2 : (s : Int) = 16
    · right; left; rw [h2]; exact ⟨rfl, rfl, rfl⟩
    · by_cases h3 : (s : Int) = 17
      · right; right; left; rw [h3]; exact ⟨rfl, rfl, rfl⟩
      · right; right; right; rw [show (s : Int) = 18 by omega]; exact ⟨rfl, rfl, rfl⟩

theorem most_any (s : Nat) (w : World) (hs : s < 19) (T : Tab w) : Calls Tryz.prog 95 #[.int .i64 s] w fun e w' => e = .returned (.int .i64 (mst s)) ∧ ∃ q, w' = w.drewN q := by
  have c1 := T.least s hs
  have c2 := T.further s hs
  have hs' : (s : Int) < 19 := by omega
  have C := tab_cases s hs
  clear T
  rcases C with ⟨a, b, c⟩ | ⟨a, b, c⟩ | ⟨a, b, c⟩ | ⟨a, b, c⟩ <;>
  · rw [a] at c1
    rw [b] at c2
    rw [c]
    clear a b c
    go_enter Tryz.func95, Tryz.ntmps95
    go_wp2
    go_quiet (fail)
    go_wp2
    go_ret
    exact ⟨rfl, _, rfl⟩

theorem all_snoc {l : List Int} {k : Nat} (hk : k < l.length) (h : ∀ x ∈ l.take k, 0 ≤ x ∧ x ≤ 15) (h1 : 0 ≤ l.getD k 0 ∧ l.getD k 0 ≤ 15) : ∀ x ∈ l.take (k + 1), 0 ≤ x ∧ x ≤ 15 := by
  intro x hx
  rw [List.take_succ_eq_append_getElem hk] at hx
  rcases List.mem_append.1 hx with e | e
  · exact h x e
  · rw [List.mem_singleton.1 e]
    have : l.getD k 0 = l[k] := by simp [hk]
    rw [← this]; exact h1

theorem wth_bad {l : List Int} {k : Nat} (hk : k < l.length) (h : ¬ (0 ≤ l.getD k 0 ∧ l.getD k 0 ≤ 15)) : wthb l = false := by
  rw [Bool.eq_false_iff]
  intro e
  exact h (wth_iff.1 e _ (by rw [show l.getD k 0 = l[k] by simp [hk]]; exact List.getElem_mem hk))

theorem codeLengths_any (v : Value) (l : List Int) (w : World) (h : SI w v l) :
    Calls Tryz.prog 51 #[v] w fun e w' => e = .returned (.bool (wthb l)) ∧ w' = w := by
  have HS := hide h
  obtain ⟨ao, cap, rfl, hlc, hcm⟩ := h.open
  clear h
  go_enter Tryz.func51, Tryz.ntmps51
  go_wp2
  go_loopw [7] (fun i wr => ∃ k : Nat, k ≤ l.length ∧ i = .int .i64 k ∧ wr = w ∧ Hid (∀ x ∈ l.take k, 0 ≤ x ∧ x ≤ 15)) (fun i _ => l.length - (intOf i).toNat)
  case atStart => exact ⟨0, Nat.zero_le _, rfl, rfl, fun x hx => by simp at hx⟩
  case round =>
    obtain ⟨k, hk, rfl, hw, HA⟩ := hrel
    subst hw
    by_cases hlt : k < l.length
    · have hlt' : (k : Int) < (l.length : Int) := by omega
      obtain ⟨b, o, rfl, hc⟩ := HS.out.get (Below.refl _ _) hlt
      have HN := hide (fun q => all_snoc hlt HA.out q)
      have HB := hide (fun q => wth_bad hlt q)
      obtain ⟨y, HY⟩ : ∃ y, Hid (y = l.getD k 0) := ⟨_, rfl⟩
      rw [← HY.out] at hc HN HB
      by_cases h0 : y < 0
      · have HF : Hid (wthb l = false) := HB.out (by omega)
        go_wp2
        go_ret
        rw [HF.out]
        exact ⟨rfl, rfl⟩
      · by_cases h15 : 15 < y
        · have HF : Hid (wthb l = false) := HB.out (by omega)
          go_wp2
          go_ret
          rw [HF.out]
          exact ⟨rfl, rfl⟩
        · have HN2 := hide (HN.out ⟨by omega, by omega⟩)
          go_wp2
          go_roundw
          case rel => exact ⟨k + 1, by omega, by go_num, trivial, HN2⟩
          case measure => simp [intOf]; omega
    · obtain rfl : k = l.length := by omega
      have hlt' : ¬ (l.length : Int) < (l.length : Int) := by omega
      have HF : Hid (wthb l = true) := wth_iff.2 (by have := HA.out; rwa [List.take_of_length_le (Nat.le_refl _)] at this)
      go_wp2
      go_ret
      rw [HF.out]
      exact ⟨rfl, rfl⟩

theorem meant_any (s : Int) (v : Value) (l : List Int) (w : World) (h : SI w v l) (h16 : s = 16 → 0 < l.length) :
    Calls Tryz.prog 94 #[.int .i64 s, v] w fun e w' => e = .returned (.int .i64 (mnt s l)) ∧ w' = w := by
  have HS := hide h
  obtain ⟨ao, cap, rfl, hlc, hcm⟩ := h.open
  clear h
  by_cases c1 : s < 16
  · have HM : Hid (mnt s l = s) := by show _ = _; unfold mnt; rw [if_pos c1]
    clear h16
    go_enter Tryz.func94, Tryz.ntmps94
    go_wp2
    go_ret
    rw [HM.out]
    exact ⟨rfl, rfl⟩
  · by_cases c2 : s = 16
    · subst c2
      have hl := h16 rfl
      obtain ⟨b, o, rfl, hc⟩ := HS.out.get (Below.refl _ _) (k := l.length - 1) (by omega)
      have HM : Hid (mnt 16 l = l.getD (l.length - 1) 0) := rfl
      obtain ⟨y, HY⟩ : ∃ y, Hid (y = l.getD (l.length - 1) 0) := ⟨_, rfl⟩
      rw [← HY.out] at hc HM
      obtain ⟨n, hn⟩ : ∃ n, l.length = n + 1 := ⟨l.length - 1, by omega⟩
      rw [hn] at hc hlc ⊢
      rw [Nat.add_sub_cancel] at hc
      clear HS hl hn h16 c1
      go_enter Tryz.func94, Tryz.ntmps94
      go_wp2
      go_ret
      rw [HM.out]
      exact ⟨rfl, rfl⟩
    · have HM : Hid (mnt s l = 0) := by show _ = _; unfold mnt; rw [if_neg c1, if_neg c2]
      have c3 : (s == 16) = false := by simpa using c2
      clear h16
      go_enter Tryz.func94, Tryz.ntmps94
      go_wp2
      go_ret
      rw [HM.out]
      exact ⟨rfl, rfl⟩
end Go.Proofs.YthngagciiidppaaGreatDoor

namespace Go.Proofs.YthngagciiidppaaGreatDoor
open Go.RowKit Go.Maps
set_option maxRecDepth 20000

instance (l : List Int) : Decidable (Lens l) := by unfold Lens; exact inferInstance

def chkE (l : List Int) : Int := if 288 < l.length then 1 else if Lens l then 0 else 50
def chkS (l : List Int) : Int := if Lens l then shp l else 0

def okTo (l : List Int) (k : Nat) : Prop := ∀ i, i < k → 0 ≤ l.getD i 0 ∧ l.getD i 0 ≤ 15

theorem okTo_lens {l : List Int} (h : okTo l l.length) (h2 : l.length ≤ 288) : Lens l := by
  refine ⟨h2, fun x hx => ?_⟩
  obtain ⟨i, hi, rfl⟩ := List.getElem_of_mem hx
  have := h i hi
  rwa [show l.getD i 0 = l[i] by simp [hi]] at this

theorem okTo_succ {l : List Int} {k : Nat} (h : okTo l k) (hk : 0 ≤ l.getD k 0 ∧ l.getD k 0 ≤ 15) : okTo l (k + 1) := fun i hi => by
  by_cases e : i = k
  · subst e; exact hk
  · exact h i (by omega)

theorem not_lens {l : List Int} {k : Nat} (h : ¬ (0 ≤ l.getD k 0 ∧ l.getD k 0 ≤ 15)) : ¬ Lens l := fun hl => h (hl.at k)

theorem check_any (v : Value) (l : List Int) (w : World) (h : SI w v l) :
    Calls Tryz.prog 74 #[v] w fun e w' => e = .returned (.tuple #[.int .i64 (chkS l), .int .i64 (chkE l)]) ∧ Below w.heap.size w w' := by
  have HS := hide h
  obtain ⟨ao, cap, rfl, hlc, hcm⟩ := h.open
  clear h
  by_cases hlen : 288 < l.length
  · have hlen' : (288 : Int) < l.length := by omega
    have hn : ¬ Lens l := fun h => by have := h.1; omega
    have HE : Hid (chkE l = 1 ∧ chkS l = 0) := ⟨if_pos hlen, if_neg hn⟩
    clear hn
    go_enter Tryz.func74, Tryz.ntmps74
    go_wp2
    go_ret2
    rw [HE.out.1, HE.out.2]
    exact ⟨rfl, Below.refl _ _⟩
  have hlen' : ¬ (288 : Int) < l.length := by omega
  have HNL := hide hlen
  clear hlen
  go_enter Tryz.func74, Tryz.ntmps74
  go_wp2
  go_loopw [11] (fun i wr => ∃ k : Nat, k ≤ l.length ∧ i = .int .i64 k ∧ wr = w ∧ Hid (okTo l k)) (fun i _ => l.length - (intOf i).toNat)
  case atStart => exact ⟨0, Nat.zero_le _, rfl, rfl, fun i hi => by omega⟩
  case round =>
    obtain ⟨k, hk, rfl, rfl, HT⟩ := hrel
    by_cases hlt : k < l.length
    · have hlt' : (k : Int) < (l.length : Int) := by omega
      obtain ⟨b, o, rfl, hc⟩ := HS.out.get (Below.refl _ _) hlt
      obtain ⟨x, HX⟩ : ∃ x, Hid (x = l.getD k 0) := ⟨_, rfl⟩
      rw [← HX.out] at hc
      by_cases hb : 0 ≤ x ∧ x ≤ 15
      · have HN : Hid (okTo l (k + 1)) := okTo_succ HT.out (by rw [← HX.out]; exact hb)
        obtain ⟨b0, b1⟩ := hb
        have b0' : ¬ x < 0 := by omega
        have b1' : ¬ 15 < x := by omega
        clear HT
        go_wp2
        go_roundw
        case rel => exact ⟨k + 1, by omega, by go_num, by trivial, HN⟩
        case measure => simp [intOf]; omega
      · have hn : ¬ Lens l := not_lens (k := k) (by rw [← HX.out]; exact hb)
        have HE : Hid (chkE l = 50 ∧ chkS l = 0) := ⟨by unfold chkE; rw [if_neg HNL.out, if_neg hn], if_neg hn⟩
        clear hn
        by_cases b0 : x < 0
        · clear hb
          go_wp2
          go_ret2
          rw [HE.out.1, HE.out.2]
          exact ⟨rfl, Below.refl _ _⟩
        · have b1 : 15 < x := by omega
          clear hb
          go_wp2
          go_ret2
          rw [HE.out.1, HE.out.2]
          exact ⟨rfl, Below.refl _ _⟩
    · obtain rfl : k = l.length := by omega
      have hl : Lens l := okTo_lens HT.out (by have := HNL.out; omega)
      have HL := hide hl
      have HE : Hid (chkE l = 0 ∧ chkS l = shp l) := ⟨by unfold chkE; rw [if_neg HNL.out, if_pos hl], if_pos hl⟩
      have hlt' : ¬ (l.length : Int) < (l.length : Int) := by omega
      clear hl HT
      go_wp2_with fail
      refine (count_any _ l _ HS.out HL.out).mono ?_
      rintro e w1 ⟨rfl, hb1⟩
      have HB1 := hide hb1
      clear hb1
      go_wp2_with fail
      refine (shape_any l _ HL.out).mono ?_
      rintro e w2 ⟨rfl, hb2⟩
      have HB2 : Hid (Below wr.heap.size wr w2) := HB1.out.trans (hb2.mono HB1.out.size)
      clear hb2
      go_wp2
      go_ret2
      rw [HE.out.1, HE.out.2]
      exact ⟨rfl, HB2.out⟩

def cdE (l : List Int) : Int := if chkE l ≠ 0 then chkE l else if shp l = 3 then 51 else 0
def cdL (l : List Int) : List Int := if cdE l = 0 then wds l else []

theorem chkE_zero {l : List Int} (h : chkE l = 0) : Lens l ∧ chkS l = shp l := by
  unfold chkE at h
  by_cases h1 : 288 < l.length
  · rw [if_pos h1] at h; omega
  · rw [if_neg h1] at h
    by_cases h2 : Lens l
    · exact ⟨h2, if_pos h2⟩
    · rw [if_neg h2] at h; omega

end Go.Proofs.YthngagciiidppaaGreatDoor

namespace Go.Proofs.YthngagciiidppaaGreatDoor
open Go.RowKit Go.Maps
set_option maxRecDepth 20000
set_option linter.unusedVariables false

/-- The order of the small code's lengths. -/
def zor : List Int := [16, 17, 18, 0, 8, 7, 9, 6, 10, 5, 11, 4, 12, 3, 13, 2, 14, 1, 15]
theorem zor_at : ∀ n : Nat, n < 19 → 0 ≤ zor.getD n 0 ∧ zor.getD n 0 < 19 := by decide

structure Odr (w : World) : Prop where
  get : ∀ i : Nat, i < 19 → w.cell? ⟨5, i, none⟩ = some (.int .i64 (zor.getD i 0))

theorem Odr.mono {w w' : World} (h : Odr w) (hb : Below w.heap.size w w') : Odr w' := ⟨fun i hi => (hb.cell (World.block_lt_of_cell? w _ (h.get i hi))).trans (h.get i hi)⟩

/-- May a block have these two codes? -/
def hck (l d : List Int) : Int := if l.getD 256 0 = 0 ∨ (chkS l ≠ 4 ∧ chkS l ≠ 1) then 75 else if chkS d ≠ 4 ∧ chkS d ≠ 1 ∧ chkS d ≠ 0 then 76 else 0

set_option maxHeartbeats 1000000 in
theorem hcheck_any (v1 v2 : Value) (l1 l2 : List Int) (w : World) (s1 : SI w v1 l1) (s2 : SI w v2 l2) (hl : 257 ≤ l1.length) :
    Calls Tryz.prog 53 #[v1, v2] w fun e w' => e = .returned (.int .i64 (hck l1 l2)) ∧ Below w.heap.size w w' := by
  have H1 := hide s1
  have H2 := hide s2
  obtain ⟨a1, c1, rfl, hc1, hd1⟩ := s1.open
  obtain ⟨a2, c2, rfl, hc2, hd2⟩ := s2.open
  clear s1 s2
  have hl' : (256 : Int) < (l1.length : Int) := by omega
  go_enter Tryz.func53, Tryz.ntmps53
  go_wp2_with fail
  refine (check_any _ l1 w H1.out).mono ?_
  rintro e w1 ⟨rfl, b1⟩
  obtain ⟨b, o, rfl, hc⟩ := H1.out.get b1 (k := 256) (by omega)
  have HB1 := hide b1
  have H21 := hide (H2.out.below b1)
  have HK : Hid (hck l1 l2 = if l1.getD 256 0 = 0 ∨ (chkS l1 ≠ 4 ∧ chkS l1 ≠ 1) then 75 else if chkS l2 ≠ 4 ∧ chkS l2 ≠ 1 ∧ chkS l2 ≠ 0 then 76 else 0) := rfl
  obtain ⟨y, HY⟩ : ∃ y, Hid (y = l1.getD 256 0) := ⟨_, rfl⟩
  obtain ⟨S, HSS⟩ : ∃ S, Hid (S = chkS l1) := ⟨_, rfl⟩
  rw [← HY.out] at hc HK
  rw [← HSS.out] at HK ⊢
  clear b1
  by_cases y0 : y = 0
  · have HR : Hid (hck l1 l2 = 75) := by show _ = _; rw [HK.out, if_pos (.inl y0)]
    subst y0
    go_wp2
    go_ret
    rw [HR.out]
    exact ⟨rfl, HB1.out⟩
  · have y0' : (y == 0) = false := by simpa using y0
    by_cases sok : S = 4 ∨ S = 1
    · have HK2 : Hid (hck l1 l2 = if chkS l2 ≠ 4 ∧ chkS l2 ≠ 1 ∧ chkS l2 ≠ 0 then 76 else 0) := by show _ = _; rw [HK.out, if_neg (by omega)]
      have HCK := hide (check_any _ l2 w1 H21.out)
      obtain ⟨U, HU⟩ : ∃ U, Hid (U = chkS l2) := ⟨_, rfl⟩
      rw [← HU.out] at HK2 HCK
      have tail : ∀ (Z : Prop), Z → Z := fun _ z => z
      rcases sok with rfl | rfl
      all_goals
        go_wp2_with fail
        refine HCK.out.mono ?_
        rintro e w2 ⟨rfl, b2⟩
        have HB2 := hide (HB1.out.trans (b2.mono HB1.out.size))
        clear b2
        by_cases u4 : U = 4
        · have HR : Hid (hck l1 l2 = 0) := by show _ = _; rw [HK2.out, if_neg (by omega)]
          subst u4
          go_wp2
          go_ret
          rw [HR.out]
          exact ⟨rfl, HB2.out⟩
        · have u4' : (U != 4) = true := by simpa using u4
          by_cases u1 : U = 1
          · have HR : Hid (hck l1 l2 = 0) := by show _ = _; rw [HK2.out, if_neg (by omega)]
            subst u1
            go_wp2
            go_ret
            rw [HR.out]
            exact ⟨rfl, HB2.out⟩
          · have u1' : (U != 1) = true := by simpa using u1
            by_cases u0 : U = 0
            · have HR : Hid (hck l1 l2 = 0) := by show _ = _; rw [HK2.out, if_neg (by omega)]
              subst u0
              go_wp2
              go_ret
              rw [HR.out]
              exact ⟨rfl, HB2.out⟩
            · have u0' : (U != 0) = true := by simpa using u0
              have HR : Hid (hck l1 l2 = 76) := by show _ = _; rw [HK2.out, if_pos ⟨u4, u1, u0⟩]
              go_wp2
              go_ret
              rw [HR.out]
              exact ⟨rfl, HB2.out⟩
    · have s4 : (S != 4) = true := by simp; omega
      have s1 : (S != 1) = true := by simp; omega
      have HR : Hid (hck l1 l2 = 75) := by show _ = _; rw [HK.out, if_pos (.inr (by omega))]
      go_wp2
      go_ret
      rw [HR.out]
      exact ⟨rfl, HB1.out⟩

/-- How often each symbol of the small code is the Sym of a run. -/
def usg (R : List Rn) : List Int := (List.range 19).map fun (s : Nat) => (((R.map (·.1)).count (s : Int) : Nat) : Int)
theorem usg_len (R : List Rn) : (usg R).length = 19 := by simp [usg]
theorem usg_at (R : List Rn) {s : Nat} (h : s < 19) : (usg R).getD s 0 = (((R.map (·.1)).count (s : Int) : Nat) : Int) := by
  simp only [usg, List.getD_eq_getElem?_getD, List.getElem?_map, List.getElem?_range h]
  rfl
theorem usg_nil : usg [] = List.replicate 19 0 := by decide
theorem usg_snoc (R : List Rn) (s : Nat) (c : Int) (h : s < 19) : usg (R ++ [((s : Int), c)]) = (usg R).set s ((usg R).getD s 0 + 1) := by
  apply List.ext_getElem?
  intro i
  rw [List.getElem?_set, usg_len]
  by_cases hi : i < 19
  · have e1 : (usg (R ++ [((s : Int), c)]))[i]? = some ((usg (R ++ [((s : Int), c)])).getD i 0) := by
      rw [List.getD_eq_getElem?_getD, List.getElem?_eq_getElem (by rw [usg_len]; exact hi)]; rfl
    have e2 : (usg R)[i]? = some ((usg R).getD i 0) := by
      rw [List.getD_eq_getElem?_getD, List.getElem?_eq_getElem (by rw [usg_len]; exact hi)]; rfl
    rw [e1, usg_at _ hi, List.map_append, List.count_append]
    by_cases q : s = i
    · subst q
      rw [if_pos rfl, if_pos h, usg_at _ h]
      simp
    · rw [if_neg q, e2, usg_at _ hi]
      have : List.count (i : Int) [(s : Int)] = 0 := by rw [List.count_eq_zero]; simp; omega
      simp only [List.map_cons, List.map_nil, this]
      simp
  · rw [List.getElem?_eq_none (by rw [usg_len]; omega)]
    by_cases q : s = i
    · rw [if_pos q, if_neg (by omega)]
    · rw [if_neg q, List.getElem?_eq_none (by rw [usg_len]; omega)]

theorem usg_le (R : List Rn) (s : Nat) (h : s < 19) : 0 ≤ (usg R).getD s 0 ∧ (usg R).getD s 0 ≤ R.length := by
  rw [usg_at R h]
  have := List.count_le_length (a := (s : Int)) (l := R.map (·.1))
  rw [List.length_map] at this
  omega

set_option maxHeartbeats 1000000 in
theorem huses_any (v : Value) (R : List Rn) (w : World) (h : SR w v R) (hok : ∀ r ∈ R, Okr r) (hn : R.length ≤ 1048576) :
    Calls Tryz.prog 56 #[v] w fun e w' => ∃ g, e = .returned (.slice (some ⟨g, 0, none⟩) 19 19) ∧ OI w' w.heap.size (.slice (some ⟨g, 0, none⟩) 19 19) (usg R) ∧ Below w.heap.size w w' := by
  have HS := hide h
  have HOK := hide hok
  obtain ⟨ao, cap, rfl, hlc, hcm⟩ := h.open
  clear h hok
  go_enter Tryz.func56, Tryz.ntmps56
  go_wp2_with (at_make; refine wpList_mkI rfl _ _ rfl _ _ _ _ 19 19 rfl rfl rfl rfl (Nat.le_refl _) (by omega) ?_)
  intro w1 hg1 hb1
  have HO1 : Hid (OI w1 w.heap.size (.slice (some ⟨w.heap.size, 0, none⟩) 19 19) (usg [])) := by
    rw [usg_nil]
    exact hide (OI.of_full (l := List.replicate 19 0) (by rw [hg1]; rfl) (Nat.le_refl _) (by unfold maxLen; simp))
  have HB1 := hide hb1
  clear hg1 hb1
  go_wp2
  go_loopw [9] (fun i wr => ∃ k : Nat, k ≤ R.length ∧ i = .int .i64 k ∧ Hid (OI wr w.heap.size (.slice (some ⟨w.heap.size, 0, none⟩) 19 19) (usg (R.take k))) ∧ Hid (Below w.heap.size w wr)) (fun i _ => R.length - (intOf i).toNat)
  case atStart => exact ⟨0, Nat.zero_le _, rfl, HO1.out, HB1.out⟩
  case round =>
    obtain ⟨k, hk, rfl, HO, HB⟩ := hrel
    by_cases hlt : k < R.length
    · have hlt' : (k : Int) < (R.length : Int) := by omega
      obtain ⟨b, o, rfl, c1, c2⟩ := HS.out.get HB.out hlt
      have ok : Okr (R.getD k rn0) := HOK.out _ (by rw [show R.getD k rn0 = R[k] by simp [hlt]]; exact List.getElem_mem hlt)
      have h1 := ok.1
      have h2 := ok.2.1
      have HSN : Hid (R.take (k + 1) = R.take k ++ [R.getD k rn0]) := by show _ = _; rw [List.take_succ_eq_append_getElem hlt]; simp [hlt]
      obtain ⟨r, hr⟩ : ∃ r, r = R.getD k rn0 := ⟨_, rfl⟩
      rw [← hr] at c1 c2 h1 h2 HSN
      obtain ⟨s', c⟩ := r
      simp only at c1 c2 h1 h2
      obtain ⟨s, rfl⟩ := Int.eq_ofNat_of_zero_le h1
      have hs : s < 19 := by omega
      have hs' : (s : Int) < 19 := by omega
      clear hr ok h1 h2
      obtain ⟨wx, hwx⟩ : ∃ wx, wr.alloc (.cells #[.int .i64 s, .int .i64 c] 77) = wx := ⟨_, rfl⟩
      have HBX : Hid (Below w.heap.size w wx) := by rw [← hwx]; exact hide (HB.out.alloc HB.out.size _)
      have HOX : Hid (OI wx w.heap.size (.slice (some ⟨w.heap.size, 0, none⟩) 19 19) (usg (R.take k))) := by rw [← hwx]; exact hide (HO.out.alloc _)
      have z0 : wx.cell? ⟨wr.heap.size, 0, none⟩ = some (.int .i64 s) := by rw [← hwx]; unfold World.cell?; simp only [heap_alloc_new]; rfl
      have y0 := HOX.out.get (b := w.heap.size) rfl (i := s) (by rw [usg_len]; exact hs)
      have hbd := usg_le (R.take k) s hs
      obtain ⟨g, cc, hv, _, hfz, hput⟩ := HOX.out.put (k := s) (by rw [usg_len]; exact hs) ((usg (R.take k)).getD s 0 + 1)
      simp only [Value.slice.injEq, Option.some.injEq, Addr.mk.injEq, and_true] at hv
      obtain ⟨rfl, -, -⟩ := hv
      rw [← usg_snoc (R.take k) s c hs, ← HSN.out] at hput
      have HP := hide hput
      have hRl : (R.take k).length ≤ 1048576 := by rw [List.length_take]; omega
      obtain ⟨Y, hY⟩ : ∃ Y, Y = (usg (R.take k)).getD s 0 := ⟨_, rfl⟩
      rw [← hY] at y0 hbd HP
      have hY1 : 0 ≤ Y := hbd.1
      have hY2 : Y ≤ 1048576 := by omega
      have HBN : Hid (Below w.heap.size w (wx.setCell ⟨w.heap.size, s, none⟩ (.int .i64 (Y + 1)))) := HBX.out.setCell (p := ⟨w.heap.size, s, none⟩) (Nat.le_refl _) _
      clear hput hY hbd
      go_wp2
      go_roundw
      case rel => exact ⟨k + 1, by omega, by go_num, HP, HBN⟩
      case measure => simp [intOf]; omega
    · obtain rfl : k = R.length := by omega
      have hlt' : ¬ (R.length : Int) < (R.length : Int) := by omega
      have HF : Hid (OI wr w.heap.size (.slice (some ⟨w.heap.size, 0, none⟩) 19 19) (usg R)) := by have := HO.out; rwa [List.take_of_length_le (Nat.le_refl _)] at this
      go_wp2
      go_ret
      exact ⟨_, rfl, HF.out, HB.out⟩
end Go.Proofs.YthngagciiidppaaGreatDoor

namespace Go.Proofs.YthngagciiidppaaGreatDoor
open Go.RowKit Go.Maps
set_option maxRecDepth 20000
set_option linter.unusedVariables false

/-- How many lengths of the small code have to be written. -/
def wrn (c : List Int) : Nat → Nat
  | 0 => 0
  | n + 1 => if 4 < n + 1 ∧ c.getD (zor.getD n 0).toNat 0 = 0 then wrn c n else n + 1
def wrt (c : List Int) : Nat := wrn c 19

theorem wrn_le (c : List Int) : ∀ n, wrn c n ≤ n
  | 0 => Nat.le_refl _
  | n + 1 => by simp only [wrn]; split
                · have := wrn_le c n; omega
                · exact Nat.le_refl _
theorem wrt_le (c : List Int) : wrt c ≤ 19 := wrn_le c 19
theorem wrn_ge (c : List Int) : ∀ n, 4 ≤ n → 4 ≤ wrn c n
  | 0, h => h
  | n + 1, h => by simp only [wrn]; split
                   · rename_i q; exact wrn_ge c n (by omega)
                   · exact h
theorem wrt_ge (c : List Int) : 4 ≤ wrt c := wrn_ge c 19 (by omega)

set_option maxHeartbeats 1000000 in
theorem written_any (v : Value) (c : List Int) (w : World) (h : SI w v c) (O : Odr w) (hc : c.length = 19) :
    Calls Tryz.prog 77 #[v] w fun e w' => e = .returned (.int .i64 (wrt c : Nat)) ∧ w' = w := by
  have HS := hide h
  have HO := hide O
  obtain ⟨ao, cap, rfl, hlc, hcm⟩ := h.open
  clear h O
  go_enter Tryz.func77, Tryz.ntmps77
  go_wp2
  go_loopw [3] (fun i wr => ∃ k : Nat, k ≤ 19 ∧ 4 ≤ k ∧ i = .int .i64 k ∧ wr = w ∧ Hid (wrt c = wrn c k)) (fun i _ => (intOf i).toNat)
  case atStart => exact ⟨19, Nat.le_refl _, by omega, rfl, rfl, rfl⟩
  case round =>
    obtain ⟨k, hk, hk4, rfl, hw, HK⟩ := hrel
    subst hw
    by_cases hlt : 4 < k
    · have hlt' : (4 : Int) < (k : Int) := by omega
      obtain ⟨j, rfl⟩ : ∃ j, k = j + 1 := ⟨k - 1, by omega⟩
      have hj19 : (j : Int) < 19 := by omega
      have o1 := HO.out.get j (by omega)
      have o2 := zor_at j (by omega)
      have HT : Hid (wrn c (j + 1) = if c.getD (zor.getD j 0).toNat 0 = 0 then wrn c j else j + 1) := by
        show _ = _
        simp only [wrn]
        by_cases q : c.getD (zor.getD j 0).toNat 0 = 0
        · rw [if_pos ⟨hlt, q⟩, if_pos q]
        · rw [if_neg (fun z => q z.2), if_neg q]
      obtain ⟨z', hz⟩ : ∃ z', z' = zor.getD j 0 := ⟨_, rfl⟩
      rw [← hz] at o1 o2 HT
      obtain ⟨z, rfl⟩ := Int.eq_ofNat_of_zero_le o2.1
      rw [Int.toNat_natCast] at HT
      have hzl : (z : Int) < (c.length : Int) := by rw [hc]; exact o2.2
      obtain ⟨b, o, rfl, hcz⟩ := HS.out.get (Below.refl _ _) (k := z) (by omega)
      obtain ⟨y, HY⟩ : ∃ y, Hid (y = c.getD z 0) := ⟨_, rfl⟩
      rw [← HY.out] at hcz HT
      have ej : ((j : Int) + 1 - 1) = (j : Int) := by omega
      clear hz o2
      by_cases hy : y = 0
      · subst hy
        have HK2 : Hid (wrt c = wrn c j) := by show _ = _; rw [HK.out, HT.out, if_pos rfl]
        go_wp2
        go_roundw
        case rel => exact ⟨j, by omega, by omega, rfl, HK2⟩
        case measure => simp [intOf]; omega
      · have hy' : (y == 0) = false := by simpa using hy
        have HK2 : Hid (wrt c = j + 1) := by show _ = _; rw [HK.out, HT.out, if_neg hy]
        go_wp2
        go_ret
        rw [HK2.out]
        exact ⟨by go_num, rfl⟩
    · obtain rfl : k = 4 := by omega
      have HK2 : Hid (wrt c = 4) := by
        show _ = _
        have h1 := wrt_ge c
        have h2 := wrn_le c 4
        have h3 := HK.out
        omega
      go_wp2
      go_ret
      rw [HK2.out]
      exact ⟨rfl, rfl⟩

/-- How many bits the runs have. -/
def rsz (C : List Int) : List Rn → Int
  | [] => 0
  | r :: R => C.getD r.1.toNat 0 + (frt r.1 : Nat) + rsz C R
def hsz (C : List Int) (R : List Rn) : Int := 14 + 3 * (wrt C : Int) + rsz C R

theorem rsz_snoc (C : List Int) (R : List Rn) (r : Rn) : rsz C (R ++ [r]) = rsz C R + (C.getD r.1.toNat 0 + (frt r.1 : Nat)) := by
  induction R with
  | nil => simp [rsz]
  | cons a R ih => simp only [List.cons_append, rsz, ih]; omega

theorem frt_le (s : Int) : frt s ≤ 7 := by unfold frt; split; omega; split; omega; split <;> omega

theorem rsz_bound {C : List Int} (hC : ∀ s, 0 ≤ C.getD s 0 ∧ C.getD s 0 ≤ 15) (R : List Rn) : 0 ≤ rsz C R ∧ rsz C R ≤ 22 * R.length := by
  induction R with
  | nil => simp [rsz]
  | cons r R ih =>
    have := hC r.1.toNat
    have := frt_le r.1
    simp only [rsz, List.length_cons]
    omega

set_option maxHeartbeats 2000000 in
theorem hsize_any (vL vD vC vR : Value) (C : List Int) (R : List Rn) (w : World) (hvl : vL.oneCell' = true) (hvd : vD.oneCell' = true) (hC : SI w vC C) (hR : SR w vR R) (T : Tab w) (O : Odr w) (h19 : C.length = 19) (hb : ∀ s, 0 ≤ C.getD s 0 ∧ C.getD s 0 ≤ 15) (hok : ∀ r ∈ R, Okr r) (hn : R.length ≤ 1048576) :
    Calls Tryz.prog 57 #[.agg #[vL, vD, vC, vR, .int .i64 0]] w fun e w' => e = .returned (.int .i64 (hsz C R)) ∧ Below w.heap.size w w' := by
  have HC := hide hC
  have HR := hide hR
  have HT := hide T
  have HO := hide O
  have HOK := hide hok
  have HBD := hide hb
  obtain ⟨aC, cC, rfl, hc1, hc2⟩ := hC.open
  obtain ⟨aR, cR, rfl, hr1, hr2⟩ := hR.open
  clear hC hR T O hok hb
  have H19 := hide h19
  have HC0 : Hid (∀ W, Below w.heap.size w W → ∀ k, k < 19 → ∃ b o, aC = some ⟨b, o, none⟩ ∧ W.cell? ⟨b, o + k, none⟩ = some (.int .i64 (C.getD k 0))) := fun W hW k hk => HC.out.get hW (by rw [H19.out]; exact hk)
  have HW0 : Hid (∀ W, Below w.heap.size w W → Calls Tryz.prog 77 #[.slice aC 19 cC] W fun e w' => e = .returned (.int .i64 (wrt C : Nat)) ∧ w' = W) := fun W hW => by
    have := written_any _ C W (HC.out.below hW) (HO.out.mono hW) H19.out
    rwa [H19.out] at this
  rw [h19] at hc1 ⊢
  clear h19 HC
  obtain ⟨wb, hwb⟩ : ∃ wb, w.alloc (.cells #[vL, vD, .slice aC 19 cC, .slice aR R.length cR, .int .i64 0] 50) = wb := ⟨_, rfl⟩
  have hb0 : Below w.heap.size w wb := by rw [← hwb]; exact (Below.refl _ _).alloc (Nat.le_refl _) _
  have hg0 : wb.heap[w.heap.size]? = some (.cells #[vL, vD, .slice aC 19 cC, .slice aR R.length cR, .int .i64 0] 50 (0, 0)) := by rw [← hwb]; exact heap_alloc_new w _
  have d2 : wb.cell? ⟨w.heap.size, 2, none⟩ = some (.slice aC 19 cC) := by unfold World.cell?; rw [hg0]; rfl
  have d3 : wb.cell? ⟨w.heap.size, 3, none⟩ = some (.slice aR R.length cR) := by unfold World.cell?; rw [hg0]; rfl
  have HG0 := hide hg0
  have hsl : w.heap.size < wb.heap.size := by rw [← hwb]; simp
  have HSL := hide hsl
  have HB0 := hide hb0
  have hw19 := wrt_le C
  have HWB := hide hwb
  clear hb0 hg0 hwb hsl
  go_enter Tryz.func57, Tryz.ntmps57
  go_wp2_with fail
  rw [HWB.out]
  refine (HW0.out wb HB0.out).mono ?_
  rintro e w1 ⟨rfl, hw1⟩
  subst hw1
  obtain ⟨W, HW⟩ : ∃ W, Hid (W = wrt C) := ⟨_, rfl⟩
  have HZ : Hid (hsz C R = 14 + 3 * (W : Int) + rsz C R) := by show _ = _; rw [HW.out]; rfl
  rw [← HW.out] at hw19 ⊢
  have HRB := hide (fun k => rsz_bound HBD.out (R.take k))
  go_wp2
  go_loopw [3, 14] (fun t i wr => ∃ k : Nat, k ≤ R.length ∧ i = .int .i64 k ∧ t = .int .i64 (14 + 3 * (W : Int) + rsz C (R.take k)) ∧ Hid (wr.heap[w.heap.size]? = some (.cells #[vL, vD, .slice aC 19 cC, .slice aR R.length cR, .int .i64 0] 50 (0, 0))) ∧ Hid (Below w.heap.size w wr)) (fun _ i _ => R.length - (intOf i).toNat)
  case atStart => exact ⟨0, Nat.zero_le _, rfl, by simp [rsz], HG0.out, HB0.out⟩
  case round =>
    obtain ⟨k, hk, rfl, rfl, HG, HB⟩ := hrel
    by_cases hlt : k < R.length
    · have hlt' : (k : Int) < (R.length : Int) := by omega
      obtain ⟨b, o, rfl, c1, c2⟩ := HR.out.get HB.out hlt
      have ok : Okr (R.getD k rn0) := HOK.out _ (by rw [show R.getD k rn0 = R[k] by simp [hlt]]; exact List.getElem_mem hlt)
      have hk1 := ok.1
      have hk2 := ok.2.1
      have HSN : Hid (R.take (k + 1) = R.take k ++ [R.getD k rn0]) := by show _ = _; rw [List.take_succ_eq_append_getElem hlt]; simp [hlt]
      obtain ⟨r, hr⟩ : ∃ r, r = R.getD k rn0 := ⟨_, rfl⟩
      rw [← hr] at c1 c2 hk1 hk2 HSN
      obtain ⟨s', c⟩ := r
      simp only at c1 c2 hk1 hk2
      obtain ⟨s, rfl⟩ := Int.eq_ofNat_of_zero_le hk1
      have hs : s < 19 := by omega
      have hs' : (s : Int) < 19 := by omega
      have HRN : Hid (rsz C (R.take (k + 1)) = rsz C (R.take k) + (C.getD s 0 + (frt s : Nat))) := by show _ = _; rw [HSN.out, rsz_snoc]; rfl
      have hrb := HRB.out k
      have hrl : (R.take k).length ≤ 1048576 := by rw [List.length_take]; omega
      obtain ⟨wx, hwx⟩ : ∃ wx, wr.alloc (.cells #[.int .i64 s, .int .i64 c] 77) = wx := ⟨_, rfl⟩
      have HBX : Hid (Below w.heap.size w wx) := by rw [← hwx]; exact hide (HB.out.alloc HB.out.size _)
      have hgx : wx.heap[w.heap.size]? = some (.cells #[vL, vD, .slice aC 19 cC, .slice (some ⟨b, o, none⟩) R.length cR, .int .i64 0] 50 (0, 0)) := by
        rw [← hwx, Below.heap_alloc wr _ _ (by
          rcases Nat.lt_or_ge w.heap.size wr.heap.size with h | h
          · exact h
          · have := HG.out; rw [Array.getElem?_eq_none h] at this; cases this)]
        exact HG.out
      have x2 : wx.cell? ⟨w.heap.size, 2, none⟩ = some (.slice aC 19 cC) := by unfold World.cell?; rw [hgx]; rfl
      have z0 : wx.cell? ⟨wr.heap.size, 0, none⟩ = some (.int .i64 s) := by rw [← hwx]; unfold World.cell?; simp only [heap_alloc_new]; rfl
      obtain ⟨bC, oC, hbC, y0⟩ := HC0.out wx HBX.out s hs
      subst hbC
      have f0 := (HT.out.mono HBX.out).further s hs
      have hcb := HBD.out s
      have hfb := frt_le s
      have HGX : Hid (∀ q, (wx.drewN q).heap[w.heap.size]? = some (.cells #[vL, vD, .slice (some ⟨bC, oC, none⟩) 19 cC, .slice (some ⟨b, o, none⟩) R.length cR, .int .i64 0] 50 (0, 0))) := fun q => hgx
      have HBD2 : Hid (∀ q, Below w.heap.size w (wx.drewN q)) := fun q => below_drewN HBX.out q
      obtain ⟨Y, HY⟩ : ∃ Y, Hid (Y = C.getD s 0) := ⟨_, rfl⟩
      obtain ⟨F, HF⟩ : ∃ F, Hid (F = frt s) := ⟨_, rfl⟩
      obtain ⟨Z, HZZ⟩ : ∃ Z, Hid (Z = rsz C (R.take k)) := ⟨_, rfl⟩
      rw [← HY.out] at y0 hcb HRN
      rw [← HF.out] at f0 hfb HRN
      rw [← HZZ.out] at HRN hrb ⊢
      have hz1 : 0 ≤ Z := hrb.1
      have hz2 : Z ≤ 23068672 := by omega
      have hy1 : 0 ≤ Y := hcb.1
      have hy2 : Y ≤ 15 := hcb.2
      clear hr ok hk1 hk2 hgx hcb hrb HSN
      go_wp2
      go_quiet (fail)
      go_wp2
      go_roundw
      case rel => exact ⟨k + 1, by omega, by go_num, by rw [HRN.out]; go_num, HGX.out _, HBD2.out _⟩
      case measure => simp [intOf]; omega
    · obtain rfl : k = R.length := by omega
      have hlt' : ¬ (R.length : Int) < (R.length : Int) := by omega
      have HF : Hid (14 + 3 * (W : Int) + rsz C (R.take R.length) = hsz C R) := by show _ = _; rw [List.take_of_length_le (Nat.le_refl _)]; exact HZ.out.symm
      rw [HF.out]
      go_wp2
      go_ret
      exact ⟨rfl, HB.out⟩
end Go.Proofs.YthngagciiidppaaGreatDoor

