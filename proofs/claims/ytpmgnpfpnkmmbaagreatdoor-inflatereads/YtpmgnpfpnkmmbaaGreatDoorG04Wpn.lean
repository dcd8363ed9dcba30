import Derived.Test.YtpmgnpfpnkmmbaaGreatDoorG03Arr3
namespace Go.Proofs.YtpmgnpfpnkmmbaaGreatDoor
open Go.RowKit Go.Maps
set_option maxRecDepth 20000

instance (l : List Int) : Decidable (Lens l) := by unfold Lens; exact inferInstance

def chkE (l : List Int) : Int := if 288 < l.length then 1 else if Lens l then 0 else 50
def chkS (l : List Int) : Int := if Lens l then shp l else 0

def okTo (l : List Int) (k : Nat) : Prop := ∀ i, i < k → 0 ≤ l.getD i 0 ∧ l.getD i 0 ≤ 15

theorem okTo_lens {l : List Int} (h : okTo l l.length) (h2 : l.length ≤ 288) : Lens l := by
  refine ⟨h2, fun x hx => ?_⟩
  obtain ⟨i, hi, rfl⟩ := List.getElem_of_mem hx
  have := h i hi
  rwa [show l.getD i 0 = l[i] by simp [hi]] at this

theorem okTo_succ {l : List Int} {k : Nat} (h : okTo l k) (hk : 0 ≤ l.getD k 0 ∧ l.getD k 0 ≤ 15) : okTo l (k + 1) := fun i hi => by
  by_cases e : i = k
  · subst e; exact hk
  · exact h i (by omega)

theorem not_lens {l : List Int} {k : Nat} (h : ¬ (0 ≤ l.getD k 0 ∧ l.getD k 0 ≤ 15)) : ¬ Lens l := fun hl => h (hl.at k)

theorem check_any (v : Value) (l : List Int) (w : World) (h : SI w v l) :
    Calls Tryz.prog 90 #[v] w fun e w' => e = .returned (.tuple #[.int .i64 (chkS l), .int .i64 (chkE l)]) ∧ Below w.heap.size w w' := by
  have HS := hide h
  obtain ⟨ao, cap, rfl, hlc, hcm⟩ := h.open
  clear h
  by_cases hlen : 288 < l.length
  · have hlen' : (288 : Int) < l.length := by omega
    have hn : ¬ Lens l := fun h => by have := h.1; omega
    have HE : Hid (chkE l = 1 ∧ chkS l = 0) := ⟨if_pos hlen, if_neg hn⟩
    clear hn
    go_enter Tryz.func90, Tryz.ntmps90
    go_wp2
    go_ret2
    rw [HE.out.1, HE.out.2]
    exact ⟨rfl, Below.refl _ _⟩
  have hlen' : ¬ (288 : Int) < l.length := by omega
  have HNL := hide hlen
  clear hlen
  go_enter Tryz.func90, Tryz.ntmps90
  go_wp2
  go_loopw [11] (fun i wr => ∃ k : Nat, k ≤ l.length ∧ i = .int .i64 k ∧ wr = w ∧ Hid (okTo l k)) (fun i _ => l.length - (intOf i).toNat)
  case atStart => exact ⟨0, Nat.zero_le _, rfl, rfl, fun i hi => by omega⟩
  case round =>
    obtain ⟨k, hk, rfl, rfl, HT⟩ := hrel
    by_cases hlt : k < l.length
    · have hlt' : (k : Int) < (l.length : Int) := by omega
      obtain ⟨b, o, rfl, hc⟩ := HS.out.get (Below.refl _ _) hlt
      obtain ⟨x, HX⟩ : ∃ x, Hid (x = l.getD k 0) := ⟨_, rfl⟩
      rw [← HX.out] at hc
      by_cases hb : 0 ≤ x ∧ x ≤ 15
      · have HN : Hid (okTo l (k + 1)) := okTo_succ HT.out (by rw [← HX.out]; exact hb)
        obtain ⟨b0, b1⟩ := hb
        have b0' : ¬ x < 0 := by omega
        have b1' : ¬ 15 < x := by omega
        clear HT
        go_wp2
        go_roundw
        case rel => exact ⟨k + 1, by omega, by go_num, by trivial, HN⟩
        case measure => simp [intOf]; omega
      · have hn : ¬ Lens l := not_lens (k := k) (by rw [← HX.out]; exact hb)
        have HE : Hid (chkE l = 50 ∧ chkS l = 0) := ⟨by unfold chkE; rw [if_neg HNL.out, if_neg hn], if_neg hn⟩
        clear hn
        by_cases b0 : x < 0
        · clear hb
          go_wp2
          go_ret2
          rw [HE.out.1, HE.out.2]
          exact ⟨rfl, Below.refl _ _⟩
        · have b1 : 15 < x := by omega
          clear hb
          go_wp2
          go_ret2
          rw [HE.out.1, HE.out.2]
          exact ⟨rfl, Below.refl _ _⟩
    · obtain rfl : k = l.length := by omega
      have hl : Lens l := okTo_lens HT.out (by have := HNL.out; omega)
      have HL := hide hl
      have HE : Hid (chkE l = 0 ∧ chkS l = shp l) := ⟨by unfold chkE; rw [if_neg HNL.out, if_pos hl], if_pos hl⟩
      have hlt' : ¬ (l.length : Int) < (l.length : Int) := by omega
      clear hl HT
      go_wp2_with fail
      refine (count_any _ l _ HS.out HL.out).mono ?_
      rintro e w1 ⟨rfl, hb1⟩
      have HB1 := hide hb1
      clear hb1
      go_wp2_with fail
      refine (shape_any l _ HL.out).mono ?_
      rintro e w2 ⟨rfl, hb2⟩
      have HB2 : Hid (Below wr.heap.size wr w2) := HB1.out.trans (hb2.mono HB1.out.size)
      clear hb2
      go_wp2
      go_ret2
      rw [HE.out.1, HE.out.2]
      exact ⟨rfl, HB2.out⟩

def cdE (l : List Int) : Int := if chkE l ≠ 0 then chkE l else if shp l = 3 then 51 else 0
def cdL (l : List Int) : List Int := if cdE l = 0 then wds l else []

theorem chkE_zero {l : List Int} (h : chkE l = 0) : Lens l ∧ chkS l = shp l := by
  unfold chkE at h
  by_cases h1 : 288 < l.length
  · rw [if_pos h1] at h; omega
  · rw [if_neg h1] at h
    by_cases h2 : Lens l
    · exact ⟨h2, if_pos h2⟩
    · rw [if_neg h2] at h; omega

end Go.Proofs.YtpmgnpfpnkmmbaaGreatDoor

namespace Go.Proofs.YtpmgnpfpnkmmbaaGreatDoor
open Go.RowKit Go.Maps
set_option maxRecDepth 20000
set_option linter.unusedVariables false

/-- The order of the small code's lengths. -/
def zor : List Int := [16, 17, 18, 0, 8, 7, 9, 6, 10, 5, 11, 4, 12, 3, 13, 2, 14, 1, 15]
theorem zor_at : ∀ n : Nat, n < 19 → 0 ≤ zor.getD n 0 ∧ zor.getD n 0 < 19 := by decide

structure Odr (w : World) : Prop where
  get : ∀ i : Nat, i < 19 → w.cell? ⟨0, i, none⟩ = some (.int .i64 (zor.getD i 0))

theorem Odr.mono {w w' : World} (h : Odr w) (hb : Below w.heap.size w w') : Odr w' := ⟨fun i hi => (hb.cell (World.block_lt_of_cell? w _ (h.get i hi))).trans (h.get i hi)⟩

/-- May a block have these two codes? -/
def hck (l d : List Int) : Int := if l.getD 256 0 = 0 ∨ (chkS l ≠ 4 ∧ chkS l ≠ 1) then 75 else if chkS d ≠ 4 ∧ chkS d ≠ 1 ∧ chkS d ≠ 0 then 76 else 0

set_option maxHeartbeats 1000000 in
theorem hcheck_any (v1 v2 : Value) (l1 l2 : List Int) (w : World) (s1 : SI w v1 l1) (s2 : SI w v2 l2) (hl : 257 ≤ l1.length) :
    Calls Tryz.prog 73 #[v1, v2] w fun e w' => e = .returned (.int .i64 (hck l1 l2)) ∧ Below w.heap.size w w' := by
  have H1 := hide s1
  have H2 := hide s2
  obtain ⟨a1, c1, rfl, hc1, hd1⟩ := s1.open
  obtain ⟨a2, c2, rfl, hc2, hd2⟩ := s2.open
  clear s1 s2
  have hl' : (256 : Int) < (l1.length : Int) := by omega
  go_enter Tryz.func73, Tryz.ntmps73
  go_wp2_with fail
  refine (check_any _ l1 w H1.out).mono ?_
  rintro e w1 ⟨rfl, b1⟩
  obtain ⟨b, o, rfl, hc⟩ := H1.out.get b1 (k := 256) (by omega)
  have HB1 := hide b1
  have H21 := hide (H2.out.below b1)
  have HK : Hid (hck l1 l2 = if l1.getD 256 0 = 0 ∨ (chkS l1 ≠ 4 ∧ chkS l1 ≠ 1) then 75 else if chkS l2 ≠ 4 ∧ chkS l2 ≠ 1 ∧ chkS l2 ≠ 0 then 76 else 0) := rfl
  obtain ⟨y, HY⟩ : ∃ y, Hid (y = l1.getD 256 0) := ⟨_, rfl⟩
  obtain ⟨S, HSS⟩ : ∃ S, Hid (S = chkS l1) := ⟨_, rfl⟩
  rw [← HY.out] at hc HK
  rw [← HSS.out] at HK ⊢
  clear b1
  by_cases y0 : y = 0
  · have HR : Hid (hck l1 l2 = 75) := by show _ = _; rw [HK.out, if_pos (.inl y0)]
    subst y0
    go_wp2
    go_ret
    rw [HR.out]
    exact ⟨rfl, HB1.out⟩
  · have y0' : (y == 0) = false := by simpa using y0
    by_cases sok : S = 4 ∨ S = 1
    · have HK2 : Hid (hck l1 l2 = if chkS l2 ≠ 4 ∧ chkS l2 ≠ 1 ∧ chkS l2 ≠ 0 then 76 else 0) := by show _ = _; rw [HK.out, if_neg (by omega)]
      have HCK := hide (check_any _ l2 w1 H21.out)
      obtain ⟨U, HU⟩ : ∃ U, Hid (U = chkS l2) := ⟨_, rfl⟩
      rw [← HU.out] at HK2 HCK
      have tail : ∀ (Z : Prop), Z → Z := fun _ z => z
      rcases sok with rfl | rfl
      all_goals
        go_wp2_with fail
        refine HCK.out.mono ?_
        rintro e w2 ⟨rfl, b2⟩
        have HB2 := hide (HB1.out.trans (b2.mono HB1.out.size))
        clear b2
        by_cases u4 : U = 4
        · have HR : Hid (hck l1 l2 = 0) := by show _ = _; rw [HK2.out, if_neg (by omega)]
          subst u4
          go_wp2
          go_ret
          rw [HR.out]
          exact ⟨rfl, HB2.out⟩
        · have u4' : (U != 4) = true := by simpa using u4
          by_cases u1 : U = 1
          · have HR : Hid (hck l1 l2 = 0) := by show _ = _; rw [HK2.out, if_neg (by omega)]
            subst u1
            go_wp2
            go_ret
            rw [HR.out]
            exact ⟨rfl, HB2.out⟩
          · have u1' : (U != 1) = true := by simpa using u1
            by_cases u0 : U = 0
            · have HR : Hid (hck l1 l2 = 0) := by show _ = _; rw [HK2.out, if_neg (by omega)]
              subst u0
              go_wp2
              go_ret
              rw [HR.out]
              exact ⟨rfl, HB2.out⟩
            · have u0' : (U != 0) = true := by simpa using u0
              have HR : Hid (hck l1 l2 = 76) := by show _ = _; rw [HK2.out, if_pos ⟨u4, u1, u0⟩]
              go_wp2
              go_ret
              rw [HR.out]
              exact ⟨rfl, HB2.out⟩
    · have s4 : (S != 4) = true := by simp; omega
      have s1 : (S != 1) = true := by simp; omega
      have HR : Hid (hck l1 l2 = 75) := by show _ = _; rw [HK.out, if_pos (.inr (by omega))]
      go_wp2
      go_ret
      rw [HR.out]
      exact ⟨rfl, HB1.out⟩

/-- How often each symbol of the small code is the Sym of a run. -/
def usg (R : List Rn) : List Int := (List.range 19).map fun (s : Nat) => (((R.map (·.1)).count (s : Int) : Nat) : Int)
theorem usg_len (R : List Rn) : (usg R).length = 19 := by simp [usg]
theorem usg_at (R : List Rn) {s : Nat} (h : s < 19) : (usg R).getD s 0 = (((R.map (·.1)).count (s : Int) : Nat) : Int) := by
  simp only [usg, List.getD_eq_getElem?_getD, List.getElem?_map, List.getElem?_range h]
  rfl
theorem usg_nil : usg [] = List.replicate 19 0 := by decide
theorem usg_snoc (R : List Rn) (s : Nat) (c : Int) (h : s < 19) : usg (R ++ [((s : Int), c)]) = (usg R).set s ((usg R).getD s 0 + 1) := by
  apply List.ext_getElem?
  intro i
  rw [List.getElem?_set, usg_len]
  by_cases hi : i < 19
  · have e1 : (usg (R ++ [((s : Int), c)]))[i]? = some ((usg (R ++ [((s : Int), c)])).getD i 0) := by
      rw [List.getD_eq_getElem?_getD, List.getElem?_eq_getElem (by rw [usg_len]; exact hi)]; rfl
    have e2 : (usg R)[i]? = some ((usg R).getD i 0) := by
      rw [List.getD_eq_getElem?_getD, List.getElem?_eq_getElem (by rw [usg_len]; exact hi)]; rfl
    rw [e1, usg_at _ hi, List.map_append, List.count_append]
    by_cases q : s = i
    · subst q
      rw [if_pos rfl, if_pos h, usg_at _ h]
      simp
    · rw [if_neg q, e2, usg_at _ hi]
      have : List.count (i : Int) [(s : Int)] = 0 := by rw [List.count_eq_zero]; simp; omega
      simp only [List.map_cons, List.map_nil, this]
      simp
  · rw [List.getElem?_eq_none (by rw [usg_len]; omega)]
    by_cases q : s = i
    · rw [if_pos q, if_neg (by omega)]
    · rw [if_neg q, List.getElem?_eq_none (by rw [usg_len]; omega)]

theorem usg_le (R : List Rn) (s : Nat) (h : s < 19) : 0 ≤ (usg R).getD s 0 ∧ (usg R).getD s 0 ≤ R.length := by
  rw [usg_at R h]
  have := List.count_le_length (a := (s : Int)) (l := R.map (·.1))
  rw [List.length_map] at this
  omega

end Go.Proofs.YtpmgnpfpnkmmbaaGreatDoor

namespace Go.Proofs.YtpmgnpfpnkmmbaaGreatDoor
open Go.RowKit Go.Maps
set_option maxRecDepth 20000
set_option linter.unusedVariables false

/-- How many lengths of the small code have to be written. -/
def wrn (c : List Int) : Nat → Nat
  | 0 => 0
  | n + 1 => if 4 < n + 1 ∧ c.getD (zor.getD n 0).toNat 0 = 0 then wrn c n else n + 1
def wrt (c : List Int) : Nat := wrn c 19

theorem wrn_le (c : List Int) : ∀ n, wrn c n ≤ n
  | 0 => Nat.le_refl _
  | n + 1 => by simp only [wrn]; split
                · have := wrn_le c n; omega
                · exact Nat.le_refl _
theorem wrt_le (c : List Int) : wrt c ≤ 19 := wrn_le c 19
theorem wrn_ge (c : List Int) : ∀ n, 4 ≤ n → 4 ≤ wrn c n
  | 0, h => h
  | n + 1, h => by simp only [wrn]; split
                   · rename_i q; exact wrn_ge c n (by omega)
                   · exact h
theorem wrt_ge (c : List Int) : 4 ≤ wrt c := wrn_ge c 19 (by omega)

/-- How many bits the runs have. -/
def rsz (C : List Int) : List Rn → Int
  | [] => 0
  | r :: R => C.getD r.1.toNat 0 + (frt r.1 : Nat) + rsz C R
def hsz (C : List Int) (R : List Rn) : Int := 14 + 3 * (wrt C : Int) + rsz C R

theorem rsz_snoc (C : List Int) (R : List Rn) (r : Rn) : rsz C (R ++ [r]) = rsz C R + (C.getD r.1.toNat 0 + (frt r.1 : Nat)) := by
  induction R with
  | nil => simp [rsz]
  | cons a R ih => simp only [List.cons_append, rsz, ih]; omega

theorem frt_le (s : Int) : frt s ≤ 7 := by unfold frt; split; omega; split; omega; split <;> omega

theorem rsz_bound {C : List Int} (hC : ∀ s, 0 ≤ C.getD s 0 ∧ C.getD s 0 ≤ 15) (R : List Rn) : 0 ≤ rsz C R ∧ rsz C R ≤ 22 * R.length := by
  induction R with
  | nil => simp [rsz]
  | cons r R ih =>
    have := hC r.1.toNat
    have := frt_le r.1
    simp only [rsz, List.length_cons]
    omega

end Go.Proofs.YtpmgnpfpnkmmbaaGreatDoor

namespace Go.Proofs.YtpmgnpfpnkmmbaaGreatDoor
open Go.RowKit Go.Maps
set_option linter.unusedVariables false

/-- The first n lengths of the small code, as bits. -/
def hdS (C : List Int) : Nat → List Int
  | 0 => []
  | n + 1 => hdS C n ++ bts (C.getD (zor.getD n 0).toNat 0) 3
/-- The runs, as bits: the word of each ('wb' of the code's own texts, by its definition), and how many above the least. -/
def hdR (C : List Int) : List Rn → List Int
  | [] => []
  | r :: R => (bts (wd C r.1.toNat) (ln C r.1.toNat)).reverse ++ bts (r.2 - lst r.1) (frt r.1) ++ hdR C R
/-- The header, as bits. -/
def hdB (L D C : List Int) (R : List Rn) : List Int := bts ((L.length : Int) - 257) 5 ++ bts ((D.length : Int) - 1) 5 ++ bts ((wrt C : Int) - 4) 4 ++ hdS C (wrt C) ++ hdR C R

theorem hdS_len (C : List Int) (n : Nat) : (hdS C n).length = 3 * n := by
  induction n with
  | zero => rfl
  | succ n ih => simp only [hdS, List.length_append, ih, length_bts]; omega

theorem hdR_len {C : List Int} (hC : ∀ s, 0 ≤ C.getD s 0) (R : List Rn) : ((hdR C R).length : Int) = rsz C R := by
  induction R with
  | nil => rfl
  | cons r R ih =>
    have h : ((ln C r.1.toNat : Nat) : Int) = C.getD r.1.toNat 0 := by unfold ln; have := hC r.1.toNat; omega
    simp only [hdR, rsz, List.length_append, List.length_reverse, length_bts]
    omega

/-- The header takes Size bits. -/
theorem hdB_len {L D C : List Int} {R : List Rn} (hC : ∀ s, 0 ≤ C.getD s 0) : ((hdB L D C R).length : Int) = hsz C R := by
  have h1 := hdS_len C (wrt C)
  have h2 := hdR_len hC R
  unfold hdB hsz
  simp only [List.length_append, length_bts]
  omega

theorem hdR_snoc (C : List Int) (R : List Rn) (r : Rn) : hdR C (R ++ [r]) = hdR C R ++ ((bts (wd C r.1.toNat) (ln C r.1.toNat)).reverse ++ bts (r.2 - lst r.1) (frt r.1)) := by
  induction R with
  | nil => simp [hdR]
  | cons a R ih => simp only [List.cons_append, hdR, ih, List.append_assoc]
end Go.Proofs.YtpmgnpfpnkmmbaaGreatDoor

