import Derived.Test.YtfoglaajnlbnbaaGreatDoorG26Dcd
import Derived.Test.YtfoglaajnlbnbaaGreatDoorG23Drr
import Derived.Test.YtfoglaajnlbnbaaGreatDoorG21Mk4
import Derived.Test.YtfoglaajnlbnbaaGreatDoorG22Mk5
namespace Go.Proofs.YtfoglaajnlbnbaaGreatDoor
open Go.RowKit Go.Maps
set_option maxRecDepth 20000

theorem takeOk_of {row : List Int} {p n : Nat} (h1 : n ≤ 32) (h2 : p + n ≤ row.length) : takeOk row p n := ⟨⟨by omega, by omega⟩, by omega⟩

theorem take_ok {row : List Int} {p n : Nat} (h : takeOk row p n) : takeE row p n = 0 ∧ takeV row p n = ahead row p n ∧ takeP row p n = p + n :=
  ⟨by unfold takeE; rw [if_pos h.1, if_pos h.2], by unfold takeV; rw [if_pos h]; rfl, by unfold takeP; rw [if_pos h]; rfl⟩

theorem ahead_at {row : List Int} {p n : Nat} {x y : List Int} (h : row.drop p = x ++ y) (hx : x.length = n) : ahead row p n = val x := by
  unfold ahead
  rw [h, List.take_append_of_le_length (by omega), List.take_of_length_le (by omega)]

end Go.Proofs.YtfoglaajnlbnbaaGreatDoor

namespace Go.Proofs.YtfoglaajnlbnbaaGreatDoor
open Go.RowKit Go.Maps
set_option linter.unusedVariables false

def rcL (row : List Int) (p : Nat) : Nat := 257 + (ahead row p 14 % 32).toNat
def rcD (row : List Int) (p : Nat) : Nat := 1 + (ahead row p 14 / 32 % 32).toNat
def rcN (row : List Int) (p : Nat) : Nat := 4 + (ahead row p 14 / 1024).toNat
def rcE (row : List Int) (p : Nat) : Int := if row.length < p + 14 then 70 else if 286 < rcL row p ∨ 30 < rcD row p then 71 else 0

def smC (row : List Int) (p : Nat) : Nat → List Int
  | 0 => List.replicate 19 0
  | n + 1 => (smC row p n).set (zor.getD n 0).toNat (ahead row (p + 3 * n) 3)
def smE (row : List Int) (p n : Nat) : Int := if row.length < p + 3 * n then 70 else if chkS (smC row p n) ≠ 4 then 72 else 0

noncomputable def trE (C row : List Int) (p : Nat) : Int := if nxE C row p ≠ 0 then 70 else if row.length < nxP C row p + frt (nxS C row p : Nat) then 70 else 0
noncomputable def trC (C row : List Int) (p : Nat) : Int := lst (nxS C row p : Nat) + ahead row (nxP C row p) (frt (nxS C row p : Nat))
noncomputable def trP (C row : List Int) (p : Nat) : Nat := nxP C row p + frt (nxS C row p : Nat)

noncomputable def rl (C row : List Int) (want : Nat) : Nat → List Int → Nat → Int × List Int × Nat
  | 0, acc, p => (0, acc, p)
  | f + 1, acc, p =>
    if acc.length < want then
      if trE C row p ≠ 0 then (70, [], p)
      else if nxS C row p = 16 ∧ acc = [] then (73, [], p)
      else if (want : Int) < acc.length + trC C row p then (74, [], p)
      else rl C row want f (lay acc ((nxS C row p : Nat), trC C row p)) (trP C row p)
    else (0, acc, p)

noncomputable def rdA (row : List Int) (p : Nat) : Int × List Int × List Int × Nat :=
  if rcE row p ≠ 0 then (rcE row p, [], [], p) else
  if smE row (p + 14) (rcN row p) ≠ 0 then (smE row (p + 14) (rcN row p), [], [], p) else
  if (rl (smC row (p + 14) (rcN row p)) row (rcL row p + rcD row p) (rcL row p + rcD row p) [] (p + 14 + 3 * rcN row p)).1 ≠ 0 then ((rl (smC row (p + 14) (rcN row p)) row (rcL row p + rcD row p) (rcL row p + rcD row p) [] (p + 14 + 3 * rcN row p)).1, [], [], p) else
  if hck ((rl (smC row (p + 14) (rcN row p)) row (rcL row p + rcD row p) (rcL row p + rcD row p) [] (p + 14 + 3 * rcN row p)).2.1.take (rcL row p)) ((rl (smC row (p + 14) (rcN row p)) row (rcL row p + rcD row p) (rcL row p + rcD row p) [] (p + 14 + 3 * rcN row p)).2.1.drop (rcL row p)) ≠ 0 then (hck ((rl (smC row (p + 14) (rcN row p)) row (rcL row p + rcD row p) (rcL row p + rcD row p) [] (p + 14 + 3 * rcN row p)).2.1.take (rcL row p)) ((rl (smC row (p + 14) (rcN row p)) row (rcL row p + rcD row p) (rcL row p + rcD row p) [] (p + 14 + 3 * rcN row p)).2.1.drop (rcL row p)), [], [], p) else
  (0, (rl (smC row (p + 14) (rcN row p)) row (rcL row p + rcD row p) (rcL row p + rcD row p) [] (p + 14 + 3 * rcN row p)).2.1.take (rcL row p), (rl (smC row (p + 14) (rcN row p)) row (rcL row p + rcD row p) (rcL row p + rcD row p) [] (p + 14 + 3 * rcN row p)).2.1.drop (rcL row p), (rl (smC row (p + 14) (rcN row p)) row (rcL row p + rcD row p) (rcL row p + rcD row p) [] (p + 14 + 3 * rcN row p)).2.2)

theorem rd_c {row : List Int} {p : Nat} (h : rcE row p ≠ 0) : rdA row p = (rcE row p, [], [], p) := by unfold rdA; rw [if_pos h]
theorem rd_s {row : List Int} {p : Nat} (h : rcE row p = 0) (h2 : smE row (p + 14) (rcN row p) ≠ 0) : rdA row p = (smE row (p + 14) (rcN row p), [], [], p) := by unfold rdA; rw [if_neg (by simp [h]), if_pos h2]
theorem rd_l {row : List Int} {p : Nat} {x : Int × List Int × Nat} (h : rcE row p = 0) (h2 : smE row (p + 14) (rcN row p) = 0) (hx : rl (smC row (p + 14) (rcN row p)) row (rcL row p + rcD row p) (rcL row p + rcD row p) [] (p + 14 + 3 * rcN row p) = x) :
    rdA row p = if x.1 ≠ 0 then (x.1, [], [], p) else if hck (x.2.1.take (rcL row p)) (x.2.1.drop (rcL row p)) ≠ 0 then (hck (x.2.1.take (rcL row p)) (x.2.1.drop (rcL row p)), [], [], p) else (0, x.2.1.take (rcL row p), x.2.1.drop (rcL row p), x.2.2) := by
  unfold rdA
  rw [if_neg (by simp [h]), if_neg (by simp [h2]), hx]

theorem lst_pos (s : Int) : 1 ≤ lst s ∧ lst s ≤ 11 := by unfold lst; split <;> (try split) <;> omega

theorem tr_bound {C row : List Int} (hb : Bit row) (p : Nat) : 1 ≤ trC C row p ∧ trC C row p ≤ 138 := by
  unfold trC
  have h1 := ahead_bound hb (nxP C row p) (frt (nxS C row p : Nat))
  have h2 := lst_pos (nxS C row p : Nat)
  refine ⟨by omega, ?_⟩
  by_cases c : ((nxS C row p : Nat) : Int) < 16
  · have e1 : frt (nxS C row p : Nat) = 0 := by unfold frt; rw [if_pos c]
    rw [e1] at h1 ⊢
    have := h1.2
    simp at this
    omega
  · by_cases c2 : ((nxS C row p : Nat) : Int) < 18
    · have e1 : frt (nxS C row p : Nat) ≤ 3 := by unfold frt; rw [if_neg c]; split; omega; split <;> omega
      have := pow_le e1
      have e3 : (2 : Int) ^ 3 = 8 := by decide
      omega
    · have e1 : frt (nxS C row p : Nat) = 7 := by unfold frt; rw [if_neg c, if_neg (by omega), if_neg (by omega)]
      rw [e1] at h1 ⊢
      have e3 : (2 : Int) ^ 7 = 128 := by decide
      omega

theorem lay_in {a : List Int} {r : Rn} (h : ∀ x ∈ a, 0 ≤ x ∧ x ≤ 15) (h0 : 0 ≤ r.1) : ∀ x ∈ lay a r, 0 ≤ x ∧ x ≤ 15 := by
  intro x hx
  unfold lay at hx
  rcases List.mem_append.1 hx with q | q
  · exact h x q
  · rw [List.eq_of_mem_replicate q]
    unfold mnt
    split
    · omega
    · split
      · rw [List.getD_eq_getElem?_getD]
        cases e : a[a.length - 1]? with
        | none => simp
        | some y => exact h y (List.mem_of_getElem? e)
      · omega

theorem rl_facts {C row : List Int} (hb : Bit row) (want : Nat) : ∀ f acc p, want - acc.length ≤ f → acc.length ≤ want → (∀ x ∈ acc, 0 ≤ x ∧ x ≤ 15) → (rl C row want f acc p).1 = 0 → (rl C row want f acc p).2.1.length = want ∧ ∀ x ∈ (rl C row want f acc p).2.1, 0 ≤ x ∧ x ≤ 15
  | 0, acc, p, hf, hl, ha, _ => ⟨by show acc.length = want; omega, ha⟩
  | f + 1, acc, p, hf, hl, ha, h0 => by
    by_cases c : acc.length < want
    · rw [rl, if_pos c] at h0 ⊢
      by_cases c1 : trE C row p ≠ 0
      · rw [if_pos c1] at h0; simp at h0
      · rw [if_neg c1] at h0 ⊢
        by_cases c2 : nxS C row p = 16 ∧ acc = []
        · rw [if_pos c2] at h0; simp at h0
        · rw [if_neg c2] at h0 ⊢
          by_cases c3 : (want : Int) < acc.length + trC C row p
          · rw [if_pos c3] at h0; simp at h0
          · rw [if_neg c3] at h0 ⊢
            have ht := tr_bound (C := C) hb p
            refine rl_facts hb want f _ _ ?_ ?_ (lay_in ha (by show (0 : Int) ≤ (nxS C row p : Nat); omega)) h0
            · rw [lay_len]; show want - (acc.length + (trC C row p).toNat) ≤ f; omega
            · rw [lay_len]; show acc.length + (trC C row p).toNat ≤ want; omega
    · rw [rl, if_neg c]
      exact ⟨by show acc.length = want; omega, ha⟩

end Go.Proofs.YtfoglaajnlbnbaaGreatDoor

namespace Go.Proofs.YtfoglaajnlbnbaaGreatDoor
open Go.RowKit Go.Maps
set_option maxRecDepth 20000
set_option linter.unusedVariables false

theorem lay_more (a : List Int) (k : Nat) (x : Int) : a ++ List.replicate (k + 1) x = (a ++ List.replicate k x) ++ [x] := by
  rw [List.replicate_succ', List.append_assoc]

set_option maxHeartbeats 1000000 in
theorem layr_any (u : Value) (acc : List Int) (s : Int) (c : Nat) (w : World) (B : Nat) (h : OI w B u acc) (hB : B ≤ w.heap.size) (h16 : s = 16 → 0 < acc.length) (hc : c ≤ 138) (hl : acc.length ≤ 1000000000) :
    Calls Tryz.prog 177 #[u, .agg #[.int .i64 s, .int .i64 c]] w fun e w' => ∃ u', e = .returned u' ∧ OI w' B u' (lay acc (s, (c : Int))) ∧ Below B w w' := by
  have HO := hide h
  obtain ⟨a, p, rfl⟩ := h.shape
  have HM := hide (meant_any s (.slice a acc.length p) acc (w.alloc (.cells #[.int .i64 s, .int .i64 c] 182)) (h.alloc _).sb h16)
  obtain ⟨V, HV⟩ : ∃ V, Hid (V = mnt s acc) := ⟨_, rfl⟩
  have HL : Hid (lay acc (s, (c : Int)) = acc ++ List.replicate c V) := by show _ = _; unfold lay; rw [HV.out]; rfl
  rw [← HV.out] at HM
  clear h h16
  go_enter Tryz.func177, Tryz.ntmps177
  go_wp2_with fail
  refine HM.out.mono ?_
  rintro e w1 ⟨rfl, hw1⟩
  subst hw1
  obtain ⟨w1, hw1⟩ : ∃ w1, w.alloc (.cells #[.int .i64 s, .int .i64 c] 182) = w1 := ⟨_, rfl⟩
  have HO1 : Hid (OI w1 B (.slice a acc.length p) acc) := by rw [← hw1]; exact hide (HO.out.alloc _)
  have HB1 : Hid (Below B w w1) := by rw [← hw1]; exact hide ((Below.refl _ _).alloc hB _)
  have cc : w1.cell? ⟨w.heap.size, 1, none⟩ = some (.int .i64 c) := by rw [← hw1]; unfold World.cell?; simp only [heap_alloc_new]; rfl
  rw [hw1]
  clear HM hw1
  go_wp2
  go_loopw [0, 12] (fun x i wr => ∃ k : Nat, k ≤ c ∧ i = .int .i64 k ∧ Hid (OI wr B x (acc ++ List.replicate k V)) ∧ Hid (Below B w wr)) (fun _ i _ => c - (intOf i).toNat)
  case atStart => exact ⟨0, Nat.zero_le _, rfl, by show OI _ _ _ _; simp only [List.replicate_zero, List.append_nil]; exact HO1.out, HB1.out⟩
  case round =>
    obtain ⟨k, hk, rfl, HX, HB⟩ := hrel
    by_cases hlt : k < c
    · have hlt' : (k : Int) < (c : Int) := by omega
      have HD := hide (lay_more acc k V)
      obtain ⟨D, HDD⟩ : ∃ D : List Int, Hid (D = acc ++ List.replicate k V) := ⟨_, hide rfl⟩
      have hDl : D.length ≤ 2000000000 := by rw [HDD.out, List.length_append, List.length_replicate]; omega
      rw [← HDD.out] at HX HD
      have hBw := HB.out.size
      obtain ⟨a2, p2, hu⟩ := HX.out.shape
      subst hu
      have HALC : Hid (OI (wr.alloc (.cells #[.int .i64 V] 3)) B (.slice a2 D.length p2) D) := HX.out.alloc _
      have HSR : Hid (Src Tryz.prog 1 65 (.slice (some ⟨wr.heap.size, 0, none⟩) 1 1) ([V] : List Int).length (([V] : List Int).map (Value.int .i64)) (wr.alloc (.cells #[.int .i64 V] 3))) := built_srcI wr [V]
      go_wp2_with (at_builtin; refine wpList_appI rfl _ _ 65 rfl B _ _ D [V] rfl HALC.out rfl HSR.out (by simp; omega) (by simp; omega) ?_)
      intro v3 w3 ho3 hgr3
      have HN : Hid (OI w3 B v3 (acc ++ List.replicate (k + 1) V) ∧ Below B w w3) := ⟨by rw [HD.out]; exact ho3, grow_one7 HB.out hB HX.out hgr3⟩
      clear ho3 hgr3
      go_wp2
      go_roundw
      case rel => exact ⟨k + 1, by omega, by go_num, HN.out.1, HN.out.2⟩
      case measure => simp [intOf]; omega
    · obtain rfl : k = c := by omega
      have hlt' : ¬ (k : Int) < (k : Int) := by omega
      have HF : Hid (OI wr B u0 (lay acc (s, (k : Int)))) := by show OI _ _ _ _; rw [HL.out]; exact HX.out
      clear HX
      obtain ⟨a2, p2, hu⟩ := HF.out.shape
      subst hu
      go_wp2
      go_ret
      exact ⟨_, rfl, HF.out, HB.out⟩

def tot (R : List Rn) : Nat := (lays [] R).length

theorem okr_parts {r : Rn} (h : Okr r) : ∃ s c : Nat, r = ((s : Int), (c : Int)) ∧ s < 19 ∧ lst s ≤ c ∧ (c : Int) ≤ mst s ∧ 1 ≤ c ∧ c ≤ 138 := by
  obtain ⟨a, b⟩ := r
  obtain ⟨h1, h2, h3, h4⟩ := h
  simp only at h1 h2 h3 h4
  obtain ⟨s, rfl⟩ := Int.eq_ofNat_of_zero_le h1
  have hs : s < 19 := by omega
  have hb : 1 ≤ b ∧ b ≤ 138 := by
    rcases tab_cases s hs with ⟨x, _, y⟩ | ⟨x, _, y⟩ | ⟨x, _, y⟩ | ⟨x, _, y⟩ <;> rw [x] at h3 <;> rw [y] at h4 <;> omega
  obtain ⟨c, rfl⟩ := Int.eq_ofNat_of_zero_le (show 0 ≤ b by omega)
  exact ⟨s, c, rfl, hs, h3, h4, by omega, by omega⟩

end Go.Proofs.YtfoglaajnlbnbaaGreatDoor

namespace Go.Proofs.YtfoglaajnlbnbaaGreatDoor
open Go.RowKit Go.Maps
set_option maxRecDepth 20000
set_option linter.unusedVariables false

end Go.Proofs.YtfoglaajnlbnbaaGreatDoor

namespace Go.Proofs.YtfoglaajnlbnbaaGreatDoor
open Go.RowKit Go.Maps
set_option maxRecDepth 20000
set_option linter.unusedVariables false

end Go.Proofs.YtfoglaajnlbnbaaGreatDoor

namespace Go.Proofs.YtfoglaajnlbnbaaGreatDoor
open Go.RowKit Go.Maps
set_option maxRecDepth 20000
set_option linter.unusedVariables false

theorem sums_app (a b : List Int) : usum (a ++ b) = usum a + usum b ∧ tsum (a ++ b) = tsum a + tsum b := by simp [usum, tsum]
theorem sums_zero {l : List Int} (h : ∀ x ∈ l, x = 0) : usum l = 0 ∧ tsum l = 0 := by
  induction l with
  | nil => exact ⟨rfl, rfl⟩
  | cons a l ih =>
    obtain ⟨i1, i2⟩ := ih fun x hx => h x (List.mem_cons_of_mem _ hx)
    have := h a List.mem_cons_self
    subst this
    simp only [usum, tsum, List.map_cons, List.sum_cons] at i1 i2 ⊢
    rw [i1, i2]
    exact ⟨rfl, rfl⟩
theorem tsum_usum {l : List Int} (h : tsum l = 0) : usum l = 0 := by
  induction l with
  | nil => rfl
  | cons a l ih =>
    simp only [usum, tsum, List.map_cons, List.sum_cons] at h ih ⊢
    have h1 : one a = 0 := by omega
    have h2 := ih (by omega)
    rw [h2]
    unfold one at h1
    unfold wt
    split at h1
    · omega
    · rename_i q; rw [if_neg q]

theorem trm_sums (l : List Int) (f : Nat) : usum (trm l f) = usum l ∧ tsum (trm l f) = tsum l := by
  have hle := tln_le l f
  obtain ⟨z1, z2⟩ := sums_zero (l := List.replicate (f - tln l f) 0) (fun x hx => (List.mem_replicate.1 hx).2)
  obtain ⟨y1, y2⟩ := sums_zero (l := l.drop (tln l f)) (fun x hx => by
    obtain ⟨i, hi, rfl⟩ := List.getElem_of_mem hx
    rw [List.length_drop] at hi
    have := tl_zero l f l.length (tln l f + i) (by unfold tln; omega) (by omega)
    rw [List.getElem_drop]
    rw [List.getD_eq_getElem?_getD, List.getElem?_eq_getElem (by omega)] at this
    simpa using this)
  have e : l = l.take (tln l f) ++ l.drop (tln l f) := (List.take_append_drop _ _).symm
  obtain ⟨a1, a2⟩ := sums_app (l.take (tln l f)) (List.replicate (f - tln l f) 0)
  obtain ⟨b1, b2⟩ := sums_app (l.take (tln l f)) (l.drop (tln l f))
  rw [← e] at b1 b2
  unfold trm
  omega

theorem trm_lens2 {l : List Int} {f : Nat} (hl : l.length ≤ 286) (hf : f ≤ 257) (h : ∀ x ∈ l, 0 ≤ x ∧ x ≤ 15) : Lens (trm l f) := by
  have := trm_lens (l := l) hl hf
  exact ⟨by omega, trm_all l f h⟩

theorem chkS_trm {l : List Int} {f : Nat} (hl : l.length ≤ 286) (hf : f ≤ 257) (h : ∀ x ∈ l, 0 ≤ x ∧ x ≤ 15) : chkS (trm l f) = shp l := by
  unfold chkS
  rw [if_pos (trm_lens2 hl hf h)]
  obtain ⟨a, b⟩ := trm_sums l f
  unfold shp
  rw [a, b]

end Go.Proofs.YtfoglaajnlbnbaaGreatDoor

