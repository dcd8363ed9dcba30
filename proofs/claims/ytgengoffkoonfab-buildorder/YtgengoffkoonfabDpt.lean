import Derived.Test.YtgengoffkoonfabJjn
namespace Go.Proofs.Ytgengoffkoonfab
open Go.RowKit Go.Maps
set_option maxRecDepth 20000
set_option linter.unusedVariables false

def fq (l : List Int) (s : Nat) : Nat := (l.getD s 0).toNat

/-- Depths' length of a symbol. -/
def dp (l : List Int) (s : Nat) : Nat := if (us l).length = 1 then (if s ∈ us l then 1 else 0) else hrun ((us l).length - 1) (leafs (fq l) (us l)) (fun _ => 0) s

def dpt (l : List Int) : List Int := (List.range l.length).map fun s => (dp l s : Int)
def dptE (l : List Int) : Int := if 288 < l.length then 1 else if bnb l 4294967296 = false then 61 else 0
def dptL (l : List Int) : List Int := if dptE l = 0 then dpt l else []

theorem dpt_len (l : List Int) : (dpt l).length = l.length := by simp [dpt]

theorem done_out {row : List Nod} {len len' : Nat → Nat} (h : Done row len len') {s : Nat} (hs : s ∉ syms row) : len' s = len s := by
  induction h with
  | one n len => rfl
  | join x y rest hs' hp _ _ hh hp2 _ ih =>
    have hps := syms_perm hp
    have hx : s ∉ x.2 ++ y.2 := fun hm => hs (hps.symm.subset (by
      simp only [syms, List.flatMap_cons]
      rcases List.mem_append.1 hm with q | q
      · exact List.mem_append_left _ q
      · exact List.mem_append_right _ (List.mem_append_left _ q)))
    have hnh : s ∉ hs' := fun hm => hx (hh.subset hm)
    rw [ih ?_, bmp_out hnh]
    intro hm
    have := (syms_perm hp2).subset hm
    simp only [syms, List.flatMap_cons] at this
    rcases List.mem_append.1 this with q | q
    · exact hnh q
    · exact hs (hps.symm.subset (by
        simp only [syms, List.flatMap_cons]
        exact List.mem_append_right _ (List.mem_append_right _ q)))

theorem leafs_len (f : Nat → Nat) (S : List Nat) : (leafs f S).length = S.length := by simp [leafs]

theorem dp_out {l : List Int} {s : Nat} (h : s ∉ us l) : dp l s = 0 := by
  unfold dp
  by_cases c : (us l).length = 1
  · rw [if_pos c, if_neg h]
  · rw [if_neg c]
    by_cases d : (us l).length = 0
    · rw [d]; rfl
    · exact done_out (hrun_done _ _ _ (by rw [leafs_len]; omega)) (by rw [syms_leafs]; exact h)

theorem dpt_spr (l : List Int) : spr l.length (us l) (fun s => (dp l s : Int)) = dpt l := by
  unfold spr dpt
  refine List.map_congr_left fun s _ => ?_
  by_cases h : s ∈ us l
  · rw [if_pos h]
  · rw [if_neg h, dp_out h]; rfl

theorem dpt_few {l : List Int} (h : (us l).length < 2) : spr l.length (us l) (fun _ => 1) = dpt l := by
  unfold spr dpt
  refine List.map_congr_left fun s _ => ?_
  by_cases hs : s ∈ us l
  · have h1 : (us l).length = 1 := by
      have := List.length_pos_of_mem hs
      omega
    rw [if_pos hs]
    unfold dp
    rw [if_pos h1, if_pos hs]
    rfl
  · rw [if_neg hs, dp_out hs]; rfl

def zl (l : List Int) : List Znd := (leafs (fq l) (us l)).zip (List.range (us l).length)

theorem zl_len (l : List Int) : (zl l).length = (us l).length := by simp [zl, leafs_len]
theorem zl_row (l : List Int) : zro (zl l) = leafs (fq l) (us l) := by
  unfold zro zl
  rw [List.map_fst_zip]
  simp [leafs_len]
theorem zl_ids (l : List Int) : (zl l).map (·.2) = List.range (us l).length := by
  unfold zl
  rw [List.map_snd_zip]
  simp [leafs_len]

theorem zl_weights (l : List Int) : ((us l).map fun s => l.getD s 0) = (zl l).map fun z => (z.1.1 : Int) := by
  have e : ((zl l).map fun z => (z.1.1 : Int)) = (zro (zl l)).map fun n => (n.1 : Int) := by simp [zro, Function.comp_def]
  rw [e, zl_row]
  unfold leafs
  rw [List.map_map]
  refine List.map_congr_left fun s hs => ?_
  have := (mem_us.1 hs).2
  simp only [Function.comp_apply, fq]
  omega

theorem fq_le {l : List Int} (h : bnd l 4294967296 l.length) {s : Nat} (hs : s ∈ us l) : 1 ≤ fq l s ∧ fq l s ≤ 4294967296 := by
  obtain ⟨h1, h2⟩ := mem_us.1 hs
  have := h s h1
  unfold fq
  omega

theorem sum_le {S : List Nat} {f : Nat → Nat} {b : Nat} (h : ∀ s ∈ S, f s ≤ b) : (S.map f).sum ≤ b * S.length := by
  induction S with
  | nil => simp
  | cons a r ih =>
    have h1 := ih fun s hs => h s (List.mem_cons_of_mem _ hs)
    have h2 := h a (by simp)
    simp only [List.map_cons, List.sum_cons, List.length_cons, Nat.mul_add, Nat.mul_one]
    omega

theorem us_le {l : List Int} : (us l).length ≤ l.length := usk_len l l.length

theorem tot_le {l : List Int} (h : bnd l 4294967296 l.length) (hl : l.length ≤ 288) : ((us l).map (fq l)).sum ≤ 1236950581248 := by
  have := sum_le (S := us l) (f := fq l) (b := 4294967296) fun s hs => (fq_le h hs).2
  have h2 := us_le (l := l)
  omega

theorem zl_sum {l : List Int} (h : bnd l 4294967296 l.length) (hl : l.length ≤ 288) : zsum (zl l) ≤ 1236950581248 := by
  have e : zsum (zl l) = ((zro (zl l)).map (·.1)).sum := by simp [zsum, zro, Function.comp_def]
  rw [e, zl_row, fst_leafs]
  exact tot_le h hl

theorem zl_num (l : List Int) : Znum (zl l) (us l).length := by
  refine ⟨by rw [zl_ids]; exact List.nodup_range, fun z hz => ?_⟩
  have : z.2 ∈ (zl l).map (·.2) := List.mem_map_of_mem hz
  rw [zl_ids] at this
  exact List.mem_range.1 this

/-- What the program reckons is what the joining counts. -/
theorem join_eq {l : List Int} (h2 : 2 ≤ (us l).length) :
    (dn (hids ((us l).length - 1) (zl l) (us l).length fun _ => 0) (2 * (us l).length - 2) (2 * (us l).length - 2)).take (us l).length = (us l).map fun s => (dp l s : Int) := by
  obtain ⟨n, hn⟩ : ∃ n, n = (us l).length := ⟨_, rfl⟩
  obtain ⟨H, hH⟩ : ∃ H, H = hids ((us l).length - 1) (zl l) (us l).length fun _ => 0 := ⟨_, rfl⟩
  have hup : ∀ v, v + 1 < 2 * n - 1 → v < H v ∧ H v < 2 * n - 1 := fun v hv => by
    have := hids_up ((us l).length - 1) (zl l) (us l).length (fun _ => 0) (zl_num l) (by rw [zl_len]; omega) v (by omega) (by
      by_cases c : v < (us l).length
      · left; rw [zl_ids]; exact List.mem_range.2 c
      · right; omega) (by omega)
    rw [← hH] at this
    exact ⟨this.1, by have := this.2; omega⟩
  obtain ⟨D, hD⟩ : ∃ D : Nat → Nat, D = fun v => ((dn H (2 * n - 2) (2 * n - 2)).getD v 0).toNat := ⟨_, rfl⟩
  have hDe : ∀ v, ((D v : Nat) : Int) = (dn H (2 * n - 2) (2 * n - 2)).getD v 0 := fun v => by
    have := (dn_bound H (2 * n - 2) (2 * n - 2) v).1
    rw [hD]
    simp only
    omega
  have key := hids_deep ((us l).length - 1) (zl l) (us l).length (fun _ => 0) (fun _ => 0) D (zl_num l) (by rw [zl_len]; omega) (by rw [zl_row, syms_leafs]; exact us_nodup l) (2 * n - 2) ⟨fun e => by omega, fun _ => by omega⟩
    (by have := hDe (2 * n - 2); rw [dn_root H _ _ (Nat.le_refl _)] at this; omega)
    (fun v _ hv hne => by
      rw [← hH]
      have h1 := hup v (by omega)
      have h3 := dn_step H (2 * n - 2) v (by omega) h1.1
      rw [← hDe, ← hDe] at h3
      omega)
  rw [zl_row] at key
  rw [← hH, ← hn]
  apply List.ext_getElem
  · rw [List.length_take, dn_len, List.length_map]; omega
  · intro i h1 h3
    rw [List.length_map] at h3
    rw [List.getElem_take, List.getElem_map]
    have hz : (zl l)[i]'(by rw [zl_len]; exact h3) = ((fq l (us l)[i], [(us l)[i]]), i) := by
      simp [zl, leafs]
    have hk := key _ (List.getElem_mem (l := zl l) (n := i) (by rw [zl_len]; exact h3)) (us l)[i] (by rw [hz]; simp)
    rw [hz] at hk
    have hdi := hDe i
    have e : (dn H (2 * n - 2) (2 * n - 2)).getD i 0 = (dn H (2 * n - 2) (2 * n - 2))[i]'(by rw [dn_len]; omega) := by
      rw [List.getD_eq_getElem?_getD, List.getElem?_eq_getElem (by rw [dn_len]; omega)]; rfl
    rw [← e, ← hdi]
    unfold dp
    rw [if_neg (by omega), hk]
    simp

set_option maxHeartbeats 1000000 in
theorem depths_any (v : Value) (l : List Int) (w : World) (h : SI w v l) :
    Calls Try.prog 11 #[v] w fun e w' => ∃ a c, e = .returned (.tuple #[.slice a (dptL l).length c, .int .i64 (dptE l)]) ∧ OI w' w.heap.size (.slice a (dptL l).length c) (dptL l) ∧ Below w.heap.size w w' := by
  have HS := hide h
  obtain ⟨ao, cap, rfl, hlc, hcm⟩ := h.open
  clear h
  by_cases h1 : 288 < l.length
  · have h1' : (288 : Int) < (l.length : Int) := by omega
    have HE : Hid (dptE l = 1) := if_pos h1
    have HV : Hid (dptL l = []) := if_neg (by rw [HE.out]; decide)
    rw [HE.out, HV.out]
    go_enter Try.func11, Try.ntmps11
    go_wp2
    go_ret2
    exact ⟨none, 0, rfl, World.ownsRow_nil _ _ _ _, Below.refl _ _⟩
  have h1' : ¬ (288 : Int) < (l.length : Int) := by omega
  cases hw : bnb l 4294967296 with
  | false =>
    have HE : Hid (dptE l = 61) := by show dptE l = 61; unfold dptE; rw [if_neg h1, if_pos hw]
    have HV : Hid (dptL l = []) := if_neg (by rw [HE.out]; decide)
    rw [HE.out, HV.out]
    have HW := hide hw
    clear hw
    go_enter Try.func11, Try.ntmps11
    go_wp2_with fail
    refine (weighable_any _ l _ HS.out).mono ?_
    rintro e w1 ⟨rfl, rfl⟩
    rw [HW.out]
    go_wp2
    go_ret2
    exact ⟨none, 0, rfl, World.ownsRow_nil _ _ _ _, Below.refl _ _⟩
  | true =>
    have HE : Hid (dptE l = 0) := by show dptE l = 0; unfold dptE; rw [if_neg h1, if_neg (by rw [hw]; decide)]
    have HV : Hid (dptL l = dpt l) := if_pos HE.out
    rw [HE.out, HV.out, dpt_len]
    have HW := hide hw
    have hbn := bnb_iff.1 hw
    have HSU := hide (zl_sum hbn (by omega))
    have HMU : Hid (∀ s ∈ us l, s < l.length) := fun s hs => (mem_us.1 hs).1
    have hul := us_le (l := l)
    have HWT := hide (zl_weights l)
    have HSP := hide (dpt_spr l)
    clear hw hbn
    by_cases h2 : (us l).length < 2
    · have h2' : ((us l).length : Int) < 2 := by omega
      have HFW := hide (dpt_few h2)
      go_enter Try.func11, Try.ntmps11
      go_wp2_with fail
      refine (weighable_any _ l _ HS.out).mono ?_
      rintro e w1 ⟨rfl, rfl⟩
      rw [HW.out]
      go_wp2_with fail
      refine (used_any _ l _ HS.out (by omega)).mono ?_
      rintro e w2 ⟨a2, c2, rfl, ho2, hb2⟩
      have HO2 := hide ho2
      have HB2 := hide hb2
      clear ho2 hb2
      go_wp2_with fail
      refine (few_any l.length _ (us l) _ HO2.out.sb HMU.out (by omega) (by omega)).mono ?_
      rintro e w3 ⟨a3, c3, rfl, ho3, hb3⟩
      have HF : Hid (OI w3 w1.heap.size (.slice a3 l.length c3) (dpt l) ∧ Below w1.heap.size w1 w3) := ⟨by rw [← HFW.out]; exact ho3.base HB2.out.size, HB2.out.trans (hb3.mono HB2.out.size)⟩
      clear ho3 hb3
      go_wp2
      go_ret2
      exact ⟨_, _, rfl, HF.out.1, HF.out.2⟩
    · have h2' : ¬ ((us l).length : Int) < 2 := by omega
      have HJE := hide (join_eq (l := l) (by omega))
      have HZL := hide (zl_len l)
      have HZI := hide (zl_ids l)
      go_enter Try.func11, Try.ntmps11
      go_wp2_with fail
      refine (weighable_any _ l _ HS.out).mono ?_
      rintro e w1 ⟨rfl, rfl⟩
      rw [HW.out]
      go_wp2_with fail
      refine (used_any _ l _ HS.out (by omega)).mono ?_
      rintro e w2 ⟨a2, c2, rfl, ho2, hb2⟩
      have HO2 := hide ho2
      have HB2 := hide hb2
      have HS2 := hide (HS.out.below hb2)
      clear ho2 hb2
      go_wp2_with fail
      refine (pick_any _ _ l (us l) _ HS2.out HO2.out.sb HMU.out (by omega)).mono ?_
      rintro e w3 ⟨a3, c3, rfl, ho3, hb3⟩
      have HO3 := hide ho3
      have HB3 := hide (HB2.out.trans (hb3.mono HB2.out.size))
      have HO23 := hide (HO2.out.below hb3 (Nat.le_refl _))
      have HJ := hide (join_any _ _ (zl l) w3 ho3.sb HWT.out (by rw [zl_ids, zl_len]) (by rw [zl_len]; omega) (by rw [zl_len]; omega) HSU.out)
      rw [HZL.out, HJE.out] at HJ
      clear ho3 hb3
      go_wp2_with fail
      refine HJ.out.mono ?_
      rintro e w4 ⟨a4, c4, rfl, hs4, hb4⟩
      have HS4 := hide hs4
      have HB4 := hide (HB3.out.trans (hb4.mono HB3.out.size))
      have HO24 := hide (HO23.out.below hb4 (Nat.le_refl _))
      clear hs4 hb4
      go_wp2_with fail
      refine (spread_any l.length _ _ (us l) (fun s => (dp l s : Int)) _ HO24.out.sb HS4.out HMU.out (by omega) (by omega)).mono ?_
      rintro e w5 ⟨a5, c5, rfl, ho5, hb5⟩
      have HF : Hid (OI w5 w1.heap.size (.slice a5 l.length c5) (dpt l) ∧ Below w1.heap.size w1 w5) := ⟨by rw [← HSP.out]; exact ho5.base HB4.out.size, HB4.out.trans (hb5.mono HB4.out.size)⟩
      clear ho5 hb5
      go_wp2
      go_ret2
      exact ⟨_, _, rfl, HF.out.1, HF.out.2⟩
end Go.Proofs.Ytgengoffkoonfab
