import Derived.Test.YtiabhmdefaabgabDoorGXln
import Derived.Test.YtiabhmdefaabgabDoorGLmw
namespace Go.Proofs.YtiabhmdefaabgabDoor
open Go.RowKit Go.Maps
set_option maxRecDepth 20000
set_option linter.unusedVariables false
set_option linter.unusedSimpArgs false

/-- Nothing of it lies between two places of memory. -/
structure Npt (B C : Nat) (u : Value) (R : List Mnd) : Prop where
  row : ∀ b, u.ownBlock = some b → b < B ∨ C ≤ b
  holds : ∀ p ∈ R, ∀ b, p.2.ownBlock = some b → b < B ∨ C ≤ b

structure Lst (w1 wo : World) (B C n : Nat) (lv : Value) (len : Nat → Nat) (W : World) : Prop where
  le : OI W B lv (hls n len)
  keep : ∀ b, b < B ∨ C ≤ b → W.heap[b]? = wo.heap[b]?
  bl : Below w1.heap.size w1 W

theorem Lst.on {w1 wo W : World} {B C n b0 : Nat} {lv u : Value} {len : Nat → Nat} {R : List Mnd} (h : Lst w1 wo B C n lv len W) (ho : ON wo b0 u R) (hp : Npt B C u R) : ON W b0 u R :=
  ⟨rown_move6 ho.row fun k hk => h.keep k (hp.row k hk), fun p hq => (ho.holds p hq).move fun k hk => h.keep k (hp.holds p hq k hk)⟩

theorem Lst.bump {w1 wo W : World} {B C n gl c s : Nat} {A : List Nat} (h : Lst w1 wo B C n (.slice (some ⟨gl, 0, none⟩) n c) (cof A) W) (h1 : B ≤ gl) (h2 : gl < C) (hw : w1.heap.size ≤ B) (hs : s < n) :
    W.cell? ⟨gl, s, none⟩ = some (.int .i64 (cof A s : Int)) ∧ W.frozen? ⟨gl, s, none⟩ = false ∧ Lst w1 wo B C n (.slice (some ⟨gl, 0, none⟩) n c) (cof (A ++ [s])) (W.setCell ⟨gl, s, none⟩ (.int .i64 ((cof A s : Int) + 1))) := by
  have e1 := h.le.get (b := gl) rfl (i := s) (by rw [hls_len]; exact hs)
  rw [hls_get (cof A) hs] at e1
  refine ⟨e1, (h.le.putg (k := s) (by rw [hls_len]; exact hs) 0).2.1, ?_, fun b hb => ?_, h.bl.setCell (p := ⟨gl, s, none⟩) (by show w1.heap.size ≤ gl; omega) _⟩
  · have e2 := (h.le.putg (k := s) (by rw [hls_len]; exact hs) ((cof A s : Int) + 1)).2.2
    rw [cof_step A hs] at e2
    exact e2
  · rw [setCell_others _ _ _ _ b (by show b ≠ gl; omega)]
    exact h.keep b hb

theorem npk_in {l : List Nod} {s : Nat} (h : s ∈ syms (npk l)) : s ∈ syms l := by
  induction l using npk.induct with
  | case1 a b r ih =>
    rw [npk] at h
    simp only [syms, List.flatMap_cons, List.mem_append] at h ih ⊢
    rcases h with (h | h) | h
    · exact .inl h
    · exact .inr (.inl h)
    · exact .inr (.inr (ih h))
  | case2 l hl =>
    rw [npk.eq_2 _ hl] at h
    simp [syms] at h

theorem nmg_in {a b : List Nod} {s : Nat} (h : s ∈ syms (nmg a b)) : s ∈ syms a ∨ s ∈ syms b := by
  induction a, b using nmg.induct with
  | case1 p => rw [nmg] at h; exact .inr h
  | case2 a w => rw [nmg] at h; exact .inl h
  | case3 a w b p c ih =>
    rw [nmg, if_pos c] at h
    simp only [syms, List.flatMap_cons, List.mem_append] at h ih ⊢
    rcases h with h | h
    · exact .inl (.inl h)
    · rcases ih h with h | h
      · exact .inl (.inr h)
      · exact .inr h
  | case4 a w b p c ih =>
    rw [nmg, if_neg c] at h
    simp only [syms, List.flatMap_cons, List.mem_append] at h ih ⊢
    rcases h with h | h
    · exact .inr (.inl h)
    · rcases ih h with h | h
      · exact .inl h
      · exact .inr (.inr h)

theorem nrow_in {W : List Nod} {k s : Nat} (h : s ∈ syms (nrow W k)) : s ∈ syms W := by
  induction k with
  | zero => simp [nrow, syms] at h
  | succ k ih =>
    rcases nmg_in h with h | h
    · exact h
    · exact ih (npk_in h)

theorem syms_cut (R : List Nod) (i : Nat) : (syms (R.take i)).length ≤ (syms R).length := by
  have e : (syms R).length = (syms (R.take i)).length + (syms (R.drop i)).length := by
    rw [← List.length_append]
    unfold syms
    rw [← List.flatMap_append, List.take_append_drop]
  omega

theorem cof_le (A : List Nat) (s : Nat) : cof A s ≤ A.length := List.count_le_length

set_option maxHeartbeats 8000000 in
theorem xlimited_any (v : Value) (l : List Int) (lim : Int) (w : World) (h : SI w v l) (hlim : -9223372036854775808 ≤ lim ∧ lim ≤ 9223372036854775807) :
    Calls Tryd.prog 49 #[v, .int .i64 lim] w fun e w' => ∃ a c, e = .returned (.tuple #[.slice a (lmL l lim).length c, .int .i64 (lmE l lim)]) ∧ OI w' w.heap.size (.slice a (lmL l lim).length c) (lmL l lim) ∧ Below w.heap.size w w' := by
  have HS := hide h
  obtain ⟨ao, cap, rfl, hlc, hcm⟩ := h.open
  clear h
  by_cases h1 : 288 < l.length ∨ lim < 1 ∨ 15 < lim
  · have HE : Hid (lmE l lim = 1) := if_pos h1
    have HV : Hid (lmL l lim = []) := if_neg (by rw [HE.out]; decide)
    rw [HE.out, HV.out]
    by_cases q1 : 288 < l.length
    · have q1' : (288 : Int) < (l.length : Int) := by omega
      clear h1
      go_enter Tryd.func49, Tryd.ntmps49
      go_wp2
      go_ret2
      exact ⟨none, 0, rfl, World.ownsRow_nil _ _ _ _, Below.refl _ _⟩
    · have q1' : ¬ (288 : Int) < (l.length : Int) := by omega
      by_cases q2 : lim < 1
      · clear h1
        go_enter Tryd.func49, Tryd.ntmps49
        go_wp2
        go_ret2
        exact ⟨none, 0, rfl, World.ownsRow_nil _ _ _ _, Below.refl _ _⟩
      · have q3 : 15 < lim := by omega
        clear h1
        go_enter Tryd.func49, Tryd.ntmps49
        go_wp2
        go_ret2
        exact ⟨none, 0, rfl, World.ownsRow_nil _ _ _ _, Below.refl _ _⟩
  have q1 : ¬ (288 : Int) < (l.length : Int) := by omega
  obtain ⟨L, rfl⟩ : ∃ L : Nat, lim = L := ⟨lim.toNat, by omega⟩
  have q2 : ¬ (L : Int) < 1 := by omega
  have q3 : ¬ 15 < (L : Int) := by omega
  have hL1 : 1 ≤ L ∧ L ≤ 15 := by omega
  have hl288 : l.length ≤ 288 := by omega
  have HLT : Hid ((L : Int).toNat = L) := Int.toNat_natCast L
  cases hw : bnb l 4294967296 with
  | false =>
    have HE : Hid (lmE l L = 61) := by show lmE l L = 61; unfold lmE; rw [if_neg h1, if_pos hw]
    have HV : Hid (lmL l L = []) := if_neg (by rw [HE.out]; decide)
    rw [HE.out, HV.out]
    have HW := hide hw
    clear hw h1
    go_enter Tryd.func49, Tryd.ntmps49
    go_wp2_with fail
    refine (weighs_any _ l _ HS.out).mono ?_
    rintro e w1 ⟨rfl, rfl⟩
    rw [HW.out]
    go_wp2
    go_ret2
    exact ⟨none, 0, rfl, World.ownsRow_nil _ _ _ _, Below.refl _ _⟩
  | true =>
    have HW := hide hw
    have hbn := bnb_iff.1 hw
    have hnn : ∀ i, 0 ≤ l.getD i 0 := fun i => by
      by_cases c : i < l.length
      · exact (hbn i c).1
      · rw [List.getD_eq_getElem?_getD, List.getElem?_eq_none (by omega)]; exact Int.le_refl _
    have HMU : Hid (∀ s ∈ us6 l, s < l.length) := fun s hs => (mem_us.1 hs).1
    have hul := us_le6 (l := l)
    obtain ⟨p, hp⟩ : ∃ p, p = 2 ^ L := ⟨_, rfl⟩
    obtain ⟨p1, p2, p3, p4⟩ := pow15 hL1.2 hp
    by_cases h60 : p < (us6 l).length
    · have HE : Hid (lmE l L = 60) := by show lmE l L = 60; unfold lmE; rw [if_neg h1, if_neg (by rw [hw]; decide), HLT.out, if_pos (by rw [← hp]; exact h60)]
      have HV : Hid (lmL l L = []) := if_neg (by rw [HE.out]; decide)
      rw [HE.out, HV.out]
      have hnnl := hnn
      clear hw h1 hbn hnn hp
      go_enter Tryd.func49, Tryd.ntmps49
      go_wp2_with fail
      refine (weighs_any _ l _ HS.out).mono ?_
      rintro e w1 ⟨rfl, rfl⟩
      rw [HW.out]
      go_wp2_with fail
      refine (leaves_any _ l _ HS.out hl288 hnnl).mono ?_
      rintro e w2 ⟨v2, rfl, M, ho2, hM, hb2⟩
      have HB2 := hide hb2
      have hMl : M.length = (us6 l).length := by rw [← mro_len, hM, leafs_len, srl_len]
      obtain ⟨a2, c2, hv2, _⟩ := ho2.shape
      rw [hMl] at hv2
      subst hv2
      have h60' : (p : Int) < ((us6 l).length : Int) := by omega
      clear ho2 hb2 hM hMl hnnl
      go_wp2
      go_ret2
      exact ⟨none, 0, rfl, World.ownsRow_nil _ _ _ _, HB2.out⟩
    · have HE : Hid (lmE l L = 0) := by show lmE l L = 0; unfold lmE; rw [if_neg h1, if_neg (by rw [hw]; decide), HLT.out, if_neg (by rw [← hp]; exact h60)]
      have HV : Hid (lmL l L = lmt l L) := by show _ = _; unfold lmL; rw [if_pos HE.out, HLT.out]
      rw [HE.out, HV.out, lmt_len]
      have hnnl := hnn
      have HTOT := hide (tot_le hbn hl288)
      have HRM : Hid (2 * (us6 l).length - 2 ≤ (nrow (leafs (fq l) (srl l)) L).length) := by
        show _ ≤ _
        have e : (nrow (leafs (fq l) (srl l)) L).length = (row (lws l) L).length := by
          have e0 := congrArg List.length (nrow_fst (leafs (fq l) (srl l)) L)
          rw [List.length_map] at e0
          rw [e0]
          congr 2
          unfold leafs lws
          rw [List.map_map]
          rfl
        obtain ⟨L', rfl⟩ : ∃ L', L = L' + 1 := ⟨L - 1, by omega⟩
        have := row_room (lws l) L' 2 (by rw [lws_len]; rw [hp, Nat.pow_succ] at h60; omega)
        rw [lws_len] at this
        rw [e]
        omega
      clear hw h1 hbn hnn hp
      go_enter Tryd.func49, Tryd.ntmps49
      go_wp2_with fail
      refine (weighs_any _ l _ HS.out).mono ?_
      rintro e w1 ⟨rfl, rfl⟩
      rw [HW.out]
      go_wp2_with fail
      refine (leaves_any _ l _ HS.out hl288 hnnl).mono ?_
      rintro e w2 ⟨v2, rfl, M, ho2, hM, hb2⟩
      have HB2 := hide hb2
      have HO2 := hide ho2
      have HM := hide hM
      have hMl : M.length = (us6 l).length := by rw [← mro_len, hM, leafs_len, srl_len]
      obtain ⟨a2, c2, hv2, _⟩ := ho2.shape
      rw [hMl] at hv2
      subst hv2
      have h60' : ¬ (p : Int) < ((us6 l).length : Int) := by omega
      clear ho2 hb2 hM hnnl
      have hB12 := HB2.out.size
      go_wp2_with fail
      refine (zeros_any l.length _ (by omega)).mono ?_
      rintro e w3 ⟨a3, c3, rfl, ho3, hb3⟩
      have HO3 := hide ho3
      have HB3 := hide hb3
      have HB13 := hide (HB2.out.trans (hb3.mono hB12))
      have HO23 := hide (HO2.out.below hb3 (Nat.le_refl _))
      clear ho3 hb3
      have hB23 := HB3.out.size
      by_cases hu1 : (us6 l).length = 1
      · obtain ⟨s0, hs0⟩ := List.length_eq_one_iff.1 (show (srl l).length = 1 by rw [srl_len]; exact hu1)
        have hsu : s0 ∈ us6 l := srl_mem.1 (by rw [hs0]; simp)
        have hsl : s0 < l.length := (mem_us.1 hsu).1
        have hul1 : us6 l = [s0] := by
          obtain ⟨t, ht⟩ := List.length_eq_one_iff.1 hu1
          rw [ht] at hsu ⊢
          rw [List.mem_singleton.1 hsu]
        have hM0 : (M.getD 0 mn0).1 = (fq l s0, [s0]) := by rw [← mro_get, HM.out, hs0]; rfl
        obtain ⟨g, c, hv, _, x2⟩ := HO23.out.get (i := 0) (by omega)
        have hho := HO23.out.holds _ (md_mem (show 0 < M.length by omega))
        rw [hM0] at hho
        obtain ⟨pv, hpv⟩ : ∃ pv, pv = (M.getD 0 mn0).2 := ⟨_, rfl⟩
        rw [← hpv] at x2 hho
        obtain ⟨gp, cp, hpf, _⟩ := hho.form (by simp [ci])
        have hpc := hho.get (b := gp) (by rw [hpf]; rfl) (i := 0) (by simp [ci])
        have hpc' : w3.cell? ⟨gp, 0, none⟩ = some (.int .i64 (s0 : Int)) := hpc
        have hpf' : pv = .slice (some ⟨gp, 0, none⟩) 1 cp := hpf
        rw [hpf'] at x2
        have x2' : w3.cell? ⟨g, 1, none⟩ = some (.slice (some ⟨gp, 0, none⟩) 1 cp) := x2
        rw [hMl] at hv
        simp only [Value.slice.injEq] at hv
        obtain ⟨rfl, -, rfl⟩ := hv
        obtain ⟨g2, d2, hv2, hc2⟩ := HO3.out.form (by rw [List.length_replicate]; omega)
        simp only [Value.slice.injEq] at hv2
        obtain ⟨rfl, -, rfl⟩ := hv2
        obtain ⟨⟨y, hy⟩, hfz, hox⟩ := HO3.out.putg (k := s0) (by rw [List.length_replicate]; exact hsl) 1
        have hs0l : (s0 : Int) < (l.length : Int) := by omega
        have hu1'' : ((us6 l).length : Int) = 1 := by omega
        have HF : Hid (OI (w3.setCell ⟨g2, s0, none⟩ (.int .i64 1)) w1.heap.size (.slice (some ⟨g2, 0, none⟩) l.length c3) (lmt l L) ∧ Below w1.heap.size w1 (w3.setCell ⟨g2, s0, none⟩ (.int .i64 1))) := by
          refine ⟨?_, HB13.out.setCell (p := ⟨g2, s0, none⟩) (by show w1.heap.size ≤ g2; have := hc2.1; omega) _⟩
          have e : (List.replicate l.length (0 : Int)).set s0 1 = lmt l L := by
            rw [← lmt_few (L := L) (by omega), hul1]
            apply List.ext_getElem
            · simp [spr]
            · intro i h1 h2
              rw [List.getElem_set]
              simp [spr, eq_comm]
          rw [← e]
          exact hox.base hB12
        clear hho hpc hpf hpf' hpv hox hc2 x2 hM0 hul1 hsu hs0 HTOT HRM
        go_wp2
        go_ret2
        exact ⟨_, _, rfl, HF.out.1, HF.out.2⟩
      · have hu1' : ¬ ((us6 l).length : Int) = 1 := by omega
        have HCL := hide (cof_lm (l := l) (L := L) hu1 HRM.out)
        obtain ⟨W, HWW⟩ : ∃ W, Hid (W = leafs (fq l) (srl l)) := ⟨_, hide rfl⟩
        rw [← HWW.out] at HM HRM HCL
        have HSUM : Hid (∀ k, k ≤ 15 → ((nrow W k).map (·.1)).sum ≤ 1000000000000000 ∧ (syms (nrow W k)).length ≤ 100000 ∧ (nrow W k).length ≤ 600) := fun k hk => by
          have h1 := nrow_sum W k
          have h2 : (W.map (·.1)).sum ≤ 1236950581248 := by
            have e : (W.map (·.1)).sum = ((us6 l).map (fq l)).sum := by
              rw [HWW.out]
              unfold leafs
              rw [List.map_map]
              exact ((srl_srt l).perm.map (fq l)).sum_nat
            rw [e]
            exact HTOT.out
          have h3 : (syms W).length ≤ 288 := by rw [HWW.out, syms_leafs, srl_len]; omega
          have h4 : W.length ≤ 288 := by rw [HWW.out, leafs_len, srl_len]; omega
          have h5 := Nat.mul_le_mul hk h2
          have h6 := Nat.mul_le_mul hk h3
          omega
        have HSLT : Hid (∀ s ∈ syms (nrow W L), s < l.length) := fun s hs => by
          have h1 := nrow_in hs
          rw [HWW.out, syms_leafs] at h1
          exact HMU.out s (srl_mem.1 h1)
        have hMu : M.length ≤ 288 := by omega
        obtain ⟨u, hu⟩ : ∃ u, u = (us6 l).length := ⟨_, rfl⟩
        have hu' : (us6 l).length = u := hu.symm
        rw [hu'] at HO2 HO23 HRM HCL hu1' h60' hMl hul ⊢
        have HMU2 : Hid (M.length = u) := hMl
        have HNP : Hid (Npt w2.heap.size w3.heap.size (.slice a2 u c2) M) := ⟨fun b hb => .inl (HO2.out.lt b hb).2, fun p hp b hb => .inl ((HO2.out.holds p hp).lt b hb).2⟩
        have HZ : Hid (hls l.length (cof []) = List.replicate l.length 0) := hls_zero _
        have hn15 : (L : Int) ≤ 15 := by omega
        have hu1b : ((u : Int) == 1) = false := by simp; omega
        have hw2u : IntKind.i64.wrap (2 * (u : Int)) = 2 * (u : Int) := by rw [IntKind.wrap_i64]; omega
        have hw2v : IntKind.i64.wrap (2 * (u : Int) - 2) = 2 * (u : Int) - 2 := by rw [IntKind.wrap_i64]; omega
        clear hu hMl HTOT h60 hMu hu1
        go_wp2
        go_loopw [10, 11] (fun v vk wr => ∃ (k : Nat) (R : List Mnd), 1 ≤ k ∧ k ≤ L ∧ vk = .int .i64 ((k : Int) + 1) ∧ Hid (ON wr 0 v R) ∧ Hid (mro R = nrow W k) ∧ Hid (Npt w2.heap.size w3.heap.size v R) ∧ Hid (Below w3.heap.size w3 wr)) (fun _ vk _ => L + 1 - (intOf vk).toNat)
        case atStart => exact ⟨1, M, Nat.le_refl _, hL1.1, rfl, HO23.out.base (Nat.zero_le _), by rw [nrow_one]; exact HM.out, HNP, Below.refl _ _⟩
        case round =>
          obtain ⟨k, R, hk1, hkL, rfl, HR, HRW, HNR, HBW⟩ := hrel
          have hBw := HBW.out.size
          by_cases hlt : k < L
          · have hlt' : (k : Int) + 1 ≤ (L : Int) := by omega
            obtain ⟨s1, s2, s3⟩ := HSUM.out k (by omega)
            rw [← HRW.out] at s1 s2 s3
            rw [mro_len] at s3
            obtain ⟨ar, cr, hvr, _⟩ := HR.out.shape
            subst hvr
            go_wp2_with fail
            refine (packages_any _ R _ _ HR.out (by omega) s1 s2).mono ?_
            rintro e w5 ⟨v5, rfl, M5, ho5, hM5, hab5, hb5⟩
            have HO5 := hide ho5
            have HM5 := hide hM5
            have HA5 := hide hab5
            have HB5 := hide (HBW.out.trans (hb5.mono hBw))
            have hB5 := hb5.size
            obtain ⟨q1, q2, q3⟩ := HSUM.out (k + 1) (by omega)
            have hM5l : M5.length ≤ 1000 := by
              have e := congrArg List.length hM5
              rw [mro_len] at e
              have := (npk_sum (mro R)).2.2
              rw [mro_len] at this
              omega
            have HO25 := hide (HO23.out.below HB5.out (Nat.le_refl _))
            clear ho5 hM5 hab5 hb5 q1 q2 q3 s1 s2
            go_wp2_with fail
            refine (merged_any _ _ M M5 _ _ _ HO25.out HO5.out (by rw [HMU2.out]; omega) hM5l).mono ?_
            rintro e w6 ⟨v6, rfl, ho6, hb6⟩
            have HN6 : Hid (Npt w2.heap.size w3.heap.size v6 (mmg M M5)) := ⟨fun b hb => .inr (by have := (ho6.lt b hb).1; omega), fun p hp b hb => by
              rcases mmg_mem hp with hp | hp
              · exact HNP.out.holds p hp b hb
              · exact .inr (by have := HA5.out p hp b hb; omega)⟩
            have HR6 : Hid (mro (mmg M M5) = nrow W (k + 1)) := by
              show _ = _
              rw [mmg_row, HM.out, HM5.out, HRW.out]
              rfl
            have HO6 : Hid (ON w6 0 v6 (mmg M M5)) := ho6.base (Nat.zero_le _)
            have HB6 : Hid (Below w3.heap.size w3 w6) := HB5.out.trans (hb6.mono HB5.out.size)
            obtain ⟨a6, c6, hv6, _⟩ := HO6.out.shape
            obtain ⟨n6, hn6⟩ : ∃ n, n = (mmg M M5).length := ⟨_, rfl⟩
            rw [← hn6] at hv6
            subst hv6
            clear ho6 hb6 hn6
            go_wp2
            go_roundw
            case rel => exact ⟨k + 1, _, by omega, by omega, by go_num, HO6, HR6, HN6, HB6⟩
            case measure => simp [intOf]; omega
          · obtain rfl : k = L := by omega
            have hlt' : ¬ (k : Int) + 1 ≤ (k : Int) := by omega
            obtain ⟨N, hN⟩ : ∃ N, N = 2 * u - 2 := ⟨_, rfl⟩
            rw [← hN] at HRM HCL
            have hNb : N ≤ 600 ∧ (N : Int) ≥ 2 * (u : Int) - 2 ∧ (∀ i : Nat, i < N → (i : Int) < 2 * (u : Int) - 2) := ⟨by omega, by omega, fun i hi => by omega⟩
            obtain ⟨hN6, hNg, hNl⟩ := hNb
            have HNl := hide hNl
            have HRL : Hid (N ≤ R.length) := by show _ ≤ _; rw [← mro_len, HRW.out]; exact HRM.out
            have hR6 : R.length ≤ 600 := by rw [← mro_len, HRW.out]; exact (HSUM.out k (by omega)).2.2
            have HLS : Hid (Lst w1 wr w2.heap.size w3.heap.size l.length (.slice a3 l.length c3) (cof (syms ((mro R).take 0))) wr) := by
              refine ⟨?_, fun _ _ => rfl, HB13.out.trans (HBW.out.mono (by omega))⟩
              rw [List.take_zero]
              have := HO3.out.below HBW.out (Nat.le_refl _)
              rw [← HZ.out] at this
              exact this
            have HLB : Hid (∀ b, (Value.slice a3 l.length c3).ownBlock = some b → w2.heap.size ≤ b ∧ b < w3.heap.size) := fun b hb => HO3.out.lt b hb
            obtain ⟨ar, cr, hvr, _⟩ := HR.out.shape
            obtain ⟨rl, hrl⟩ : ∃ n, n = R.length := ⟨_, rfl⟩
            rw [← hrl] at hvr hR6 HRL
            subst hvr
            have HRR := hide hrl
            rename World => wo
            clear hN hNl hrl HO2 HO23 HO3 HNP HM
            go_wp2
            go_loopw [13] (fun vi wr => ∃ i : Nat, i ≤ N ∧ vi = .int .i64 (i : Int) ∧ Hid (Lst w1 wo w2.heap.size w3.heap.size l.length (.slice a3 l.length c3) (cof (syms ((mro R).take i))) wr)) (fun vi _ => N - (intOf vi).toNat)
            case atStart => exact ⟨0, Nat.zero_le _, rfl, HLS⟩
            case round =>
              clear HLS
              obtain ⟨i, hi, rfl, HL1⟩ := hrel
              by_cases hil : i < N
              · have hil' := HNl.out i hil
                have hirl : i < rl := Nat.lt_of_lt_of_le hil HRL.out
                have hirl' : (i : Int) < (rl : Int) := by omega
                have hiR : i < R.length := by rw [← HRR.out]; exact hirl
                have hpi := md_mem hiR
                have HTI : Hid (syms ((mro R).take (i + 1)) = syms ((mro R).take i) ++ (R.getD i mn0).1.2) := by
                  show _ = _
                  have hi3 : i < (mro R).length := by rw [mro_len]; exact hiR
                  rw [List.take_succ_eq_append_getElem hi3]
                  have e : (mro R)[i] = (R.getD i mn0).1 := by rw [← mro_get]; simp [hi3]
                  rw [e]
                  unfold syms
                  simp
                have HSS : Hid (∀ s ∈ (R.getD i mn0).1.2, s < l.length) := fun s hs => by
                  refine HSLT.out s ?_
                  rw [← HRW.out]
                  unfold syms
                  rw [List.mem_flatMap]
                  exact ⟨(R.getD i mn0).1, List.mem_map.2 ⟨_, hpi, rfl⟩, hs⟩
                have HAL : Hid (∀ i, (syms ((mro R).take i)).length ≤ 100000) := fun i => by
                  refine Nat.le_trans (syms_cut _ i) ?_
                  have := (HSUM.out k (by omega)).2.1
                  rw [← HRW.out] at this
                  exact this
                have HAL1 := hide (HAL.out (i + 1))
                have HONw := hide (HL1.out.on HR.out HNR.out)
                have HNP1 : Hid (∀ b, (R.getD i mn0).2.ownBlock = some b → b < w2.heap.size ∨ w3.heap.size ≤ b) := HNR.out.holds _ hpi
                obtain ⟨A, HAA⟩ : ∃ A, Hid (A = syms ((mro R).take i)) := ⟨_, hide rfl⟩
                rw [← HAA.out] at HL1 HTI
                rw [HTI.out, List.length_append] at HAL1
                have hho := HONw.out.holds _ hpi
                obtain ⟨P, HPx⟩ : ∃ p, Hid (p = R.getD i mn0) := ⟨_, hide rfl⟩
                rw [← HPx.out] at hho HTI HSS HAL1
                obtain ⟨⟨pw, ph⟩, pv⟩ := P
                obtain ⟨ap, cp, hpv⟩ := hho.shape
                rw [ci_len] at hpv
                have hpv' : pv = .slice ap ph.length cp := hpv
                subst hpv'
                have hApl : A.length + ph.length ≤ 100000 := HAL1.out
                have HTI2 : Hid (syms ((mro R).take (i + 1)) = A ++ ph) := HTI.out
                have HSS2 : Hid (∀ s ∈ ph, s < l.length) := HSS.out
                clear hho hpv HTI HSS HAL1 HAL HNP1
                obtain ⟨gx0, cx0, hvx0, z1, z2⟩ := HONw.out.get (i := i) hiR
                rw [← HPx.out] at z2
                rw [← HRR.out] at hvx0
                simp only [Value.slice.injEq] at hvx0
                obtain ⟨rfl, -, rfl⟩ := hvx0
                have z2' : wr.cell? ⟨gx0, i * 2 + 1, none⟩ = some (.slice ap ph.length cp) := z2
                clear z1 z2 HONw
                have HL0 : Hid (Lst w1 wo w2.heap.size w3.heap.size l.length (.slice a3 l.length c3) (cof (A ++ ph.take 0)) wr) := by rw [List.take_zero, List.append_nil]; exact HL1.out
                go_wp2
                clear z2' HL1
                go_loopw [14] (fun vj wr => ∃ j : Nat, j ≤ ph.length ∧ vj = .int .i64 (j : Int) ∧ Hid (Lst w1 wo w2.heap.size w3.heap.size l.length (.slice a3 l.length c3) (cof (A ++ ph.take j)) wr)) (fun vj _ => ph.length - (intOf vj).toNat)
                case atStart => exact ⟨0, Nat.zero_le _, rfl, HL0⟩
                case round =>
                  clear HL0
                  obtain ⟨j, hj, rfl, HL2⟩ := hrel
                  have HON2 := hide (HL2.out.on HR.out HNR.out)
                  obtain ⟨gx, cx, hvx, _, z2⟩ := HON2.out.get (i := i) hiR
                  rw [← HPx.out] at z2
                  rw [← HRR.out] at hvx
                  simp only [Value.slice.injEq, Option.some.injEq, Addr.mk.injEq, and_true] at hvx
                  obtain ⟨hvx1, -⟩ := hvx
                  subst hvx1
                  have z2' : wr.cell? ⟨gx0, i * 2 + 1, none⟩ = some (.slice ap ph.length cp) := z2
                  clear z2
                  have hho := HON2.out.holds _ hpi
                  rw [← HPx.out] at hho
                  have hho2 : OI wr 0 (.slice ap ph.length cp) (ci ph) := hho
                  clear hho
                  by_cases hjl : j < ph.length
                  · have hjl' : (j : Int) < (ph.length : Int) := by omega
                    obtain ⟨ga, da, hva, _⟩ := hho2.form (by rw [ci_len]; omega)
                    have hck := hho2.get (b := ga) (by rw [hva]; rfl) (i := j) (by rw [ci_len]; omega)
                    rw [ci_get] at hck
                    have hsl := HSS2.out _ (getD_mem6 hjl)
                    have HTJ : Hid (A ++ ph.take (j + 1) = (A ++ ph.take j) ++ [ph.getD j 0]) := by
                      show _ = _
                      rw [List.take_succ_eq_append_getElem hjl]
                      simp [hjl]
                    obtain ⟨s, HSE⟩ : ∃ s, Hid (s = ph.getD j 0) := ⟨_, hide rfl⟩
                    rw [← HSE.out] at hck hsl HTJ
                    simp only [Value.slice.injEq] at hva
                    obtain ⟨rfl, -, rfl⟩ := hva
                    obtain ⟨gl, dl, hvl, _⟩ := HL2.out.le.form (by rw [hls_len]; omega)
                    simp only [Value.slice.injEq] at hvl
                    obtain ⟨rfl, -, rfl⟩ := hvl
                    obtain ⟨gl1, gl2⟩ := HLB.out gl rfl
                    obtain ⟨f1, f2, hL3⟩ := HL2.out.bump gl1 gl2 hB12 hsl
                    rw [← HTJ.out] at hL3
                    have hyb := cof_le (A ++ ph.take j) s
                    rw [List.length_append, List.length_take] at hyb
                    have HL3 := hide hL3
                    obtain ⟨y, HY⟩ : ∃ y, Hid (y = cof (A ++ ph.take j) s) := ⟨_, hide rfl⟩
                    rw [← HY.out] at f1 HL3 hyb
                    have hyb2 : (y : Int) + 1 ≤ 1000000 := by omega
                    have hsl' : (s : Int) < (l.length : Int) := by omega
                    clear hL3 hho2 HL2 hyb HON2
                    go_wp2
                    go_roundw
                    case rel => exact ⟨j + 1, by omega, by go_num, HL3⟩
                    case measure => simp [intOf]; omega
                  · obtain rfl : j = ph.length := by omega
                    have hjl' : ¬ (ph.length : Int) < (ph.length : Int) := by omega
                    have HL4 : Hid (Lst w1 wo w2.heap.size w3.heap.size l.length (.slice a3 l.length c3) (cof (syms ((mro R).take (i + 1)))) wr) := by
                      have := HL2.out
                      rw [List.take_of_length_le (Nat.le_refl _)] at this
                      rw [HTI2.out]
                      exact this
                    clear HL2 hho2 HON2
                    go_wp2
                    go_roundw
                    case rel => exact ⟨i + 1, by omega, by go_num, HL4⟩
                    case measure => simp [intOf]; omega
              · obtain rfl : i = N := by omega
                have hil' : ¬ (i : Int) < 2 * (u : Int) - 2 := by omega
                have HF : Hid (OI wr w1.heap.size (.slice a3 l.length c3) (lmt l k) ∧ Below w1.heap.size w1 wr) := by
                  refine ⟨?_, HL1.out.bl⟩
                  have e : hls l.length (cof (syms ((mro R).take i))) = lmt l k := by
                    unfold hls lmt
                    apply List.map_congr_left
                    intro s _
                    rw [HRW.out, HCL.out]
                  rw [← e]
                  exact HL1.out.le.base hB12
                clear HL1
                go_wp2
                go_ret2
                exact ⟨_, _, rfl, HF.out.1, HF.out.2⟩
end Go.Proofs.YtiabhmdefaabgabDoor

