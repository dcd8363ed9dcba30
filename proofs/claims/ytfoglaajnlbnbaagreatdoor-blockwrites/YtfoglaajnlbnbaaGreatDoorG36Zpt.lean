import Derived.Test.YtfoglaajnlbnbaaGreatDoorG23Drr
import Derived.Test.YtfoglaajnlbnbaaGreatDoorG32Wbz
import Derived.Test.YtfoglaajnlbnbaaGreatDoorG33Xck
import Derived.Test.YtfoglaajnlbnbaaGreatDoorG35Mx2
namespace Go.Proofs.YtfoglaajnlbnbaaGreatDoor
open Go.RowKit Go.Maps
set_option maxRecDepth 20000
set_option linter.unusedVariables false

theorem okr_fit7 {s : Nat} {c : Int} (h : Okr ((s : Int), c)) : 0 ≤ c - lst s ∧ c - lst s < 2 ^ frt s ∧ frt s ≤ 7 ∧ 0 ≤ c ∧ c ≤ 138 := by
  obtain ⟨h1, h2, h3, h4⟩ := h
  simp only at h1 h2 h3 h4
  by_cases q : s < 16
  · have e1 : lst s = 1 := by unfold lst; rw [if_pos (by omega)]
    have e2 : frt s = 0 := by unfold frt; rw [if_pos (by omega)]
    have e3 : mst s = 1 := by unfold mst; rw [if_pos (by omega)]
    rw [e1] at h3
    rw [e3] at h4
    rw [e1, e2]
    exact ⟨by omega, by show c - 1 < 1; omega, by omega, by omega, by omega⟩
  · obtain q | q | q : s = 16 ∨ s = 17 ∨ s = 18 := by omega
    · subst q
      have h3' : (3 : Int) ≤ c := h3
      have h4' : c ≤ 6 := h4
      exact ⟨by show 0 ≤ c - 3; omega, by show c - 3 < 4; omega, by decide, by omega, by omega⟩
    · subst q
      have h3' : (3 : Int) ≤ c := h3
      have h4' : c ≤ 10 := h4
      exact ⟨by show 0 ≤ c - 3; omega, by show c - 3 < 8; omega, by decide, by omega, by omega⟩
    · subst q
      have h3' : (11 : Int) ≤ c := h3
      have h4' : c ≤ 138 := h4
      exact ⟨by show 0 ≤ c - 11; omega, by show c - 11 < 128; omega, by decide, by omega, by omega⟩

def tcr (vC : Value) (C : List Int) (vR : Value) (R : List Rn) : Thing :=
  ⟨fun w K => OI w 0 vC C ∧ OR w 0 vR R ∧ (∀ k, vC.ownBlock = some k → K k ≠ 0) ∧ (∀ k, vR.ownBlock = some k → K k ≠ 0) ∧ ∀ k, K k ≠ 0 → k < w.heap.size,
   fun h a b => ⟨h.1.move fun k hk => b k (h.2.2.1 k hk), rown_move h.2.1 fun k hk => b k (h.2.2.2.1 k hk), h.2.2.1, h.2.2.2.1, fun k hk => Nat.lt_of_lt_of_le (h.2.2.2.2 k hk) a⟩, fun h => h.2.2.2.2⟩

theorem Herd.crs {W w w' : World} {xs : List ((Nat → Nat) × Thing)} (H : Herd W w xs) (hb : Below w.heap.size w w') {vC vR : Value} {C : List Int} {R : List Rn} (h1 : OI w' w.heap.size vC C) (h2 : OR w' w.heap.size vR R) : ∃ K, Herd W w' (xs ++ [(K, tcr vC C vR R)]) := by
  refine ⟨fun k => if vC.ownBlock = some k ∨ vR.ownBlock = some k then 1 else 0, H.push hb ⟨h1.base (Nat.zero_le _), h2.base (Nat.zero_le _), fun k hk => by simp [hk], fun k hk => by simp [hk], fun k hk => ?_⟩ fun k hk => ?_⟩
  · by_cases e : vC.ownBlock = some k ∨ vR.ownBlock = some k
    · rcases e with e | e
      · exact (h1.lt k e).2
      · exact (h2.lt k e).2
    · simp [e] at hk
  · by_cases e : vC.ownBlock = some k ∨ vR.ownBlock = some k
    · rcases e with e | e
      · exact (h1.lt k e).1
      · exact (h2.lt k e).1
    · simp [e] at hk

theorem Herd.crc {W w : World} {xs : List ((Nat → Nat) × Thing)} (H : Herd W w xs) (j : Nat) {K : Nat → Nat} {vC vR : Value} {C : List Int} {R : List Rn} (hj : xs[j]? = some (K, tcr vC C vR R)) : SI w vC C ∧ SR w vR R := by
  have h : (tcr vC C vR R).P w K := H.rep j _ hj
  exact ⟨h.1.sb, h.2.1.sr⟩

theorem hxput_ok {W w : World} {xs : List ((Nat → Nat) × Thing)} (H : Herd W w xs) (i : Nat) {K : Nat → Nat} {g : Nat} {row : List Int} (hi : xs[i]? = some (K, tx g row)) (v n : Int) (ok : putOk row v n) (hv : 0 ≤ v) (hv1 : v < 4294967296) :
    Calls Tryz.prog 18 #[.pointer (some ⟨g, 0, none⟩), .int .u32 v, .int .i64 n] w fun e w' => e = .returned (.int .i64 0) ∧ ∃ K', Herd W w' (xs.set i (K', tx g (row ++ bts v n.toNat))) := by
  have h := hxput H i hi v n hv hv1
  unfold putE putRow at h
  rw [if_pos ok, if_pos ok] at h
  exact h

theorem hxeput_ok {W w : World} {xs : List ((Nat → Nat) × Thing)} (H : Herd W w xs) (i j : Nat) {K Kw : Nat → Nat} {g r : Nat} {l row : List Int} (hi : xs[i]? = some (K, tex g l)) (hj : xs[j]? = some (Kw, tx r row)) (s : Nat) (hs : s < 19) (hl : l.length = 19) (h1 : 0 < l.getD s 0) (h2 : l.getD s 0 ≤ 7) (hr : row.length ≤ 100000) :
    Calls Tryz.prog 79 #[.pointer (some ⟨g, 0, none⟩), .pointer (some ⟨r, 0, none⟩), .int .i64 s] w fun e w' => e = .returned (.int .i64 0) ∧ ∃ K', Herd W w' (xs.set j (K', tx r (row ++ (bts (wd l s) (ln l s)).reverse))) := by
  have h := hxeput H i j hi hj (s : Int) (by omega) (by omega)
  have e0 : lnI l (s : Int) = ln l s := by unfold lnI; rw [if_pos ⟨by omega, by omega⟩]; rfl
  have e1 : ln l s ≠ 0 ∧ ln l s ≤ 7 := by unfold ln; omega
  have e2 : epE l row s = 0 := by unfold epE; rw [e0, if_neg e1.1, if_pos (by omega)]
  have e3 : epR l row s = row ++ (bts (wd l s) (ln l s)).reverse := by unfold epR; rw [if_pos e2]; rfl
  rw [e2, e3] at h
  exact h

set_option maxHeartbeats 8000000 in
theorem hzput {W w : World} {xs : List ((Nat → Nat) × Thing)} (H : Herd W w xs) (i j : Nat) (hij : i ≠ j) {K KC : Nat → Nat} {g : Nat} {row : List Int} (aC aR : Option Addr) (cC cR : Nat) (L D C : List Int) (R : List Rn) (hi : xs[i]? = some (K, tx g row)) (hj : xs[j]? = some (KC, tcr (.slice aC 19 cC) C (.slice aR R.length cR) R)) (O : Xodr W) (h19 : C.length = 19) (hb : ∀ s, 0 ≤ C.getD s 0 ∧ C.getD s 0 ≤ 7) (hok : ∀ r ∈ R, Okr r) (hnz : ∀ r ∈ R, C.getD r.1.toNat 0 ≠ 0) (hbk : bkE C = 0) (hn : R.length ≤ 316) (l1 : 257 ≤ L.length) (l2 : L.length ≤ 286) (d1 : 1 ≤ D.length) (d2 : D.length ≤ 30) (hrow : row.length ≤ 100) :
    Calls Tryz.prog 85 #[.pointer (some ⟨g, 0, none⟩), .int .i64 L.length, .int .i64 D.length, .slice aC 19 cC, .int .i64 (wrt C : Nat), .slice aR R.length cR] w fun e w' => e = .returned (.int .i64 0) ∧ ∃ K', Herd W w' (xs.set i (K', tx g (row ++ hdB L D C R))) := by
  have HI := hide hi
  have HOK := hide hok
  have HNZ := hide hnz
  have HBD := hide hb
  have HBK := hide hbk
  have H19 := hide h19
  have HO := hide O
  have HIL := hide (List.getElem?_eq_some_iff.1 hi).1
  have HCR : Hid (∀ (w' : World) (K' : Nat → Nat) (r : List Int), Herd W w' (xs.set i (K', tx g r)) → SI w' (.slice aC 19 cC) C ∧ SR w' (.slice aR R.length cR) R) := fun w' K' r h => h.crc j (by rw [List.getElem?_set_ne hij]; exact hj)
  have HCC : Hid (∀ (w' : World), SI w' (.slice aC 19 cC) C → ∀ k, k < 19 → ∃ b o, aC = some ⟨b, o, none⟩ ∧ w'.cell? ⟨b, o + k, none⟩ = some (.int .i64 (C.getD k 0))) := fun w' h k hk => SI.get (l := C) (cap := cC) (by rw [H19.out]; exact h) (Below.refl _ _) (by rw [H19.out]; exact hk)
  obtain ⟨Wn, HW⟩ : ∃ Wn, Hid (Wn = wrt C) := ⟨_, rfl⟩
  have hw4 := wrt_ge C
  have hw19 := wrt_le C
  rw [← HW.out] at hw4 hw19 ⊢
  have HP1 := hide (hxput_ok H i hi ((L.length : Int) - 257) 5 ⟨by unfold Fit Cnt; exact ⟨by omega, by show _ < (2 : Int) ^ 5; omega⟩, by omega⟩ (by omega) (by omega))
  clear H hi hj hij hok hnz hb hbk h19 O
  go_enter Tryz.func85, Tryz.ntmps85
  go_wp2_with fail
  refine HP1.out.mono ?_
  rintro e w1 ⟨rfl, K1, h1⟩
  obtain ⟨q1, HQ1⟩ : ∃ q1, Hid (q1 = row ++ bts ((L.length : Int) - 257) 5) := ⟨_, rfl⟩
  have HH1 : Hid (Herd W w1 (xs.set i (K1, tx g q1))) := by rw [HQ1.out]; exact hide h1
  have hq1 : q1.length = row.length + 5 := by rw [HQ1.out, List.length_append, length_bts]
  have HP2 := hide (hxput_ok HH1.out i (getset HI.out) ((D.length : Int) - 1) 5 ⟨by unfold Fit Cnt; exact ⟨by omega, by show _ < (2 : Int) ^ 5; omega⟩, by omega⟩ (by omega) (by omega))
  clear h1 HP1
  go_wp2_with fail
  refine HP2.out.mono ?_
  rintro e w2 ⟨rfl, K2, h2⟩
  obtain ⟨q2, HQ2⟩ : ∃ q2, Hid (q2 = q1 ++ bts ((D.length : Int) - 1) 5) := ⟨_, rfl⟩
  have HH2 : Hid (Herd W w2 (xs.set i (K2, tx g q2))) := by
    rw [List.set_set] at h2
    rw [HQ2.out]
    exact hide h2
  have hq2 : q2.length = row.length + 10 := by rw [HQ2.out, List.length_append, length_bts]; omega
  have HP3 := hide (hxput_ok HH2.out i (getset HI.out) ((Wn : Int) - 4) 4 ⟨by unfold Fit Cnt; exact ⟨by omega, by show _ < (2 : Int) ^ 4; omega⟩, by omega⟩ (by omega) (by omega))
  clear h2 HP2
  go_wp2_with fail
  refine HP3.out.mono ?_
  rintro e w3 ⟨rfl, K3, h3⟩
  obtain ⟨q3, HQ3⟩ : ∃ q3, Hid (q3 = q2 ++ bts ((Wn : Int) - 4) 4) := ⟨_, rfl⟩
  have HH3 : Hid (Herd W w3 (xs.set i (K3, tx g (q3 ++ hdS C 0)))) := by
    rw [List.set_set] at h3
    show Herd _ _ _
    rw [HQ3.out]
    simp only [hdS, List.append_nil]
    exact h3
  have hq3 : q3.length = row.length + 14 := by rw [HQ3.out, List.length_append, length_bts]; omega
  clear h3 HP3 hq1 hq2
  go_wp2
  go_loopw [13] (fun x wr => ∃ (k : Nat) (K : Nat → Nat), k ≤ Wn ∧ x = .int .i64 k ∧ Hid (Herd W wr (xs.set i (K, tx g (q3 ++ hdS C k))))) (fun x _ => Wn - (intOf x).toNat)
  case atStart => exact ⟨0, K3, Nat.zero_le _, rfl, HH3⟩
  case round =>
    obtain ⟨k, K, hk, rfl, HHk⟩ := hrel
    obtain ⟨hsc, hsr⟩ := HCR.out _ _ _ HHk.out
    by_cases hlt : k < Wn
    · have hlt' : (k : Int) < (Wn : Int) := by omega
      have hk19 : (k : Int) < 19 := by omega
      have o1 := (HO.out.mono HHk.out.bel).get k (by omega)
      have o2 := zor_at k (by omega)
      have HST : Hid (hdS C (k + 1) = hdS C k ++ bts (C.getD (zor.getD k 0).toNat 0) 3) := rfl
      obtain ⟨z', hz⟩ : ∃ z', z' = zor.getD k 0 := ⟨_, rfl⟩
      rw [← hz] at o1 o2 HST
      obtain ⟨z, rfl⟩ := Int.eq_ofNat_of_zero_le o2.1
      rw [Int.toNat_natCast] at HST
      have hz19 : z < 19 := by omega
      have hz19' : (z : Int) < 19 := by omega
      obtain ⟨bC, qC, eC, cz⟩ := HCC.out _ hsc z hz19
      subst eC
      have h7 := HBD.out z
      obtain ⟨Y, HY⟩ : ∃ Y, Hid (Y = C.getD z 0) := ⟨_, rfl⟩
      rw [← HY.out] at cz h7 HST
      have hy1 : 0 ≤ Y := h7.1
      have hy2 : Y ≤ 7 := h7.2
      have hrl : (q3 ++ hdS C k).length ≤ 300 := by rw [List.length_append, hdS_len, hq3]; omega
      have HPK := hide (hxput_ok HHk.out i (getset HI.out) Y 3 ⟨by unfold Fit Cnt; exact ⟨by omega, by show _ < (2 : Int) ^ 3; omega⟩, by omega⟩ (by omega) (by omega))
      clear hz o2 h7 hsc hsr
      go_wp2_with fail
      refine HPK.out.mono ?_
      rintro e w9 ⟨rfl, K9, h9⟩
      have HH9 : Hid (Herd W w9 (xs.set i (K9, tx g (q3 ++ hdS C (k + 1))))) := by
        rw [List.set_set] at h9
        rw [HST.out, ← List.append_assoc]
        exact hide h9
      clear h9 HPK
      go_wp2
      go_roundw
      case rel => exact ⟨k + 1, K9, by omega, by go_num, HH9⟩
      case measure => simp [intOf]; omega
    · obtain rfl : Wn = k := by omega
      have hlt' : ¬ (Wn : Int) < (Wn : Int) := by omega
      obtain ⟨q4, HQ4⟩ : ∃ q4, Hid (q4 = q3 ++ hdS C Wn) := ⟨_, rfl⟩
      rw [← HQ4.out] at HHk
      have hq4 : q4.length ≤ 200 := by rw [HQ4.out, List.length_append, hdS_len, hq3]; omega
      have HEN := hide (hxencode HHk.out _ C hsc)
      clear hsc hsr
      go_wp2_with fail
      refine HEN.out.mono ?_
      rintro e w10 (⟨hne, _⟩ | ⟨_, gE, KE, rfl, HE⟩)
      · exact absurd HBK.out hne
      have HHI : Hid (Herd W w10 (xs.set i (K, tx g (q4 ++ hdR C (R.take 0))) ++ [(KE, tex gE C)])) := by show Herd _ _ _; simp only [List.take_zero, hdR, List.append_nil]; exact HE
      clear HE HEN
      go_wp2
      go_loopw [16] (fun x wr => ∃ (k : Nat) (K : Nat → Nat), k ≤ R.length ∧ x = .int .i64 k ∧ Hid (Herd W wr (xs.set i (K, tx g (q4 ++ hdR C (R.take k))) ++ [(KE, tex gE C)]))) (fun x _ => R.length - (intOf x).toNat)
      case atStart => exact ⟨0, K, Nat.zero_le _, rfl, HHI⟩
      case round =>
        obtain ⟨k, K5, hk, rfl, HHk2⟩ := hrel
        have hsr := (HCR.out _ _ _ HHk2.out.front).2
        by_cases hlt : k < R.length
        · have hlt' : (k : Int) < (R.length : Int) := by omega
          obtain ⟨b, o, hab, c1, c2⟩ := hsr.get (Below.refl _ _) hlt
          have hmem : R.getD k rn0 ∈ R := by rw [show R.getD k rn0 = R[k] by simp [hlt]]; exact List.getElem_mem hlt
          have ok : Okr (R.getD k rn0) := HOK.out _ hmem
          have hnz := HNZ.out _ hmem
          have HSN : Hid (R.take (k + 1) = R.take k ++ [R.getD k rn0]) := by show _ = _; rw [List.take_succ_eq_append_getElem hlt]; simp [hlt]
          have HGET : Hid (∀ w', SR w' (.slice aR R.length cR) R → ∃ b o, aR = some ⟨b, o, none⟩ ∧ w'.cell? ⟨b, o + k * 2, none⟩ = some (.int .i64 (R.getD k rn0).1) ∧ w'.cell? ⟨b, o + k * 2 + 1, none⟩ = some (.int .i64 (R.getD k rn0).2)) := fun w' h => h.get (Below.refl _ _) hlt
          obtain ⟨r, hr⟩ : ∃ r, r = R.getD k rn0 := ⟨_, rfl⟩
          rw [← hr] at c1 c2 ok HSN hnz HGET
          obtain ⟨s', c⟩ := r
          have hk1 := ok.1
          have hk2 := ok.2.1
          simp only at c1 c2 hk1 hk2 hnz HGET
          obtain ⟨s, rfl⟩ := Int.eq_ofNat_of_zero_le hk1
          rw [Int.toNat_natCast] at hnz
          have hs : s < 19 := by omega
          have hs' : (s : Int) < 19 := by omega
          have h7 := HBD.out s
          have HRN : Hid (hdR C (R.take (k + 1)) = hdR C (R.take k) ++ ((bts (wd C s) (ln C s)).reverse ++ bts (c - lst s) (frt s))) := by show _ = _; rw [HSN.out, hdR_snoc]; rfl
          obtain ⟨f1, f2, f3, f4, f5⟩ := okr_fit7 ok
          have hrz := rsz_bound (C := C) (fun s => ⟨(HBD.out s).1, by have := (HBD.out s).2; omega⟩) (R.take k)
          have hrl : (R.take k).length ≤ 316 := by rw [List.length_take]; omega
          have hdl := hdR_len (fun s => (HBD.out s).1) (R.take k)
          have hrow : (q4 ++ hdR C (R.take k)).length ≤ 10000 := by rw [List.length_append]; omega
          have HEP := hide (hxeput_ok HHk2.out xs.length i (by have := get_last (xs.set i (K5, tx g (q4 ++ hdR C (R.take k)))) (KE, tex gE C); rwa [List.length_set] at this) (get_front (getset HI.out)) s hs H19.out (by omega) h7.2 (by omega))
          have HHR := hide hrow
          have hln : ln C s ≤ 7 := by unfold ln; have := (HBD.out s).2; omega
          subst hab
          clear hr ok hk1 hk2 h7 hrz hdl hmem hnz hsr hrow hrl
          go_wp2_with fail
          refine HEP.out.mono ?_
          rintro e w11 ⟨rfl, K6, h6⟩
          obtain ⟨q6, HQ6⟩ : ∃ q6, Hid (q6 = q4 ++ hdR C (R.take k) ++ (bts (wd C s) (ln C s)).reverse) := ⟨_, rfl⟩
          have HH6 : Hid (Herd W w11 (xs.set i (K6, tx g q6) ++ [(KE, tex gE C)])) := by
            rw [setf (getset HI.out), List.set_set] at h6
            rw [HQ6.out]
            exact hide h6
          obtain ⟨b', o', hab', c1', c2'⟩ := HGET.out w11 (HCR.out _ _ _ HH6.out.front).2
          simp only [Option.some.injEq, Addr.mk.injEq, and_true] at hab'
          obtain ⟨rfl, rfl⟩ := hab'
          have hq6 : q6.length ≤ 20000 := by rw [HQ6.out, List.length_append, List.length_reverse, length_bts]; have := HHR.out; omega
          have HFU := hide (xfurther_any s w11 hs)
          obtain ⟨A, HA⟩ : ∃ A, Hid (A = lst s) := ⟨_, rfl⟩
          obtain ⟨F, HF⟩ : ∃ F, Hid (F = frt s) := ⟨_, rfl⟩
          rw [← HA.out, ← HF.out] at HFU
          rw [← HA.out] at f1 f2 HRN
          rw [← HF.out] at f2 f3 HRN
          have hA : 1 ≤ A ∧ A ≤ 11 := by rw [HA.out]; unfold lst; split <;> (try split) <;> omega
          have hA1 := hA.1
          have hA2 := hA.2
          have HPK := hide (hxput_ok HH6.out i (get_front (getset HI.out)) (c - A) (F : Nat) ⟨⟨⟨by omega, by omega⟩, by rw [Int.toNat_natCast]; exact f2⟩, by omega⟩ (by omega) (by omega))
          rw [Int.toNat_natCast] at HPK
          clear h6 HEP hA f2 c1 c2
          go_wp2_with fail
          refine HFU.out.mono ?_
          rintro e w12 ⟨rfl, hw12⟩
          rw [hw12]
          clear hw12
          go_wp2_with fail
          refine HPK.out.mono ?_
          rintro e w13 ⟨rfl, K9, h9⟩
          have HH9 : Hid (Herd W w13 (xs.set i (K9, tx g (q4 ++ hdR C (R.take (k + 1)))) ++ [(KE, tex gE C)])) := by
            rw [setf (getset HI.out), List.set_set] at h9
            rw [HRN.out, ← List.append_assoc, ← List.append_assoc, ← HQ6.out]
            exact hide h9
          clear h9 HPK HFU
          go_wp2
          go_roundw
          case rel => exact ⟨k + 1, K9, by omega, by go_num, HH9⟩
          case measure => simp [intOf]; omega
        · obtain rfl : k = R.length := by omega
          have hlt' : ¬ (R.length : Int) < (R.length : Int) := by omega
          have HFIN : Hid (Herd W wr (xs.set i (K5, tx g (row ++ hdB L D C R)))) := by
            have h := HHk2.out.front
            have e : q4 ++ hdR C (R.take R.length) = row ++ hdB L D C R := by
              rw [List.take_of_length_le (Nat.le_refl _), HQ4.out, HQ3.out, HQ2.out, HQ1.out, HW.out]
              unfold hdB
              simp only [List.append_assoc]
            rw [← e]
            exact hide h
          go_wp2
          go_ret
          exact ⟨rfl, K5, HFIN.out⟩
end Go.Proofs.YtfoglaajnlbnbaaGreatDoor

