import Derived.Test.YtklffkbcigehfabRnd
namespace Go.Proofs.Ytklffkbcigehfab
open Go.RowKit Go.Maps
set_option maxRecDepth 20000

/-- Where the bits of the next item lie. -/
theorem drop_at {U a b c : List Int} (h : U = a ++ (b ++ c)) : U.drop a.length = b ++ c := by
  rw [h, List.drop_left' rfl]

theorem rraw_ok {U : List Int} {p n : Nat} (hp : p ≤ U.length) (h8 : p % 8 = 0) {l rest : List Int} (hl : l.length = n) (hB : Byt l) (hd : U.drop p = unpack l ++ rest) : rrawE U p n = 0 ∧ rrawL U p n = l ∧ rrawP U p n = p + 8 * n := by
  have hlen : U.length - p = 8 * n + rest.length := by
    have := congrArg List.length hd
    rwa [List.length_drop, List.length_append, length_unpack, hl] at this
  have he : rrawE U p n = 0 := by
    unfold rrawE
    rw [if_neg (by omega), if_neg (by omega)]
    rw [if_pos (by omega)]
  refine ⟨he, ?_, by unfold rrawP; rw [if_pos he]; rfl⟩
  unfold rrawL
  rw [if_pos he, hd, Int.toNat_natCast, List.take_append_of_le_length (by rw [length_unpack, hl]; exact Nat.le_refl _), List.take_of_length_le (by rw [length_unpack, hl]; exact Nat.le_refl _), pack_unpack hB]

theorem Herd.only {W w : World} {xs : List ((Nat → Nat) × Thing)} (h : Herd W w xs) (i : Nat) {d : (Nat → Nat) × Thing} (hi : xs[i]? = some d) : Herd W w [d] := by
  have e : ∀ (j : Nat) (d' : (Nat → Nat) × Thing), [d][j]? = some d' → j = 0 ∧ d' = d := fun j d' h => by
    cases j with
    | zero => simp at h; exact ⟨rfl, h.symm⟩
    | succ j => simp at h
  refine ⟨h.bel, fun j d' hd => ?_, fun j d' hd => ?_, fun j j' d' e' hd he hne => ?_⟩
  · obtain ⟨_, rfl⟩ := e j d' hd; exact h.rep i _ hi
  · obtain ⟨_, rfl⟩ := e j d' hd; exact h.up i _ hi
  · have := (e j d' hd).1; have := (e j' e' he).1; omega

/-- The row behind an item. -/
theorem row_at {ops : List It} {U rest : List Int} (hU : U = layRow ops ++ rest) {k : Nat} {o : It} (ho : ops[k]? = some o) : ∃ s, U = layStep (layRow (ops.take k)) o ++ s := by
  obtain ⟨s, hs⟩ := layRow_ext ops (k + 1)
  rw [layRow_snoc ho] at hs
  exact ⟨s ++ rest, by rw [hU, hs, List.append_assoc]⟩

set_option maxHeartbeats 2000000 in
theorem takes_any (W w : World) (vo : Value) (ops : List It) (hI : ISc W vo ops) (hO : IOk W ops) (K : Nat → Nat) (g : Nat) (U rest : List Int) (hU : U = layRow ops ++ rest) (hH : Herd W w [(K, tr g U 0)]) :
    Calls Try.prog 35 #[.pointer (some ⟨g, 0, none⟩), vo] w fun e w' => e = .returned (.bool true) ∧ Herd W w' [(K, tr g U (layRow ops).length)] := by
  obtain ⟨ao, cap, hvo, hcap1, hcap2⟩ := hI.len
  subst hvo
  have HI := hide hI
  have HO := hide hO
  have H0 := hide hH
  have HU := hide hU
  clear hI hO hH hU
  go_enter Try.func35, Try.ntmps35
  go_wp2
  go_loopw [5] (fun i wr => ∃ k : Nat, k ≤ ops.length ∧ i = .int .i64 k ∧ Hid (Herd W wr [(K, tr g U (layRow (ops.take k)).length)])) (fun i _ => ops.length - (intOf i).toNat)
  case atStart => exact ⟨0, Nat.zero_le _, rfl, H0.out⟩
  case round =>
    clear H0
    obtain ⟨k, hk, rfl, H1⟩ := hrel
    by_cases hlt : k < ops.length
    · have hlt' : (k : Int) < (ops.length : Int) := by omega
      obtain ⟨o, ho⟩ : ∃ o, ops[k]? = some o := ⟨ops[k], by simp [hlt]⟩
      obtain ⟨b, of, hab, q0, q1, q2, q3⟩ := HI.out.item H1.out.bel ho
      subst hab
      obtain ⟨⟨hv0, hv1⟩, hos, hoB, hol⟩ := HO.out o (List.mem_of_getElem? ho)
      obtain ⟨da, dc, hd⟩ := hos.len
      rw [hd] at q3
      have HOS := hide hos
      rw [hd] at HOS
      have HOB := hide hoB
      have HLS := hide (layRow_snoc ho)
      have HRA := hide (row_at HU.out ho)
      obtain ⟨R, HR⟩ : ∃ R, Hid (R = layRow (ops.take k)) := ⟨_, rfl⟩
      rw [← HR.out] at H1 HLS HRA
      have hw32 := wid_le o
      have HWE := hide (wid_eq o)
      have HKM : Hid (0 ≤ o.kind % 3 ∧ o.kind % 3 < 3) := by constructor <;> omega
      clear hos hd hoB ho
      obtain ⟨V, HV⟩ : ∃ V, Hid (V = wr.alloc (.cells #[.int .i64 o.kind, .int .u32 o.v, .int .i64 o.n, .slice da o.l.length dc] 97)) := ⟨_, rfl⟩
      obtain ⟨KB, hH⟩ := H1.out.alloc (.cells #[.int .i64 o.kind, .int .u32 o.v, .int .i64 o.n, .slice da o.l.length dc] 97)
      rw [← HV.out] at hH
      have H2 : Hid (Herd W V [(K, tr g U R.length), (KB, tb wr.heap.size (.cells #[.int .i64 o.kind, .int .u32 o.v, .int .i64 o.n, .slice da o.l.length dc] 97 (0, 0)))]) := hH
      clear hH
      have x1 : V.cell? ⟨wr.heap.size, 1, none⟩ = some (.int .u32 o.v) := H2.out.box 1 rfl 1
      have x2 : V.cell? ⟨wr.heap.size, 2, none⟩ = some (.int .i64 o.n) := H2.out.box 1 rfl 2
      by_cases k0 : o.kind % 3 = 0
      · have hst : layStep R o = R ++ bts (low o) (wid o) := if_pos k0
        have hlow := low_in o.v (wid_le o)
        have HLow : Hid (o.v % 2 ^ wid o = low o) := rfl
        obtain ⟨m, HM⟩ : ∃ m, Hid (m = wid o) := ⟨_, rfl⟩
        obtain ⟨x, HX⟩ : ∃ x, Hid (x = low o) := ⟨_, rfl⟩
        rw [HLow.out, ← HX.out, ← HM.out] at hlow
        rw [← HX.out, ← HM.out] at HLow hst
        rw [← HM.out] at HWE hw32
        obtain ⟨z0, z1, z2⟩ := hlow
        have HT1 : Hid (takeE U R.length m = 0 ∧ takeV U R.length m = x ∧ takeP U R.length m = R.length + m) := by
          obtain ⟨s, hs⟩ := HRA.out
          rw [hst, List.append_assoc] at hs
          have hl : R.length + m ≤ U.length := by rw [hs, List.length_append, List.length_append, length_bts]; omega
          have h1 := take_ok (takeOk_of (row := U) (p := R.length) hw32 hl)
          refine ⟨h1.1, ?_, h1.2.2⟩
          rw [h1.2.1, ahead_at (drop_at hs) (length_bts _ _), val_bts_in z0 z1]
        have HLL : Hid ((layRow (ops.take (k + 1))).length = R.length + m) := by show _ = _; rw [HLS.out, hst, List.length_append, length_bts]
        have HK0 := hide k0
        clear k0 z1 hst
        go_wp2_with fail
        rw [← HV.out]
        refine (which_any o.kind 3 (by omega) (by omega) _).mono ?_
        rintro e wx ⟨rfl, hwx⟩
        subst hwx
        rw [HK0.out]
        go_wp2_with fail
        refine (width_any o.n _).mono ?_
        rintro e wx ⟨rfl, hwx⟩
        subst hwx
        rw [HWE.out]
        go_wp2_with fail
        refine (htake H2.out 0 rfl m).mono ?_
        rintro e w3 ⟨rfl, hH⟩
        rw [HT1.out.1, HT1.out.2.1]
        rw [HT1.out.2.2] at hH
        have H3 := hide hH
        clear hH
        have x1 : w3.cell? ⟨wr.heap.size, 1, none⟩ = some (.int .u32 o.v) := H3.out.box 1 rfl 1
        go_wp2_with fail
        refine (low_any o.v m hw32 hv0 hv1 _).mono ?_
        rintro e wx ⟨rfl, hwx⟩
        subst hwx
        rw [HLow.out]
        have H4 := hide (H3.out.only 0 rfl)
        go_wp2
        go_roundw
        case rel => exact ⟨k + 1, by omega, by go_num, by show Herd _ _ _; rw [HLL.out]; exact H4.out⟩
        case measure => simp [intOf]; omega
      · by_cases k1 : o.kind % 3 = 1
        · have hst : layStep R o = pad R := by unfold layStep; rw [if_neg k0, if_pos k1]
          have HLL : Hid ((layRow (ops.take (k + 1))).length = algn R.length) := by show _ = _; rw [HLS.out, hst, length_pad]; rfl
          have HK1 := hide k1
          clear k0 k1 hst x1 x2
          go_wp2_with fail
          rw [← HV.out]
          refine (which_any o.kind 3 (by omega) (by omega) _).mono ?_
          rintro e wx ⟨rfl, hwx⟩
          subst hwx
          rw [HK1.out]
          go_wp2_with fail
          refine (hralign H2.out 0 rfl).mono ?_
          rintro e w3 ⟨rfl, hH⟩
          have H4 := hide (hH.only 0 rfl)
          clear hH
          go_wp2
          go_roundw
          case rel => exact ⟨k + 1, by omega, by go_num, by show Herd _ _ _; rw [HLL.out]; exact H4.out⟩
          case measure => simp [intOf]; omega
        · have hst : layStep R o = pad R ++ unpack o.l := by unfold layStep; rw [if_neg k0, if_neg k1]
          obtain ⟨HKa, HKb⟩ := HKM.out
          have k2 : o.kind % 3 = 2 := by omega
          have HK2 := hide k2
          have HRW : Hid (rrawE U (algn R.length) o.l.length = 0 ∧ rrawL U (algn R.length) o.l.length = o.l ∧ rrawP U (algn R.length) o.l.length = algn R.length + 8 * o.l.length) := by
            obtain ⟨s, hs⟩ := HRA.out
            rw [hst, List.append_assoc] at hs
            have e1 : algn R.length = (pad R).length := by rw [length_pad]; rfl
            rw [e1]
            exact rraw_ok (by rw [hs, List.length_append]; omega) (by rw [length_pad]; omega) rfl HOB.out (drop_at hs)
          have HLL : Hid ((layRow (ops.take (k + 1))).length = algn R.length + 8 * o.l.length) := by show _ = _; rw [HLS.out, hst, List.length_append, length_pad, length_unpack]; rfl
          clear k0 k1 k2 hst x1 x2 HKa HKb
          go_wp2_with fail
          rw [← HV.out]
          refine (which_any o.kind 3 (by omega) (by omega) _).mono ?_
          rintro e wx ⟨rfl, hwx⟩
          subst hwx
          rw [HK2.out]
          go_wp2_with fail
          refine (hralign H2.out 0 rfl).mono ?_
          rintro e w3 ⟨rfl, hH⟩
          have H3 := hide hH
          clear hH
          have x3 : w3.cell? ⟨wr.heap.size, 3, none⟩ = some (.slice da o.l.length dc) := H3.out.box 1 rfl 3
          go_wp2_with fail
          refine (hrraw H3.out 0 rfl o.l.length).mono ?_
          rintro e w4 ⟨a4, c4, K4, rfl, hH⟩
          rw [HRW.out.1, HRW.out.2.1]
          rw [HRW.out.2.1, HRW.out.2.2] at hH
          have H4 := hide hH
          clear hH
          have x3 : w4.cell? ⟨wr.heap.size, 3, none⟩ = some (.slice da o.l.length dc) := H4.out.box 1 rfl 3
          have HS4 := hide (HOS.out.below H4.out.bel)
          go_wp2_with fail
          refine (same_any _ _ o.l o.l _ (H4.out.sb 2 rfl) HS4.out).mono ?_
          rintro e w5 ⟨rfl, n5, rfl⟩
          rw [show eqB o.l o.l = true by simp [eqB]]
          have H5 := hide ((H4.out.drewN n5).only 0 rfl)
          go_wp2
          go_roundw
          case rel => exact ⟨k + 1, by omega, by go_num, by show Herd _ _ _; rw [HLL.out]; exact H5.out⟩
          case measure => simp [intOf]; omega
    · obtain rfl : k = ops.length := by omega
      have hlt' : ¬ (ops.length : Int) < (ops.length : Int) := by omega
      have HT : Hid (ops.take ops.length = ops) := List.take_of_length_le (Nat.le_refl _)
      rw [HT.out] at H1
      go_wp2
      go_ret
      exact ⟨rfl, H1.out⟩
end Go.Proofs.Ytklffkbcigehfab
