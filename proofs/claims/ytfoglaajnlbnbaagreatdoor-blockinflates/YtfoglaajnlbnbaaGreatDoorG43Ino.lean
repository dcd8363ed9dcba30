import Derived.Test.YtfoglaajnlbnbaaGreatDoorG42Inn
import Derived.Test.YtfoglaajnlbnbaaGreatDoorG27Vd2
import Derived.Test.YtfoglaajnlbnbaaGreatDoorG29Wr5
namespace Go.Proofs.YtfoglaajnlbnbaaGreatDoor
open Go.RowKit Go.Maps
set_option maxRecDepth 20000
set_option linter.unusedVariables false
set_option linter.unusedSimpArgs false

theorem le_sum10 {x : Nat} : ∀ {l : List Nat}, x ∈ l → x ≤ l.sum
  | [], h => by cases h
  | a :: l, h => by
    rw [List.sum_cons]
    rcases List.mem_cons.1 h with rfl | h
    · omega
    · have := le_sum10 h; omega

theorem tsum_used {l : List Int} {s : Nat} (h : 0 < l.getD s 0) : tsum l ≠ 0 := by
  have hs : s < l.length := Classical.byContradiction fun q => by
    rw [List.getD_eq_getElem?_getD, List.getElem?_eq_none (by omega)] at h
    simp at h
  have hm : l.getD s 0 ∈ l := by
    rw [List.getD_eq_getElem?_getD, List.getElem?_eq_getElem hs]
    exact List.getElem_mem hs
  unfold tsum
  intro q
  have : one (l.getD s 0) ≤ (l.map one).sum := le_sum10 (List.mem_map.2 ⟨_, hm, rfl⟩)
  unfold one at this q
  rw [if_pos h, q] at this
  omega

theorem shp_nz {l : List Int} (h : tsum l ≠ 0) : shp l ≠ 0 := by
  unfold shp
  rw [if_neg h]
  repeat' split
  all_goals decide

theorem dc_used {l : List Int} (hb : bkE l = 0) {s : Nat} (h : lnI l (s : Int) ≠ 0) : dcE l = 0 := by
  obtain ⟨h1, -, -⟩ := lnI_has h
  have h2 : 0 < l.getD s 0 := by have := h1.2; rw [Int.toNat_natCast] at this; unfold ln at this; omega
  unfold dcE
  rw [if_neg (by simp [hb]), if_neg (shp_nz (tsum_used h2))]

theorem bk_shape {l : List Int} (hb : bkE l = 0) : Lens l ∧ (shp l = 0 ∨ shp l = 1 ∨ shp l = 4) := by
  unfold bkE at hb
  by_cases c : chkE l ≠ 0
  · rw [if_pos c] at hb; exact absurd hb c
  rw [if_neg c] at hb
  have hc := chkE_zero (Classical.byContradiction c)
  refine ⟨hc.1, ?_⟩
  have := shp_cases l
  by_cases c2 : shp l = 2
  · rw [if_pos c2] at hb; omega
  rw [if_neg c2] at hb
  by_cases c3 : shp l = 3
  · rw [if_pos c3] at hb; omega
  omega

theorem lnI_trm {l : List Int} {f s : Nat} (h : lnI l (s : Int) ≠ 0) : lnI (trm l f) (s : Int) ≠ 0 := by
  obtain ⟨h1, -, -⟩ := lnI_has h
  have h2 : 0 < l.getD s 0 := by have := h1.2; rw [Int.toNat_natCast] at this; unfold ln at this; omega
  rw [← trm_getD l f s] at h2
  refine lnI_of (Classical.byContradiction fun q => ?_) (by omega)
  rw [List.getD_eq_getElem?_getD, List.getElem?_eq_none (by omega)] at h2
  simp at h2

theorem dc_trm {l : List Int} {f : Nat} (hl : l.length ≤ 286) (hf : f ≤ 257) (h : dcE l = 0) : dcE (trm l f) = 0 := by
  obtain ⟨h1, h2⟩ := (dcE_iff l).1 h
  have hL := (chkE_zero h1).1
  have ht := trm_lens2 hl hf hL.2
  obtain ⟨e1, e2⟩ := trm_sums l f
  refine (dcE_iff _).2 ⟨?_, ?_⟩
  · unfold chkE
    rw [if_neg (by have := ht.1; omega), if_pos ht]
  · have e : shp (trm l f) = shp l := by unfold shp; rw [e1, e2]
    rw [e]; exact h2

theorem mk_dyn {P Q : List Int} (hP : bkE P = 0) (hQ : bkE Q = 0) (lP : P.length = 286) (lQ : Q.length = 30) (h256 : lnI P 256 ≠ 0) : mkE P Q = 0 := by
  obtain ⟨pl, ps⟩ := bk_shape hP
  obtain ⟨ql, qs⟩ := bk_shape hQ
  have dP := dc_used hP (s := 256) h256
  have pw : wthb P = true := List.all_eq_true.2 fun x hx => decide_eq_true (pl.2 x hx)
  have qw : wthb Q = true := List.all_eq_true.2 fun x hx => decide_eq_true (ql.2 x hx)
  have c1 : chkS (mkL P) = shp P := chkS_trm (by omega) (by omega) pl.2
  have c2 : chkS (mkD Q) = shp Q := chkS_trm (by omega) (by omega) ql.2
  have p4 := ((dcE_iff P).1 dP).2
  have g : (mkL P).getD 256 0 ≠ 0 := by
    obtain ⟨h1, -, -⟩ := lnI_has h256
    have h2 : 0 < P.getD 256 0 := by have := h1.2; unfold ln at this; simp at this; simpa using this
    unfold mkL
    rw [trm_getD]
    omega
  unfold mkE
  rw [if_neg (by rw [pw, qw]; simp; omega)]
  unfold hck
  rw [if_neg (by rw [c1]; rintro (q | q); exact g q; omega), if_neg (by rw [c2]; omega)]

theorem wds_trm {P Q : List Int} {R : List Tk} {a b : Nat} (h : Wds P Q R) : Wds (trm P a) (trm Q b) R :=
  ⟨lnI_trm (s := 256) h.1, fun t ht => ⟨lnI_trm (h.2 t ht).1, fun c => lnI_trm ((h.2 t ht).2 c)⟩⟩

theorem wb_trm {l : List Int} (hl : Lens l) (f s : Nat) : wb (trm l f) s = wb l s := by
  refine (wb_same (fun j => (trm_getD l f j).symm) (fun j => ?_) s).symm
  rw [List.getD_eq_getElem?_getD]
  cases h : l[j]? with
  | none => simp
  | some x => simpa using (hl.2 x (List.mem_of_getElem? h)).1

theorem bod_trm {P Q : List Int} (hP : Lens P) (hQ : Lens Q) (a b : Nat) (R : List Tk) : bodB (trm P a) (trm Q b) R = bodB P Q R := by
  unfold bodB
  congr 1
  funext t
  unfold tokB
  simp only [wb_trm hP, wb_trm hQ]

theorem fl_is10 : FL = fxL 288 := by decide +kernel
theorem fd_is10 : FD = List.replicate 32 5 := rfl

theorem fx_dc : dcE (fxL 288) = 0 ∧ dcE (List.replicate 32 (5 : Int)) = 0 := by
  constructor
  · unfold dcE; rw [if_neg (by simp [fx_code.1]), if_neg (by decide +kernel)]
  · unfold dcE; rw [if_neg (by rw [fx_code.2]; simp), if_neg (by decide +kernel)]

theorem head3 {row rest : List Int} {p k : Nat} {f : Bool} (hk : k ≤ 2) (hr : row.drop p = hd3 k f ++ rest) : p + 3 ≤ row.length ∧ (ahead row p 1 == 1) = f ∧ ahead row (p + 1) 2 = k ∧ row.drop (p + 3) = rest := by
  have n := drop_len hr (by rw [hd3_len]; omega)
  rw [hd3_len] at n
  have r3 := drop_mo10 hr
  rw [hd3_len] at r3
  unfold hd3 at hr
  rw [List.append_assoc] at hr
  have r1 := drop_mo10 hr
  rw [length_bts] at r1
  refine ⟨by omega, ?_, ahead_bts r1 (by omega) (by omega), r3⟩
  rw [ahead_bts hr (by split <;> decide) (by split <;> decide)]
  cases f <;> rfl

theorem st_read {row rest out l : List Int} {L p : Nat} (hB : Byt l) (h65 : l.length ≤ 65535) (hL : out.length + l.length ≤ L) (hr : row.drop (p + 3) = rawB l p ++ rest) : st1 row L (p + 3) out = (0, p + 3 + (rawB l p).length, out ++ l) := by
  obtain ⟨m, hm⟩ : ∃ m : Nat, (m : Int) = (13 - (p : Int) % 8) % 8 := ⟨((13 - (p : Int) % 8) % 8).toNat, by omega⟩
  have e : rawB l p = bts 0 m ++ (bts (l.length : Int) 16 ++ (bts (65535 - (l.length : Int)) 16 ++ unpack l)) := by
    unfold rawB
    rw [← hm, Int.toNat_natCast]
    simp only [List.append_assoc]
  have ha : algn (p + 3) = p + 3 + m := by unfold algn; omega
  have hlen : (rawB l p).length = m + 32 + 8 * l.length := by rw [e]; simp only [List.length_append, length_bts, length_unpack]; omega
  have n := drop_len hr (by omega)
  rw [hlen] at n
  rw [e] at hr
  simp only [List.append_assoc] at hr
  have r1 := drop_mo10 hr
  rw [length_bts] at r1
  have r2 := drop_mo10 r1
  rw [length_bts] at r2
  have r3 := drop_mo10 r2
  rw [length_bts] at r3
  have v1 : ahead row (p + 3 + m) 16 = (l.length : Int) := ahead_bts r1 (by omega) (by show (l.length : Int) < 65536; omega)
  have v2 : ahead row (p + 3 + m + 16) 16 = 65535 - (l.length : Int) := ahead_bts r2 (by omega) (by show 65535 - (l.length : Int) < 65536; omega)
  have hp : pack ((row.drop (p + 3 + m + 16 + 16)).take (8 * l.length)) = l := by
    rw [r3, List.take_append_of_le_length (by rw [length_unpack]; omega), List.take_of_length_le (by rw [length_unpack]; omega)]
    exact pack_unpack hB
  unfold st1
  rw [ha, v1, v2, Int.toNat_natCast, if_neg (by omega), if_neg (by omega), if_neg (by omega), if_neg (by omega), show p + 3 + m + 32 = p + 3 + m + 16 + 16 by omega, hp, hlen]
  congr 2
  omega

theorem blk_read {row rest out l : List Int} {R : List Tk} {L p k : Nat} {f : Bool} (hb : Bit row) (hk : k ≤ 2) (hsd : sdE R = 0) (hbt : ∀ t ∈ R, Bt t) (hl : (l.length : Int) = lsay R) (hB : Byt l) (hx : exE (L : Int) out R = 0) (hL : out.length + l.length ≤ L) (hsay : exT out R = out ++ l)
    (hr : row.drop p = blkB k f R l p ++ rest) : Blk row L p out 0 f k (p + (blkB k f R l p).length) (exT out R) := by
  obtain ⟨d1, d2, d3, d4, d5⟩ := sd_ok hsd
  have hall := asnd_all10 d1 hbt
  unfold blkB at hr ⊢
  by_cases k0 : k = 0
  · subst k0
    rw [if_pos rfl] at hr ⊢
    rw [List.append_assoc] at hr
    obtain ⟨h1, h2, h3, h4⟩ := head3 (k := 0) (by omega) hr
    have hs := st_read (out := out) (L := L) hB (by omega) hL h4
    have := Blk.stored h1 h3 hs
    rw [h2] at this
    rw [hsay, List.length_append, hd3_len, ← Nat.add_assoc]
    exact this
  rw [if_neg k0] at hr ⊢
  by_cases k1 : k = 1
  · subst k1
    rw [if_pos rfl] at hr ⊢
    rw [List.append_assoc] at hr
    obtain ⟨h1, h2, h3, h4⟩ := head3 (k := 1) (by omega) hr
    have hs := sys_body (L := L) fx_dc.1 hb R (p + 3) out rest hall (fun _ _ _ => fx_dc.2) (fx_wds hall) hx h4
    have := Blk.fixed h1 h3 (by rw [fl_is10, fd_is10]; exact hs)
    rw [h2] at this
    rw [List.length_append, hd3_len, ← Nat.add_assoc]
    exact this
  rw [if_neg k1] at hr ⊢
  have hk2 : k = 2 := by omega
  subst hk2
  obtain ⟨e1, e2, e3, e4, e5, e6, e7⟩ := dyn_ok (R := R) (by omega) d1 hbt
  obtain ⟨P, hP⟩ : ∃ P, lmL (ctL R) 15 = P := ⟨_, rfl⟩
  obtain ⟨Q, hQ⟩ : ∃ Q, lmL (ctD R) 15 = Q := ⟨_, rfl⟩
  rw [hP, hQ] at hr ⊢
  rw [hP] at e1 e3 e4
  rw [hQ] at e2 e3 e5
  have hm := mk_dyn e1 e2 e4 e5 e3.1
  have eh : hdrB P Q = mkB P Q := by unfold hdrB; rw [if_pos hm]
  rw [eh] at hr ⊢
  simp only [List.append_assoc] at hr
  obtain ⟨h1, h2, h3, h4⟩ := head3 (k := 2) (by omega) hr
  have hrd := rd_back hm hb h4
  have r5 := drop_mo10 h4
  have pl := (bk_shape e1).1
  have ql := (bk_shape e2).1
  have hs := sys_body (P := mkL P) (Q := mkD Q) (L := L) (dc_trm (by omega) (by omega) (dc_used e1 (s := 256) e3.1)) hb R (p + 3 + (mkB P Q).length) out rest hall (fun t ht c => dc_trm (by omega) (by omega) (dc_used e2 ((e3.2 t ht).2 c))) (wds_trm e3) hx (by
    unfold mkL mkD
    rw [bod_trm pl ql, wb_trm pl, List.append_assoc]
    exact r5)
  have := Blk.dyn h1 h3 (by rw [hrd]) (by rw [hrd]; exact hs)
  rw [h2] at this
  have el : p + (hd3 2 f ++ mkB P Q ++ (bodB P Q R ++ wb P 256)).length = p + 3 + (mkB P Q).length + (bodB (mkL P) (mkD Q) R ++ wb (mkL P) 256).length := by
    unfold mkL mkD
    rw [bod_trm pl ql, wb_trm pl]
    simp only [List.length_append, hd3_len]
    omega
  rw [el]
  exact this
end Go.Proofs.YtfoglaajnlbnbaaGreatDoor

