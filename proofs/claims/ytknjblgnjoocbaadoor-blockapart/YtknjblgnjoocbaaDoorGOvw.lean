import Derived.Test.YtknjblgnjoocbaaDoorGRmw
import Derived.Test.YtknjblgnjoocbaaDoorGTrw
namespace Go.Proofs.YtknjblgnjoocbaaDoor
open Go.RowKit Go.Maps
set_option maxRecDepth 20000
set_option linter.unusedVariables false
set_option linter.unusedSimpArgs false

/-- The tokens that overwritten writes. -/
def ovt (k : Nat) : Tk := (0, 0, ((k % 7 : Nat) : Int))
def ovl (n : Nat) : List Tk := (List.range n).map ovt

theorem ovl_len (n : Nat) : (ovl n).length = n := by simp [ovl]
theorem ovl_succ (n : Nat) : ovl (n + 1) = ovl n ++ [ovt n] := by simp [ovl, List.range_succ]
theorem ovl_bt (n : Nat) : ∀ t ∈ ovl n, Bt t := by
  intro t ht
  obtain ⟨k, -, rfl⟩ := List.mem_map.1 ht
  unfold Bt ovt
  constructor <;> simp <;> omega
theorem ovl_ok (n : Nat) (hn : n ≤ 16777216) : ctE (ovl n) = 0 := by
  have h : asnd (ovl n) = true := by
    refine List.all_eq_true.2 fun t ht => ?_
    obtain ⟨k, -, rfl⟩ := List.mem_map.1 ht
    unfold sndb
    refine decide_eq_true ?_
    unfold Snd ovt
    simp
  unfold ctE
  rw [ovl_len, if_neg (by omega), if_pos h]

set_option maxHeartbeats 2000000 in
theorem overwritten_any (g cap B : Nat) (L : List Tk) (rest : List Value) (w : World) (h : TBr w g L rest) (hn : L.length ≤ 16777216) (hc : L.length ≤ cap ∧ cap ≤ 20000000) (hB : B ≤ g) (T : Ltab w ∧ Dtab w) (hT : ∀ w', Below B w w' → Ltab w' ∧ Dtab w') :
    Calls Tryd.prog 11 #[.slice (some ⟨g, 0, none⟩) L.length cap] w fun e w' => e = .returned (.bool true) ∧ Below B w w' := by
  have HT := hide h
  have HTB := hide hT
  have hgl : g < w.heap.size := (Array.getElem?_eq_some_iff.1 h).1
  clear h T hT
  go_enter Tryd.func11, Tryd.ntmps11
  go_wp2
  go_loopw [3] (fun i wr => ∃ k : Nat, k ≤ L.length ∧ i = .int .i64 (k : Int) ∧ Hid (TBr wr g (ovl k ++ L.drop k) rest) ∧ Hid (Below B w wr)) (fun i _ => L.length - (intOf i).toNat)
  case atStart => exact ⟨0, Nat.zero_le _, rfl, by show TBr _ _ _ _; simpa [ovl] using HT.out, Below.refl _ _⟩
  case round =>
    obtain ⟨k, hk, rfl, HQ, HB⟩ := hrel
    by_cases hlt : k < L.length
    · have hlt' : (k : Int) < (L.length : Int) := by omega
      have hd : L.drop k = L[k] :: L.drop (k + 1) := List.drop_eq_getElem_cons hlt
      have t1 := HQ.out
      rw [hd] at t1
      have hP := t1.set (ovt k)
      have eN : ovl k ++ ovt k :: L.drop (k + 1) = ovl (k + 1) ++ L.drop (k + 1) := by rw [ovl_succ]; simp
      rw [ovl_len, eN] at hP
      have hl2 : (ovl k ++ L[k] :: L.drop (k + 1)).length = L.length := by simp [ovl_len]; omega
      obtain ⟨⟨u0, e0⟩, f0⟩ := t1.there (j := k * 3) (by rw [hl2]; omega)
      obtain ⟨⟨u1, e1⟩, f1⟩ := t1.there (j := k * 3 + 1) (by rw [hl2]; omega)
      obtain ⟨⟨u2, e2⟩, f2⟩ := t1.there (j := k * 3 + 2) (by rw [hl2]; omega)
      have HP := hide hP
      have HB9 : Hid (∀ a b c, Below B w (((wr.setCell ⟨g, k * 3, none⟩ a).setCell ⟨g, k * 3 + 1, none⟩ b).setCell ⟨g, k * 3 + 2, none⟩ c)) := fun a b c =>
        ((HB.out.setCell (p := ⟨g, k * 3, none⟩) hB _).setCell (p := ⟨g, k * 3 + 1, none⟩) hB _).setCell (p := ⟨g, k * 3 + 2, none⟩) hB _
      have a5 : (k : Int).tmod 7 = ((k % 7 : Nat) : Int) := by rw [Int.tmod_eq_emod_of_nonneg (by omega)]; rfl
      have hk7 : k % 7 < 7 := Nat.mod_lt _ (by omega)
      clear t1 hP HQ HB hd eN hl2
      go_wp2
      go_roundw
      case rel => exact ⟨k + 1, by omega, by go_num, by exact HP, HB9.out _ _ _⟩
      case measure => simp [intOf]; omega
    · obtain rfl : k = L.length := by omega
      have hlt' : ¬ (L.length : Int) < (L.length : Int) := by omega
      have t1 := HQ.out
      rw [List.drop_eq_nil_of_le (Nat.le_refl _), List.append_nil] at t1
      obtain ⟨O, hO⟩ : ∃ O, ovl L.length = O := ⟨_, rfl⟩
      have hOl : O.length = L.length := by rw [← hO]; exact ovl_len _
      have HE : Hid (ctE O = 0) := by show _ = _; rw [← hO]; exact ovl_ok _ hn
      have HBT : Hid (∀ t ∈ O, Bt t) := by rw [← hO]; exact ovl_bt _
      rw [hO] at t1
      have hsk : SK wr (.slice (some ⟨g, 0, none⟩) L.length cap) O := by
        have := t1.sk (n := L.length) (c := cap) (by omega) hc.1 (by unfold maxLen; omega)
        rw [← hOl, List.take_of_length_le (Nat.le_refl _)] at this
        rw [← hOl]
        exact this
      have HSK := hide hsk
      obtain ⟨W0, hW0⟩ : ∃ W0, W0 = wr := ⟨_, rfl⟩
      subst hW0
      have HB0 := HB
      have HSV : Hid (∀ w', Below W0.heap.size W0 w' → SK w' (.slice (some ⟨g, 0, none⟩) L.length cap) O) := fun w' hb => HSK.out.below hb
      have HBB : Hid (∀ w', Below W0.heap.size W0 w' → Below B w w') := fun w' hb => HB0.out.trans (hb.mono (by have := HB0.out.size; omega))
      have HCT := hide (fun v w' (hb : Below W0.heap.size W0 w') (hs : SK w' v O) => oCount_any v O w' hs HBT.out (HTB.out w' (HBB.out w' hb)))
      have HTR := hide (fun v w' (hb : Below W0.heap.size W0 w') (hs : SK w' v O) => oTrees_any v O w' hs HBT.out (HTB.out w' (HBB.out w' hb)))
      have hOn : O.length ≤ 5864062014805 := by omega
      have HLI := hide (fun w' (hb : Below W0.heap.size W0 w') => list_any _ O w' (HSV.out w' hb) hOn)
      have HC1 := hide (HCT.out _ W0 (Below.refl _ _) HSK.out)
      clear t1 hsk hO HQ HT hOl hOn
      go_wp2_with fail
      refine HC1.out.mono ?_
      rintro e w1 ⟨va, vb, rfl, oa, ob, -, b1⟩
      rw [HE.out]
      have HA1 := hide oa.sb
      have HA2 := hide ob.sb
      have HW1 := hide b1
      have HL1 := hide (HLI.out w1 b1)
      clear oa ob b1 HC1
      go_wp2_with fail
      refine HL1.out.mono ?_
      rintro e w2 ⟨u, rfl, o2, b2⟩
      have HW2 := hide (HW1.out.trans (b2.mono HW1.out.size))
      have HA12 := hide (HA1.out.below b2)
      have HA22 := hide (HA2.out.below b2)
      have HC2 := hide (HCT.out _ w2 HW2.out o2.sk)
      obtain ⟨au, cu, rfl, _, _⟩ := o2.sk.open
      clear o2 b2 HL1 HA1 HA2 HW1
      go_wp2_with fail
      refine HC2.out.mono ?_
      rintro e w3 ⟨vc, vd, rfl, oc, od, -, b3⟩
      rw [HE.out]
      have HW3 := hide (HW2.out.trans (b3.mono HW2.out.size))
      have HA13 := hide (HA12.out.below b3)
      have HA23 := hide (HA22.out.below b3)
      have HC13 := hide oc.sb
      have HC23 := hide od.sb
      have HT3 := hide (HTR.out _ w3 HW3.out (HSV.out w3 HW3.out))
      clear oc od b3 HC2 HA12 HA22 HW2
      go_wp2_with fail
      refine HT3.out.mono ?_
      rintro e w4 ⟨vg, vh, rfl, og, oh, -, b4⟩
      rw [HE.out]
      have HW4 := hide (HW3.out.trans (b4.mono HW3.out.size))
      have HA14 := hide (HA13.out.below b4)
      have HA24 := hide (HA23.out.below b4)
      have HC14 := hide (HC13.out.below b4)
      have HC24 := hide (HC23.out.below b4)
      have HG14 := hide og.sb
      have HG24 := hide oh.sb
      have HL4 := hide (HLI.out w4 HW4.out)
      clear og oh b4 HT3 HA13 HA23 HC13 HC23 HW3
      go_wp2_with fail
      refine HL4.out.mono ?_
      rintro e w5 ⟨u, rfl, o5, b5⟩
      have HW5 := hide (HW4.out.trans (b5.mono HW4.out.size))
      have HA15 := hide (HA14.out.below b5)
      have HA25 := hide (HA24.out.below b5)
      have HC15 := hide (HC14.out.below b5)
      have HC25 := hide (HC24.out.below b5)
      have HG15 := hide (HG14.out.below b5)
      have HG25 := hide (HG24.out.below b5)
      have HT5 := hide (HTR.out _ w5 HW5.out o5.sk)
      obtain ⟨av, cv, rfl, _, _⟩ := o5.sk.open
      clear o5 b5 HL4 HA14 HA24 HC14 HC24 HG14 HG24 HW4
      go_wp2_with fail
      refine HT5.out.mono ?_
      rintro e w6 ⟨vj, vk, rfl, oj, ok, -, b6⟩
      rw [HE.out]
      have HW6 := hide (HW5.out.trans (b6.mono HW5.out.size))
      have HA16 := hide (HA15.out.below b6)
      have HA26 := hide (HA25.out.below b6)
      have HC16 := hide (HC15.out.below b6)
      have HC26 := hide (HC25.out.below b6)
      have HG16 := hide (HG15.out.below b6)
      have HG26 := hide (HG25.out.below b6)
      have HJ16 := hide oj.sb
      have HJ26 := hide ok.sb
      clear oj ok b6 HT5 HA15 HA25 HC15 HC25 HG15 HG25 HW5
      have eI : ∀ l : List Int, eqI l l = true := fun l => by simp [eqI]
      have HQ1 := hide (isame_any _ _ _ _ w6 HA16.out HC16.out)
      rw [eI] at HQ1
      go_wp2_with fail
      refine HQ1.out.mono ?_
      rintro e w7 ⟨rfl, n7, hw7⟩
      subst hw7
      have HQ2 := hide (isame_any _ _ _ _ (w6.drewN n7) (HA26.out.below (below_drewN (Below.refl _ _) n7)) (HC26.out.below (below_drewN (Below.refl _ _) n7)))
      rw [eI] at HQ2
      go_wp2_with fail
      refine HQ2.out.mono ?_
      rintro e w8 ⟨rfl, n8, hw8⟩
      have b8 : Below w6.heap.size w6 w8 := by rw [hw8]; exact below_drewN (below_drewN (Below.refl _ _) n7) n8
      have HQ3 := hide (isame_any _ _ _ _ w8 (HG16.out.below b8) (HJ16.out.below b8))
      rw [eI] at HQ3
      have HG8 := hide (HG26.out.below b8)
      have HJ8 := hide (HJ26.out.below b8)
      have HW8 := hide (HW6.out.trans (b8.mono HW6.out.size))
      clear HQ1 HQ2 hw8 b8
      go_wp2_with fail
      refine HQ3.out.mono ?_
      rintro e w9 ⟨rfl, n9, hw9⟩
      have b9 : Below w8.heap.size w8 w9 := by rw [hw9]; exact below_drewN (Below.refl _ _) n9
      have HQ4 := hide (isame_any _ _ _ _ w9 (HG8.out.below b9) (HJ8.out.below b9))
      rw [eI] at HQ4
      have HW9 := hide (HW8.out.trans (b9.mono HW8.out.size))
      clear HQ3 hw9 b9
      go_wp2_with fail
      refine HQ4.out.mono ?_
      rintro e w10 ⟨rfl, n10, hw10⟩
      subst hw10
      have HWF := hide (HBB.out _ (below_drewN HW9.out n10))
      clear HQ4
      go_wp2
      go_ret
      exact ⟨rfl, HWF.out⟩
end Go.Proofs.YtknjblgnjoocbaaDoor

