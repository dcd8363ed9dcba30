import Derived.Test.YtpmgnpfpnkmmbaaGreatDoorG08Rhv
namespace Go.Proofs.YtpmgnpfpnkmmbaaGreatDoor
open Go.RowKit Go.Maps
set_option maxRecDepth 20000
set_option linter.unusedVariables false

def lenV : Value → Nat
  | .slice _ n _ => n
  | _ => 0

theorem tr_bd {C row : List Int} (hb : Bit row) (p : Nat) : 1 ≤ trC C row p ∧ trC C row p ≤ 138 := tr_bound hb p

set_option maxHeartbeats 4000000 in
theorem hlens {W w : World} {xs : List ((Nat → Nat) × Thing)} (H : Herd W w xs) (i j : Nat) (hij : i ≠ j) {K Kd : Nat → Nat} {g gd : Nat} {C row : List Int} {p : Nat} (hi : xs[i]? = some (K, tr g row p)) (hj : xs[j]? = some (Kd, td gd C)) (h19 : C.length = 19) (T : Tab W) (want : Nat) (hw : want ≤ 316) :
    Calls Tryz.prog 71 #[.pointer (some ⟨g, 0, none⟩), .pointer (some ⟨gd, 0, none⟩), .int .i64 want] w fun e w' => ((rl C row want want [] p).1 ≠ 0 ∧ e = .returned (.tuple #[.slice none 0 0, .int .i64 (rl C row want want [] p).1]) ∧ ∃ q, Herd W w' (xs.set i (K, tr g row q))) ∨ ((rl C row want want [] p).1 = 0 ∧ ∃ a c Kl, e = .returned (.tuple #[.slice a (rl C row want want [] p).2.1.length c, .int .i64 0]) ∧ Herd W w' (xs.set i (K, tr g row (rl C row want want [] p).2.2) ++ [(Kl, ti (.slice a (rl C row want want [] p).2.1.length c) (rl C row want want [] p).2.1)])) := by
  have hR : Rp w K g row p := H.rep i _ hi
  have HBT := hide hR.bit
  have HLOW := hide H.low
  have hsz := H.bel.size
  have HI := hide hi
  have HJ := hide hj
  have HT := hide T
  have HH := hide H
  have H19 := hide h19
  have HIJ := hide hij
  obtain ⟨E0, HE0⟩ : ∃ E0, Hid (E0 = rl C row want want [] p) := ⟨_, rfl⟩
  rw [← HE0.out]
  clear H hi hj hR T h19 hij
  go_enter Tryz.func71, Tryz.ntmps71
  go_wp2_with (at_make; refine wpList_mkI rfl _ _ rfl _ _ _ _ 0 want rfl rfl rfl rfl (Nat.zero_le _) (by omega) ?_)
  intro w1 hg1 hb1
  have ho1 : OI w1 w.heap.size (.slice (some ⟨w.heap.size, 0, none⟩) 0 want) [] := ⟨rfl, .inr ⟨w.heap.size, want, _, rfl, Nat.le_refl _, hg1, Nat.zero_le _, by unfold maxLen; omega, by simp, rfl⟩⟩
  obtain ⟨Kl, hc0⟩ := (HH.out.below hb1).tibs HLOW.out hsz ho1
  have hs1 := hb1.size
  have HX0 : Hid (Herd W w1 (xs.set i (K, tr g row p) ++ [(Kl, tib w.heap.size (.slice (some ⟨w.heap.size, 0, none⟩) 0 want) [])])) := by
    have := hc0.same (get_front HI.out)
    rw [setf HI.out] at this
    exact hide this
  clear hg1 hb1 ho1 hc0
  go_wp2
  go_loopw [8] (fun x wr => ∃ (acc : List Int) (q f : Nat) (Kl : Nat → Nat) (a : Option Addr) (c : Nat), x = .slice a acc.length c ∧ acc.length ≤ want ∧ want - acc.length ≤ f ∧ Hid (rl C row want f acc q = E0) ∧ w.heap.size ≤ wr.heap.size ∧ Hid (Herd W wr (xs.set i (K, tr g row q) ++ [(Kl, tib w.heap.size (.slice a acc.length c) acc)]))) (fun x _ => want - lenV x)
  case atStart => exact ⟨[], p, want, Kl, some ⟨w.heap.size, 0, none⟩, want, rfl, Nat.zero_le _, by simp, HE0.out.symm, hs1, HX0⟩
  case round =>
    obtain ⟨acc, q, f, Kl, a, c, rfl, hal, hf, HRL, hws, HX⟩ := hrel
    by_cases hlt : acc.length < want
    · have hlt' : (acc.length : Int) < (want : Int) := by omega
      obtain ⟨f, rfl⟩ : ∃ f', f = f' + 1 := ⟨f - 1, by omega⟩
      have HRU := hide (htrun HX.out i j (get_front (getset HI.out)) (get_front (by rw [List.getElem?_set_ne HIJ.out]; exact HJ.out)) H19.out HT.out)
      have htb := tr_bd (C := C) HBT.out q
      have HST : Hid (E0 = if trE C row q ≠ 0 then (70, [], q) else if nxS C row q = 16 ∧ acc = [] then (73, [], q) else if (want : Int) < acc.length + trC C row q then (74, [], q) else rl C row want f (lay acc ((nxS C row q : Nat), trC C row q)) (trP C row q)) := by
        show _ = _
        rw [← HRL.out, rl, if_pos hlt]
      clear HRL
      go_wp2_with fail
      refine HRU.out.mono ?_
      rintro e w2 ⟨s, cc, q2, rfl, hws2, h2, hok⟩
      rw [setf (getset HI.out), List.set_set] at h2
      have HX2 := hide h2
      have HOK := hide hok
      obtain ⟨E, HE⟩ : ∃ E, Hid (E = trE C row q) := ⟨_, rfl⟩
      rw [← HE.out] at HST HOK ⊢
      clear hok h2 HRU
      by_cases e0 : E = 0
      case neg =>
        have e0' : (E != 0) = true := by simpa using e0
        have HF : Hid (E0 = (70, [], q)) := by show _ = _; rw [HST.out, if_pos e0]
        have HE70 : Hid (E = 70) := by
          show _ = _
          rw [HE.out]
          have h := HE.out
          unfold trE at h ⊢
          by_cases c1 : nxE C row q ≠ 0
          · rw [if_pos c1]
          · rw [if_neg c1] at h ⊢
            by_cases c2 : row.length < nxP C row q + frt (nxS C row q : Nat)
            · rw [if_pos c2]
            · rw [if_neg c2] at h; exact absurd h e0
        have HN := hide (HX2.out.front.below ((Below.refl _ _).alloc (Nat.le_refl _) (.cells #[.int .i64 s, .int .i64 cc] 139)))
        go_wp2
        go_ret2
        rw [HF.out]
        refine .inl ⟨by show (70 : Int) ≠ 0; decide, by rw [HE70.out]; rfl, _, HN.out⟩
      subst e0
      obtain ⟨ok1, ok2, ok3⟩ := HOK.out rfl
      subst ok1
      rw [← ok2, ← ok3] at HST
      rw [← ok3] at htb
      clear ok2 ok3 HOK
      have h1 := htb.1
      have h2 := htb.2
      obtain ⟨cn, rfl⟩ := Int.eq_ofNat_of_zero_le (show 0 ≤ cc by omega)
      obtain ⟨wx, hwx⟩ : ∃ wx, w2.alloc (.cells #[.int .i64 s, .int .i64 cn] 139) = wx := ⟨_, rfl⟩
      have hbw : Below w2.heap.size w2 wx := by rw [← hwx]; exact (Below.refl _ _).alloc (Nat.le_refl _) _
      have hrb : Rbox wx w2.heap.size s cn := by rw [← hwx]; exact heap_alloc_new w2 _
      obtain ⟨x0, x1⟩ := hrb.cells
      have HN := hide (HX2.out.below hbw)
      have hws3 := hbw.size
      have HWX := hide hwx
      clear hbw hrb hwx htb
      by_cases c16 : s = 16 ∧ acc = []
      · obtain ⟨e16, eacc⟩ := c16
        have HF : Hid (E0 = (73, [], q)) := by show _ = _; rw [HST.out, if_neg (by simp), if_pos ⟨e16, eacc⟩]
        have g1 : ((s : Int) == 16) = true := by simp; omega
        have g2 : ((acc.length : Int) == 0) = true := by rw [eacc]; rfl
        clear e16 eacc
        go_wp2
        rw [HWX.out]
        go_ret2
        rw [HF.out]
        exact .inl ⟨by show (73 : Int) ≠ 0; decide, rfl, _, HN.out.front⟩
      · have HST2 : Hid (E0 = if (want : Int) < acc.length + (cn : Int) then (74, [], q) else rl C row want f (lay acc ((s : Nat), (cn : Int))) (trP C row q)) := by show _ = _; rw [HST.out, if_neg (by simp), if_neg c16]
        have n16 : s = 16 → 0 < acc.length := fun h => by
          rcases Nat.eq_zero_or_pos acc.length with z | z
          · exact absurd ⟨h, List.eq_nil_of_length_eq_zero z⟩ c16
          · exact z
        have HN16 := hide n16
        have gd : ((s : Int) == 16) = false ∨ (((s : Int) == 16) = true ∧ ((acc.length : Int) == 0) = false) := by
          by_cases h : s = 16
          · exact .inr ⟨by simp; omega, beq_eq_false_iff_ne.2 (by have := n16 h; omega)⟩
          · exact .inl (by simp; omega)
        clear n16 c16
        have hwr : IntKind.i64.wrap ((acc.length : Int) + (cn : Int)) = (acc.length : Int) + (cn : Int) := by rw [IntKind.wrap_i64]; omega
        by_cases hov : (want : Int) < (acc.length : Int) + (cn : Int)
        · have HF : Hid (E0 = (74, [], q)) := by show _ = _; rw [HST2.out, if_pos hov]
          rcases gd with g1 | ⟨g1, g2⟩
          all_goals
            go_wp2
            rw [HWX.out]
            go_ret2
            rw [HF.out]
            exact .inl ⟨by show (74 : Int) ≠ 0; decide, rfl, _, HN.out.front⟩
        · have HF : Hid (E0 = rl C row want f (lay acc ((s : Nat), (cn : Int))) (trP C row q)) := by show _ = _; rw [HST2.out, if_neg hov]
          have hBs : w.heap.size ≤ wx.heap.size := by omega
          have HLY := hide (layr_any (.slice a acc.length c) acc (s : Int) cn wx w.heap.size (HN.out.tibo _ (get_last _ _)) hBs (fun h => HN16.out (by omega)) (by omega) (by omega))
          rcases gd with g1 | ⟨g1, g2⟩
          all_goals
            go_wp2_with fail
            rw [HWX.out]
            refine HLY.out.mono ?_
            rintro e w3 ⟨u', rfl, ho3, hb3⟩
            obtain ⟨a3, c3, rfl⟩ := ho3.shape
            obtain ⟨K3, h3⟩ := (HN.out.front.keep (HLOW.out.set HI.out) hsz hb3).tibs (HLOW.out.set HI.out) hsz ho3
            have HX3 := hide h3
            have hws4 := hb3.size
            clear h3 ho3 hb3
            have hll : (lay acc ((s : Int), (cn : Int))).length = acc.length + cn := by rw [lay_len]; rfl
            go_wp2
            go_roundw
            case rel => exact ⟨lay acc ((s : Int), (cn : Int)), trP C row q, f, K3, a3, c3, by rw [hll], by omega, by omega, HF.out.symm, by omega, HX3⟩
            case measure => simp only [lenV]; omega
    · have hlt' : ¬ (acc.length : Int) < (want : Int) := by omega
      have HF : Hid (E0 = (0, acc, q)) := by
        show _ = _
        rw [← HRL.out]
        cases f with
        | zero => rfl
        | succ f => rw [rl, if_neg hlt]
      have HN := hide HX.out.tibi
      go_wp2
      go_ret2
      rw [HF.out]
      exact .inr ⟨rfl, a, c, rfl, Kl, HN.out⟩
end Go.Proofs.YtpmgnpfpnkmmbaaGreatDoor

