import Derived.Test.YtpbghgddeodabaaGStw
namespace Go.Proofs.Ytpbghgddeodabaa
open Go.RowKit Go.Maps
set_option maxRecDepth 20000
set_option linter.unusedVariables false

theorem SB.open11 {w : World} {v : Value} {l : List Int} (h : SB w v l) : ∃ ao cap, v = .slice ao l.length cap ∧ l.length ≤ cap ∧ cap ≤ 9223372036854775807 ∧ (0 < l.length → ∃ b o, ao = some ⟨b, o, none⟩) := by
  obtain ⟨ao, cap, rfl, h1, h2, h3, h4⟩ := h
  unfold maxLen at h2
  refine ⟨ao, cap, rfl, h1, by omega, fun hp => ?_⟩
  cases ao with
  | none => have := h3 rfl; omega
  | some x =>
    obtain ⟨b, o, rfl⟩ := addr_lit (h4 x rfl 0 hp)
    exact ⟨b, o, rfl⟩

theorem SB.first11 {w : World} {b o c : Nat} {l : List Int} (h : SB w (.slice (some ⟨b, o, none⟩) l.length c) l) {n : Nat} (hn : n ≤ l.length) : SB w (.slice (some ⟨b, o, none⟩) n c) (l.take n) := by
  obtain ⟨ao, cap, he, h1, h2, h3, h4⟩ := h
  simp only [Value.slice.injEq] at he
  obtain ⟨rfl, -, rfl⟩ := he
  refine ⟨_, c, by simp [Nat.min_eq_left hn], by simp; omega, h2, h3, fun x hx i hi => ?_⟩
  have hi' : i < n := by simp at hi; omega
  rw [h4 x hx i (by omega)]
  simp [List.getD_eq_getElem?_getD, hi']

theorem SB.rest11 {w : World} {b o c : Nat} {l : List Int} (h : SB w (.slice (some ⟨b, o, none⟩) l.length c) l) {n : Nat} (hn : n ≤ l.length) : SB w (.slice (some ⟨b, o + n, none⟩) (l.length - n) (c - n)) (l.drop n) := by
  obtain ⟨ao, cap, he, h1, h2, h3, h4⟩ := h
  simp only [Value.slice.injEq] at he
  obtain ⟨rfl, -, rfl⟩ := he
  refine ⟨some ⟨b, o + n, none⟩, c - n, by rw [List.length_drop], by rw [List.length_drop]; omega, by omega, (fun hx => by cases hx), fun x hx i hi => ?_⟩
  cases hx
  have hi' : n + i < l.length := by simp at hi; omega
  have := h4 ⟨b, o, none⟩ rfl (n + i) hi'
  rw [Addr.add_lit] at this
  rw [Addr.add_lit, Nat.add_assoc, this]
  simp [List.getD_eq_getElem?_getD, List.getElem?_drop]

def slLen : Value → Nat
  | .slice _ n _ => n
  | _ => 0

set_option maxHeartbeats 1000000 in
theorem fstored_any (u : Value) (x : List Int) (w : World) (hB : Byt x) (hS : SB w u x) (hu : ∀ k, u.ownBlock = some k → k < w.heap.size) (hx : x.length ≤ 16777216) :
    Calls Try.prog 13 #[u] w fun e w' => ∃ a c, e = .returned (.slice a (stB x).length c) ∧ OB w' w.heap.size (.slice a (stB x).length c) (stB x) ∧ Below w.heap.size w w' := by
  have HBY := hide hB
  have HSB := hide hS
  have HOW := hide hu
  have HLN := hide (stB_len x.length x (Nat.le_refl _))
  have HBS := hide (stB_byt x.length x (Nat.le_refl _) hB)
  obtain ⟨ao, cap, rfl, hlc, hcm, _⟩ := hS.open11
  have HNW := hide (hnewW (Herd.nil w))
  clear hB hS hu
  go_enter Try.func13, Try.ntmps13
  go_wp2_with fail
  refine HNW.out.mono ?_
  rintro e w1 ⟨g, K, rfl, H1⟩
  have HH := hide H1
  clear H1 HNW
  go_wp2
  go_loopw [0] (fun t wr => ∃ (j : Nat) (d : List Int) (a : Option Addr) (c : Nat) (K : Nat → Nat), t = .slice a (x.length - j) c ∧ j ≤ x.length ∧ Hid (SB w (.slice a (x.length - j) c) (x.drop j)) ∧ Hid (∀ k, (Value.slice a (x.length - j) c).ownBlock = some k → k < w.heap.size) ∧ Hid (d ++ stB (x.drop j) = stB x) ∧ Hid (Herd w wr [(K, tw g (unpack d))])) (fun t _ => slLen t)
  case atStart => exact ⟨0, [], ao, cap, K, rfl, Nat.zero_le _, HSB, HOW, hide (by simp), HH⟩
  case round =>
    obtain ⟨j, d, a, c, K2, rfl, hj, HS2, HO2, HD, HR⟩ := hrel
    have hdl : (x.drop j).length = x.length - j := List.length_drop
    have hbd : Byt (x.drop j) := fun i => by
      have := HBY.out (j + i)
      simpa [List.getD_eq_getElem?_getD, List.getElem?_drop] using this
    have HBD := hide hbd
    have hsum : d.length + (stB (x.drop j)).length = (stB x).length := by have := congrArg List.length HD.out; simpa using this
    have hsz : d.length + (x.length - j) + 5 ≤ 33554432 := by
      have h1 := HLN.out
      have h2 := stB_len _ (x.drop j) (Nat.le_refl _)
      rw [hdl] at h2
      omega
    clear hbd HH HSB HOW
    by_cases hlt : 65535 < x.length - j
    · have hlt' : (65535 : Int) < ((x.length - j : Nat) : Int) := by omega
      obtain ⟨a', c', he, hc1, hc2, hsome⟩ := HS2.out.open11
      obtain ⟨b, o, rfl⟩ := hsome (by omega)
      simp only [Value.slice.injEq] at he
      obtain ⟨rfl, -, rfl⟩ := he
      have hsb := HS2.out
      rw [← hdl] at hsb
      have HT := hide (hsb.first11 (n := 65535) (by omega))
      have HDR := hide (hsb.rest11 (n := 65535) (by omega))
      rw [hdl, List.drop_drop, show x.length - j - 65535 = x.length - (j + 65535) by omega] at HDR
      have hbt : Byt ((x.drop j).take 65535) := fun i => by
        by_cases h : i < 65535
        · have := HBD.out i
          simpa [List.getD_eq_getElem?_getD, List.getElem?_take, h] using this
        · simp [List.getD_eq_getElem?_getD, List.getElem?_take, h]
      have htl : ((x.drop j).take 65535).length = 65535 := by simp; omega
      have HPS := hide (hputStored HR.out 0 rfl _ _ hbt HT.out (fun k hk => HO2.out k hk) 0 (.inl rfl) (by omega) (by omega))
      have HD2 : Hid ((d ++ sblk 0 ((x.drop j).take 65535)) ++ stB (x.drop (j + 65535)) = stB x) := by
        show _ = _
        rw [← HD.out, stB_long (x := x.drop j) (by omega), List.drop_drop, List.append_assoc]
      obtain ⟨N, hN⟩ : ∃ N, x.length - j = N := ⟨_, rfl⟩
      have hN2 : x.length - (j + 65535) = N - 65535 := by omega
      rw [hdl] at hc1
      rw [hN] at hlt' hc1 ⊢
      rw [hN2] at HDR
      have hcN : N ≤ c := by omega
      clear hsb hbt htl hdl hsum hsz HT HD
      go_wp2_with fail
      refine HPS.out.mono ?_
      rintro e w2 ⟨rfl, K3, H3⟩
      have HR2 := hide H3
      clear H3 HPS HR
      go_wp2
      go_roundw
      case rel => exact ⟨j + 65535, _, _, _, K3, by rw [hN2], by omega, by rw [hN2]; exact HDR, by rw [hN2]; exact hide (fun k hk => HO2.out k hk), HD2, HR2⟩
      case measure => simp [slLen]; omega
    · have hlt' : ¬ (65535 : Int) < ((x.length - j : Nat) : Int) := by omega
      have hs2 := HS2.out
      rw [← hdl] at hs2
      have HPS := hide (hputStored HR.out 0 rfl _ _ HBD.out hs2 (fun k hk => HO2.out k (by rw [← hdl]; exact hk)) 1 (.inr rfl) (by omega) (by omega))
      rw [← stB_short (by omega), HD.out, hdl] at HPS
      have HPK := hide (pack_unpack HBS.out)
      clear hs2 hdl hsum hsz HBD HD HR HS2 HO2
      go_wp2_with fail
      refine HPS.out.mono ?_
      rintro e w2 ⟨rfl, K3, H3⟩
      have HBT := hide (hbytes H3 0 rfl)
      rw [HPK.out] at HBT
      clear H3 HPS
      go_wp2_with fail
      refine HBT.out.mono ?_
      rintro e w3 ⟨a3, c3, K4, rfl, H4⟩
      have hb := H4.bel
      have ho := (H4.rep 1 _ rfl).1
      have hup := H4.up 1 _ rfl
      have how := (H4.rep 1 _ rfl).2.1
      have HO : Hid (OB w3 w.heap.size (.slice a3 (stB x).length c3) (stB x)) := by
        rcases ho.2 with ⟨h1, h2⟩ | ⟨gg, cc, cur, h1, h2, h3⟩
        · exact ⟨ho.1, .inl ⟨h1, h2⟩⟩
        · exact ⟨ho.1, .inr ⟨gg, cc, cur, h1, hup gg (how gg (by rw [h1]; rfl)), h3⟩⟩
      have HB4 := hide hb
      clear H4 hb ho hup how HBT
      go_wp2
      go_ret
      exact ⟨_, _, rfl, HO.out, HB4.out⟩
end Go.Proofs.Ytpbghgddeodabaa

