import Derived.Test.YtmjdpfigkojolaaGreatDoorG05Rw3
import Derived.Laws.CopyOwn
import Derived.Test.YtmjdpfigkojolaaGreatDoorG01Mk2
import Derived.Test.YtmjdpfigkojolaaGreatDoorG07Rhr
import Derived.WalkLawsBesides
namespace Go.Proofs.YtmjdpfigkojolaaGreatDoor
open Go.RowKit Go.Maps
set_option maxRecDepth 20000

end Go.Proofs.YtmjdpfigkojolaaGreatDoor

namespace Go.Proofs.YtmjdpfigkojolaaGreatDoor
open Go.RowKit Go.Maps
set_option maxRecDepth 20000

theorem run_copy_gr {P : Program} (w : World) (dT sT ty elem : TypeId) (hu : P.underlying dT = some (.slice elem)) (hsz : (P.info? elem).map (·.size) = some 1) (dp sp : Option Addr) (dLen dCap sLen sCap : Nat)
    (g off : Nat) (cur : List Value) (t : TypeId) (hg : w.heap[g]? = some (.cells cur.toArray t (0, 0))) (cs : List Value) (hn : cs.length = Nat.min sLen dLen)
    (hpos : 0 < cs.length → dp = some ⟨g, off, none⟩ ∧ ∃ ad, sp = some ad ∧ ∀ j v, cs[j]? = some v → w.cell? (ad.add j) = some v) (hfit : off + cs.length ≤ cur.length) (h1 : ∀ v ∈ cs, v.oneCell' = true) :
    ∃ w', (Builtin.copy_ #[dT, sT] ty #[.slice dp dLen dCap, .slice sp sLen sCap]).run P w = .ok (goInt cs.length) w' ∧ w'.heap[g]? = some (.cells (splice cur off cs).toArray t (0, 0)) ∧ w.grownBy w' (some g) := by
  by_cases h0 : cs.length = 0
  · obtain rfl : cs = [] := List.eq_nil_of_length_eq_zero h0
    exact ⟨w, run_copy_none (P := P) w dT sT ty elem dp sp dLen dCap sLen sCap hu hsz (by simpa using hn.symm), by rw [hg]; simp [splice], ⟨rfl, rfl, rfl, Nat.le_refl _, fun _ _ _ => rfl⟩⟩
  · obtain ⟨rfl, ad, rfl, hsrc⟩ := hpos (by omega)
    exact ⟨_, run_copy_row (P := P) w dT sT ty elem g off dLen dCap ad sLen sCap cur.toArray t cs hu hsz hg hn hsrc (by simpa using hfit) h1, by simpa [splice] using setRow_heap w g _ _ t _ hg, ⟨rfl, rfl, rfl, by simp, fun k _ hk => setRow_other w g k _ (fun e => hk (by rw [e]))⟩⟩

theorem wpList_copy_gr {P : Program} {w : World} {ops : Array Oper} {rest : List Oper} {o : Oper} {a : Act} {Q : Exit → Act → World → Prop} (hgd : o.guard = none) (d s : Operand) (dT sT : TypeId)
    (ho : o.op = .call { callee := .builtin .copy, args := #[d, s], argTypes := #[dT, sT] }) (elem : TypeId) (hu : P.underlying dT = some (.slice elem)) (hsz : (P.info? elem).map (·.size) = some 1)
    (dp sp : Option Addr) (dLen dCap sLen sCap : Nat) (hd : a.eval d = .slice dp dLen dCap) (hs : a.eval s = .slice sp sLen sCap)
    (g off : Nat) (cur : List Value) (t : TypeId) (hg : w.heap[g]? = some (.cells cur.toArray t (0, 0))) (cs : List Value) (hn : cs.length = Nat.min sLen dLen)
    (hpos : 0 < cs.length → dp = some ⟨g, off, none⟩ ∧ ∃ ad, sp = some ad ∧ ∀ j v, cs[j]? = some v → w.cell? (ad.add j) = some v) (hfit : off + cs.length ≤ cur.length) (h1 : ∀ v ∈ cs, v.oneCell' = true)
    (h : ∀ w', Hid (w'.heap[g]? = some (.cells (splice cur off cs).toArray t (0, 0))) → w.grownBy w' (some g) → wpList P ops Q rest (a.put o.dst (goInt cs.length)) w') :
    wpList P ops Q (o :: rest) a w := by
  obtain ⟨w', hrun, h2, h3⟩ := run_copy_gr (P := P) w dT sT o.type elem hu hsz dp sp dLen dCap sLen sCap g off cur t hg cs hn hpos hfit h1
  refine wpList_plain hgd fun K hK => ?_
  unfold Oper.wp
  simp [execOp, ho, resolve, invoke, builtin, hd, hs, hrun, Result.andThen]
  exact hK _ _ (h w' h2 h3)

theorem step_copy_gr {P : Program} {ops : Array Oper} {o : Oper} {a : Act} {w : World} {K : Act → World → Prop} {Q : Exit → Act → World → Prop} {E : Prop} (hgd : o.guard = none) (d s : Operand) (dT sT : TypeId)
    (ho : o.op = .call { callee := .builtin .copy, args := #[d, s], argTypes := #[dT, sT] }) (elem : TypeId) (hu : P.underlying dT = some (.slice elem)) (hsz : (P.info? elem).map (·.size) = some 1)
    (dp sp : Option Addr) (dLen dCap sLen sCap : Nat) (hd : a.eval d = .slice dp dLen dCap) (hs : a.eval s = .slice sp sLen sCap)
    (g off : Nat) (cur : List Value) (t : TypeId) (hg : w.heap[g]? = some (.cells cur.toArray t (0, 0))) (cs : List Value) (hn : cs.length = Nat.min sLen dLen)
    (hpos : 0 < cs.length → dp = some ⟨g, off, none⟩ ∧ ∃ ad, sp = some ad ∧ ∀ j v, cs[j]? = some v → w.cell? (ad.add j) = some v) (hfit : off + cs.length ≤ cur.length) (h1 : ∀ v ∈ cs, v.oneCell' = true)
    (h : ∀ w', Hid (w'.heap[g]? = some (.cells (splice cur off cs).toArray t (0, 0))) → w.grownBy w' (some g) → K (a.put o.dst (goInt cs.length)) w') :
    if Region.wanted o (yielded ops a.tmps) = true then Oper.wp P o a w K Q else E := by
  have hw : Region.wanted o (yielded ops a.tmps) = true := by simp [Region.wanted, hgd]
  rw [if_pos hw]
  obtain ⟨w', hrun, h2, h3⟩ := run_copy_gr (P := P) w dT sT o.type elem hu hsz dp sp dLen dCap sLen sCap g off cur t hg cs hn hpos hfit h1
  unfold Oper.wp
  simp [execOp, ho, resolve, invoke, builtin, hd, hs, hrun, Result.andThen]
  exact h w' h2 h3

theorem drop_rev {l : List Int} {k : Nat} (h : k < l.length) : (l.drop k).reverse = (l.drop (k + 1)).reverse ++ [l.getD k 0] := by
  rw [List.drop_eq_getElem_cons h, List.reverse_cons]
  simp [h]

end Go.Proofs.YtmjdpfigkojolaaGreatDoor

namespace Go.Proofs.YtmjdpfigkojolaaGreatDoor
open Go.RowKit Go.Maps
set_option maxRecDepth 20000

end Go.Proofs.YtmjdpfigkojolaaGreatDoor

namespace Go.Proofs.YtmjdpfigkojolaaGreatDoor
open Go.RowKit Go.Maps
set_option maxRecDepth 20000

theorem xrows_any (n : Nat) (w : World) (hn : n ≤ 15) : Calls Tryz.prog 147 #[.int .i64 n] w fun e w' => e = .returned (.int .i64 ((2 ^ (15 - n) : Nat) : Int)) ∧ w' = w := by
  go_enter Tryz.func147, Tryz.ntmps147
  go_wp2
  go_loopw [3, 4] (fun u i wr => ∃ k : Nat, n ≤ k ∧ k ≤ 15 ∧ i = .int .i64 k ∧ u = .int .i64 ((2 ^ (k - n) : Nat) : Int) ∧ wr = w) (fun _ i _ => 15 - (intOf i).toNat)
  case atStart => exact ⟨n, Nat.le_refl _, hn, rfl, by simp, rfl⟩
  case round =>
    obtain ⟨k, hnk, hk, rfl, rfl, rfl⟩ := hrel
    by_cases hlt : k < 15
    · have hlt' : (k : Int) < 15 := by omega
      have b : 2 ^ (k - n) ≤ 32768 := Nat.pow_le_pow_right (n := 2) (by decide) (show k - n ≤ 15 by omega)
      have HS : Hid (2 ^ (k + 1 - n) = 2 * 2 ^ (k - n)) := by show _ = _; rw [show k + 1 - n = (k - n) + 1 by omega, Nat.pow_succ, Nat.mul_comm]
      obtain ⟨p, HP⟩ : ∃ p : Nat, Hid (p = 2 ^ (k - n)) := ⟨_, rfl⟩
      rw [← HP.out] at b HS ⊢
      go_wp2
      go_roundw
      case rel => exact ⟨k + 1, by omega, by omega, by go_num, by rw [HS.out]; push_cast; rfl, by trivial⟩
      case measure => simp [intOf]; omega
    · obtain rfl : k = 15 := by omega
      have hlt' : ¬ ((15 : Nat) : Int) < 15 := by omega
      go_wp2
      go_ret
      exact ⟨rfl, rfl⟩

theorem usum_succ {l : List Int} {k : Nat} (h : k < l.length) : usum (l.take (k + 1)) = usum (l.take k) + wt (l.getD k 0) ∧ tsum (l.take (k + 1)) = tsum (l.take k) + one (l.getD k 0) := by
  have e : l.getD k 0 = l[k] := by simp [h]
  rw [List.take_succ_eq_append_getElem h, e]
  unfold usum tsum
  rw [List.map_append, List.map_append, List.sum_append, List.sum_append]
  simp

theorem sum_bound {l : List Int} (hl : Lens l) (k : Nat) : usum (l.take k) ≤ 288 * 16384 ∧ tsum (l.take k) ≤ 288 := by
  have h1 : Lens (l.take k) := ⟨by rw [List.length_take]; have := hl.1; omega, fun x hx => hl.2 x (List.mem_of_mem_take hx)⟩
  have h2 := us_bound h1
  rw [us_sum h1.2] at h2
  have h3 := sh_le (l.take k) 16
  rw [sh_sum h1.2] at h3
  exact ⟨h2, Nat.le_trans h3 h1.1⟩

theorem xused_any (v : Value) (l : List Int) (w : World) (h : SI w v l) (hl : Lens l) :
    Calls Tryz.prog 139 #[v] w fun e w' => e = .returned (.tuple #[.int .i64 (usum l), .int .i64 (tsum l)]) ∧ w' = w := by
  have HS := hide h
  have HL := hide hl
  have h288 := hl.1
  obtain ⟨ao, cap, rfl, hlc, hcm⟩ := h.open
  clear h hl
  go_enter Tryz.func139, Tryz.ntmps139
  go_wp2
  go_loopw [4, 5, 6] (fun u t i wr => ∃ k : Nat, k ≤ l.length ∧ i = .int .i64 k ∧ u = .int .i64 (usum (l.take k)) ∧ t = .int .i64 (tsum (l.take k)) ∧ wr = w) (fun _ _ i _ => l.length - (intOf i).toNat)
  case atStart => exact ⟨0, Nat.zero_le _, rfl, rfl, rfl, rfl⟩
  case round =>
    obtain ⟨k, hk, rfl, rfl, rfl, rfl⟩ := hrel
    by_cases hlt : k < l.length
    · have hlt' : (k : Int) < (l.length : Int) := by omega
      obtain ⟨b, o, rfl, hc⟩ := HS.out.get (Below.refl _ _) hlt
      obtain ⟨n, HN⟩ : ∃ n, Hid (ln l k = n) := ⟨_, rfl⟩
      have hn15 : n ≤ 15 := by rw [← HN.out]; exact (HL.out.ln k).2
      have HX := hide (usum_succ hlt)
      rw [(HL.out.ln k).1, HN.out] at hc HX
      have hb := sum_bound HL.out k
      obtain ⟨u, HU⟩ : ∃ u : Nat, Hid (u = usum (l.take k)) := ⟨_, rfl⟩
      obtain ⟨t, HT⟩ : ∃ t : Nat, Hid (t = tsum (l.take k)) := ⟨_, rfl⟩
      rw [← HU.out, ← HT.out] at hb HX ⊢
      obtain ⟨hb1, hb2⟩ := hb
      by_cases h0 : n = 0
      · subst h0
        have HY : Hid (usum (l.take (k + 1)) = u ∧ tsum (l.take (k + 1)) = t) := by
          have := HX.out
          show _ ∧ _
          simpa [wt, one] using this
        clear HX
        go_wp2
        go_roundw
        case rel => exact ⟨k + 1, by omega, by go_num, by rw [HY.out.1], by rw [HY.out.2], by trivial⟩
        case measure => simp [intOf]; omega
      · have h0' : (0 : Int) < n := by omega
        have HY : Hid (usum (l.take (k + 1)) = u + 2 ^ (15 - n) ∧ tsum (l.take (k + 1)) = t + 1) := by
          have := HX.out
          unfold wt one at this
          rw [if_pos h0', if_pos h0'] at this
          exact this
        have b4 : 2 ^ (15 - n) ≤ 32768 := Nat.pow_le_pow_right (n := 2) (by decide) (show 15 - n ≤ 15 by omega)
        clear HX
        go_wp2_with fail
        refine (xrows_any n _ hn15).mono ?_
        rintro e w1 ⟨rfl, rfl⟩
        obtain ⟨p, HP⟩ : ∃ p : Nat, Hid (p = 2 ^ (15 - n)) := ⟨_, rfl⟩
        rw [← HP.out] at b4 HY ⊢
        go_wp2
        go_roundw
        case rel => exact ⟨k + 1, by omega, by go_num, by rw [HY.out.1]; push_cast; rfl, by rw [HY.out.2]; push_cast; rfl, by trivial⟩
        case measure => simp [intOf]; omega
    · obtain rfl : k = l.length := by omega
      have hlt' : ¬ (l.length : Int) < (l.length : Int) := by omega
      rw [List.take_of_length_le (Nat.le_refl _)]
      go_wp2
      go_ret2
      exact ⟨rfl, rfl⟩

theorem xvalid_any (v : Value) (l : List Int) (w : World) (h : SI w v l) :
    Calls Tryz.prog 138 #[v] w fun e w' => e = .returned (.int .i64 (chkE l)) ∧ w' = w := by
  have HS := hide h
  obtain ⟨ao, cap, rfl, hlc, hcm⟩ := h.open
  clear h
  by_cases hlen : 288 < l.length
  · have hlen' : (288 : Int) < l.length := by omega
    have HE : Hid (chkE l = 1) := if_pos hlen
    go_enter Tryz.func138, Tryz.ntmps138
    go_wp2
    go_ret
    rw [HE.out]
    exact ⟨rfl, rfl⟩
  have hlen' : ¬ (288 : Int) < l.length := by omega
  have HNL := hide hlen
  clear hlen
  go_enter Tryz.func138, Tryz.ntmps138
  go_wp2
  go_loopw [3] (fun i wr => ∃ k : Nat, k ≤ l.length ∧ i = .int .i64 k ∧ wr = w ∧ Hid (okTo l k)) (fun i _ => l.length - (intOf i).toNat)
  case atStart => exact ⟨0, Nat.zero_le _, rfl, rfl, fun i hi => by omega⟩
  case round =>
    obtain ⟨k, hk, rfl, rfl, HT⟩ := hrel
    by_cases hlt : k < l.length
    · have hlt' : (k : Int) < (l.length : Int) := by omega
      obtain ⟨b, o, rfl, hc⟩ := HS.out.get (Below.refl _ _) hlt
      obtain ⟨x, HX⟩ : ∃ x, Hid (x = l.getD k 0) := ⟨_, rfl⟩
      rw [← HX.out] at hc
      by_cases hb : 0 ≤ x ∧ x ≤ 15
      · have HN : Hid (okTo l (k + 1)) := okTo_succ HT.out (by rw [← HX.out]; exact hb)
        obtain ⟨b0, b1⟩ := hb
        have b0' : ¬ x < 0 := by omega
        have b1' : ¬ 15 < x := by omega
        clear HT
        go_wp2
        go_roundw
        case rel => exact ⟨k + 1, by omega, by go_num, by trivial, HN⟩
        case measure => simp [intOf]; omega
      · have hn : ¬ Lens l := not_lens (k := k) (by rw [← HX.out]; exact hb)
        have HE : Hid (chkE l = 50) := by show _ = _; unfold chkE; rw [if_neg HNL.out, if_neg hn]
        clear hn
        by_cases b0 : x < 0
        · clear hb
          go_wp2
          go_ret
          rw [HE.out]
          exact ⟨rfl, rfl⟩
        · have b1 : 15 < x := by omega
          clear hb
          go_wp2
          go_ret
          rw [HE.out]
          exact ⟨rfl, rfl⟩
    · obtain rfl : k = l.length := by omega
      have hl : Lens l := okTo_lens HT.out (by have := HNL.out; omega)
      have HE : Hid (chkE l = 0) := by show _ = _; unfold chkE; rw [if_neg HNL.out, if_pos hl]
      have hlt' : ¬ (l.length : Int) < (l.length : Int) := by omega
      clear hl HT
      go_wp2
      go_ret
      rw [HE.out]
      exact ⟨rfl, rfl⟩

theorem xcheck_any (v : Value) (l : List Int) (w : World) (h : SI w v l) :
    Calls Tryz.prog 116 #[v] w fun e w' => e = .returned (.tuple #[.int .i64 (chkS l), .int .i64 (chkE l)]) ∧ w' = w := by
  have HS := hide h
  obtain ⟨ao, cap, rfl, hlc, hcm⟩ := h.open
  clear h
  by_cases h0 : chkE l = 0
  case neg =>
    have h1 : (chkE l == 0) = false := by simpa using h0
    have hn : ¬ Lens l := fun hl => h0 (by unfold chkE; rw [if_neg (by have := hl.1; omega), if_pos hl])
    have HE : Hid (chkS l = 0) := if_neg hn
    obtain ⟨q, HQ⟩ : ∃ q, Hid (q = chkE l) := ⟨_, rfl⟩
    rw [← HQ.out] at h0 h1
    rw [HE.out, ← HQ.out]
    clear hn
    go_enter Tryz.func116, Tryz.ntmps116
    go_wp2_with fail
    refine (xvalid_any _ l _ HS.out).mono ?_
    rintro e w1 ⟨rfl, rfl⟩
    rw [← HQ.out]
    go_wp2
    go_ret2
    exact ⟨rfl, rfl⟩
  obtain ⟨hl, hs⟩ := chkE_zero h0
  have HL := hide hl
  have HQ := hide h0
  have hb := sum_bound hl l.length
  rw [List.take_of_length_le (Nat.le_refl _)] at hb
  obtain ⟨U, HU⟩ : ∃ U : Nat, Hid (U = usum l) := ⟨_, rfl⟩
  obtain ⟨T, HT⟩ : ∃ T : Nat, Hid (T = tsum l) := ⟨_, rfl⟩
  have HSH : Hid (chkS l = if T = 0 then 0 else if T = 1 ∧ U = 16384 then 1 else if 32768 < U then 3 else if U = 32768 then 4 else 2) := by
    show _ = _
    rw [hs, HU.out, HT.out]; rfl
  rw [← HU.out, ← HT.out] at hb
  obtain ⟨hb1, hb2⟩ := hb
  clear hl hs h0
  by_cases c1 : T = 0
  · have HX : Hid (chkS l = 0) := by show _ = _; rw [HSH.out, if_pos c1]
    clear HSH
    subst c1
    go_enter Tryz.func116, Tryz.ntmps116
    go_wp2_with fail
    refine (xvalid_any _ l _ HS.out).mono ?_
    rintro e w1 ⟨rfl, rfl⟩
    rw [HQ.out]
    go_wp2_with fail
    refine (xused_any _ l _ HS.out HL.out).mono ?_
    rintro e w2 ⟨rfl, rfl⟩
    rw [← HU.out, ← HT.out]
    go_wp2
    go_ret2
    rw [HX.out, HQ.out]
    exact ⟨rfl, rfl⟩
  by_cases c2 : T = 1 ∧ U = 16384
  · have HX : Hid (chkS l = 1) := by show _ = _; rw [HSH.out, if_neg c1, if_pos c2]
    clear HSH c1
    obtain ⟨e1, e2⟩ := c2
    subst e1 e2
    go_enter Tryz.func116, Tryz.ntmps116
    go_wp2_with fail
    refine (xvalid_any _ l _ HS.out).mono ?_
    rintro e w1 ⟨rfl, rfl⟩
    rw [HQ.out]
    go_wp2_with fail
    refine (xused_any _ l _ HS.out HL.out).mono ?_
    rintro e w2 ⟨rfl, rfl⟩
    rw [← HU.out, ← HT.out]
    go_wp2
    go_ret2
    rw [HX.out, HQ.out]
    exact ⟨rfl, rfl⟩
  have HX : Hid (chkS l = if 32768 < U then 3 else if U = 32768 then 4 else 2) := by show _ = _; rw [HSH.out, if_neg c1, if_neg c2]
  clear HSH
  have c1' : ((T : Int) == 0) = false := by simp; omega
  by_cases c3 : 32768 < U
  · have HY : Hid (chkS l = 3) := by show _ = _; rw [HX.out, if_pos c3]
    clear HX c2
    by_cases t1 : T = 1
    · subst t1
      have u1 : ((U : Int) == 16384) = false := by simp; omega
      go_enter Tryz.func116, Tryz.ntmps116
      go_wp2_with fail
      refine (xvalid_any _ l _ HS.out).mono ?_
      rintro e w1 ⟨rfl, rfl⟩
      rw [HQ.out]
      go_wp2_with fail
      refine (xused_any _ l _ HS.out HL.out).mono ?_
      rintro e w2 ⟨rfl, rfl⟩
      rw [← HU.out, ← HT.out]
      go_wp2
      go_ret2
      rw [HY.out, HQ.out]
      exact ⟨rfl, rfl⟩
    · have t1' : ((T : Int) == 1) = false := by simp; omega
      go_enter Tryz.func116, Tryz.ntmps116
      go_wp2_with fail
      refine (xvalid_any _ l _ HS.out).mono ?_
      rintro e w1 ⟨rfl, rfl⟩
      rw [HQ.out]
      go_wp2_with fail
      refine (xused_any _ l _ HS.out HL.out).mono ?_
      rintro e w2 ⟨rfl, rfl⟩
      rw [← HU.out, ← HT.out]
      go_wp2
      go_ret2
      rw [HY.out, HQ.out]
      exact ⟨rfl, rfl⟩
  by_cases c4 : U = 32768
  · have HY : Hid (chkS l = 4) := by show _ = _; rw [HX.out, if_neg c3, if_pos c4]
    clear HX c2 c3
    subst c4
    by_cases t1 : T = 1
    · subst t1
      go_enter Tryz.func116, Tryz.ntmps116
      go_wp2_with fail
      refine (xvalid_any _ l _ HS.out).mono ?_
      rintro e w1 ⟨rfl, rfl⟩
      rw [HQ.out]
      go_wp2_with fail
      refine (xused_any _ l _ HS.out HL.out).mono ?_
      rintro e w2 ⟨rfl, rfl⟩
      rw [← HU.out, ← HT.out]
      go_wp2
      go_ret2
      rw [HY.out, HQ.out]
      exact ⟨rfl, rfl⟩
    · have t1' : ((T : Int) == 1) = false := by simp; omega
      go_enter Tryz.func116, Tryz.ntmps116
      go_wp2_with fail
      refine (xvalid_any _ l _ HS.out).mono ?_
      rintro e w1 ⟨rfl, rfl⟩
      rw [HQ.out]
      go_wp2_with fail
      refine (xused_any _ l _ HS.out HL.out).mono ?_
      rintro e w2 ⟨rfl, rfl⟩
      rw [← HU.out, ← HT.out]
      go_wp2
      go_ret2
      rw [HY.out, HQ.out]
      exact ⟨rfl, rfl⟩
  · have HY : Hid (chkS l = 2) := by show _ = _; rw [HX.out, if_neg c3, if_neg c4]
    clear HX
    have u2 : ((U : Int) == 32768) = false := by simp; omega
    by_cases t1 : T = 1
    · subst t1
      have u1 : ((U : Int) == 16384) = false := by simp; omega
      clear c2
      go_enter Tryz.func116, Tryz.ntmps116
      go_wp2_with fail
      refine (xvalid_any _ l _ HS.out).mono ?_
      rintro e w1 ⟨rfl, rfl⟩
      rw [HQ.out]
      go_wp2_with fail
      refine (xused_any _ l _ HS.out HL.out).mono ?_
      rintro e w2 ⟨rfl, rfl⟩
      rw [← HU.out, ← HT.out]
      go_wp2
      go_ret2
      rw [HY.out, HQ.out]
      exact ⟨rfl, rfl⟩
    · have t1' : ((T : Int) == 1) = false := by simp; omega
      clear c2
      go_enter Tryz.func116, Tryz.ntmps116
      go_wp2_with fail
      refine (xvalid_any _ l _ HS.out).mono ?_
      rintro e w1 ⟨rfl, rfl⟩
      rw [HQ.out]
      go_wp2_with fail
      refine (xused_any _ l _ HS.out HL.out).mono ?_
      rintro e w2 ⟨rfl, rfl⟩
      rw [← HU.out, ← HT.out]
      go_wp2
      go_ret2
      rw [HY.out, HQ.out]
      exact ⟨rfl, rfl⟩

def outN (l : List Int) (n s : Nat) : List Int := (List.range l.length).map fun t => if 0 < ln l t ∧ (ln l t < n ∨ (ln l t = n ∧ t < s)) then (wd l t : Int) else 0

theorem outN_len (l : List Int) (n s : Nat) : (outN l n s).length = l.length := by simp [outN]

theorem outN_start (l : List Int) : outN l 1 0 = List.replicate l.length 0 := by
  apply List.ext_getElem
  · simp [outN]
  · intro i h1 h2
    simp only [outN, List.getElem_map, List.getElem_range, List.getElem_replicate]
    rw [if_neg (by omega)]

theorem outN_skip {l : List Int} {n s : Nat} (h : ln l s ≠ n) : outN l n (s + 1) = outN l n s := by
  unfold outN
  apply List.map_congr_left
  intro t _
  by_cases e : t = s
  · subst e
    by_cases c : 0 < ln l t ∧ (ln l t < n ∨ (ln l t = n ∧ t < t))
    · rw [if_pos c, if_pos (by omega)]
    · rw [if_neg c, if_neg (by omega)]
  · by_cases c : 0 < ln l t ∧ (ln l t < n ∨ (ln l t = n ∧ t < s))
    · rw [if_pos c, if_pos (by omega)]
    · rw [if_neg c, if_neg (by omega)]

theorem outN_step {l : List Int} {n s : Nat} (h : ln l s = n) (h0 : 0 < n) : outN l n (s + 1) = (outN l n s).set s (wd l s : Int) := by
  apply List.ext_getElem
  · simp [outN]
  · intro t h1 h2
    rw [List.getElem_set]
    simp only [outN, List.getElem_map, List.getElem_range]
    by_cases e : s = t
    · subst e
      rw [if_pos (by omega), if_pos rfl]
    · rw [if_neg e]
      by_cases c : 0 < ln l t ∧ (ln l t < n ∨ (ln l t = n ∧ t < s))
      · rw [if_pos c, if_pos (by omega)]
      · rw [if_neg c, if_neg (by omega)]

theorem outN_next {l : List Int} {n : Nat} : outN l (n + 1) 0 = outN l n l.length := by
  unfold outN
  apply List.map_congr_left
  intro t ht
  have ht' : t < l.length := List.mem_range.1 ht
  by_cases c : 0 < ln l t ∧ (ln l t < n ∨ (ln l t = n ∧ t < l.length))
  · rw [if_pos c, if_pos (by omega)]
  · rw [if_neg c, if_neg (by omega)]

theorem outN_end {l : List Int} (hl : Lens l) : outN l 16 0 = wds l := by
  unfold outN wds
  apply List.map_congr_left
  intro t _
  have := (hl.ln t).2
  by_cases c : 0 < ln l t
  · rw [if_pos (by omega)]
  · rw [if_neg (by omega)]
    have : ln l t = 0 := by omega
    simp [wd, this]

def Xst (w : World) (l : List Int) (n s : Nat) (wr : World) : Prop := wr.heap[w.heap.size]? = some (.cells ((outN l n s).map (Value.int .i64)).toArray 3 (0, 0)) ∧ Below w.heap.size w wr

theorem Xst.step {w wr : World} {l : List Int} {n s : Nat} (h : Xst w l n s wr) (hn : ln l s = n) (h0 : 0 < n) (x : Int) (hx : x = (wd l s : Int)) : Xst w l n (s + 1) (wr.setCell ⟨w.heap.size, s, none⟩ (.int .i64 x)) :=
  ⟨by rw [heap_setCell_same _ _ _ _ _ _ h.1, map_set, outN_step hn h0, hx], h.2.setCell (by show _ ≤ w.heap.size; omega) _⟩

theorem wd_at {l : List Int} (hl : Lens l) {s n : Nat} (hn : ln l s = n) (h0 : 0 < n) : wd l s = fi l n + (l.take s).count (n : Int) := by
  unfold wd rk
  rw [if_neg (by omega), (hl.ln s).1, hn]

set_option maxHeartbeats 1000000 in
theorem xcodes_any (v : Value) (l : List Int) (w : World) (h : SI w v l) :
    Calls Tryz.prog 117 #[v] w fun e w' => ∃ a c, e = .returned (.tuple #[.slice a (cdL l).length c, .int .i64 (cdE l)]) ∧ OI w' w.heap.size (.slice a (cdL l).length c) (cdL l) ∧ Below w.heap.size w w' := by
  have HS := hide h
  obtain ⟨ao, cap, rfl, hlc, hcm⟩ := h.open
  clear h
  by_cases h0 : chkE l = 0
  case neg =>
    have h1 : (chkE l == 0) = false := by simpa using h0
    have HE : Hid (cdE l = chkE l) := if_pos h0
    have HC : Hid (cdL l = []) := if_neg (by rw [HE.out]; exact h0)
    obtain ⟨q, HQ⟩ : ∃ q, Hid (q = chkE l) := ⟨_, rfl⟩
    obtain ⟨r, HR⟩ : ∃ q, Hid (q = chkS l) := ⟨_, rfl⟩
    rw [← HQ.out] at h0 h1 HE
    rw [HC.out, HE.out]
    go_enter Tryz.func117, Tryz.ntmps117
    go_wp2_with fail
    refine (xcheck_any _ l _ HS.out).mono ?_
    rintro e w1 ⟨rfl, rfl⟩
    rw [← HQ.out, ← HR.out]
    go_wp2
    go_ret2
    exact ⟨none, 0, rfl, World.ownsRow_nil _ _ _ _, Below.refl _ _⟩
  obtain ⟨hl, hs⟩ := chkE_zero h0
  have HL := hide hl
  have h288 := hl.1
  have HR := hide hs
  have HQ := hide h0
  clear hl hs h0
  by_cases h3 : shp l = 3
  · have HE : Hid (cdE l = 51) := by show _ = _; unfold cdE; rw [if_neg (by have := HQ.out; simp [this]), if_pos h3]
    have HC : Hid (cdL l = []) := if_neg (by rw [HE.out]; decide)
    rw [HC.out, HE.out]
    go_enter Tryz.func117, Tryz.ntmps117
    go_wp2_with fail
    refine (xcheck_any _ l _ HS.out).mono ?_
    rintro e w1 ⟨rfl, rfl⟩
    rw [HQ.out, HR.out, h3]
    go_wp2
    go_ret2
    exact ⟨none, 0, rfl, World.ownsRow_nil _ _ _ _, Below.refl _ _⟩
  · have HE : Hid (cdE l = 0) := by show _ = _; unfold cdE; rw [if_neg (by have := HQ.out; simp [this]), if_neg h3]
    have HC : Hid (cdL l = wds l) := if_pos HE.out
    obtain ⟨r, HR2⟩ : ∃ q, Hid (q = shp l) := ⟨_, rfl⟩
    rw [HC.out, HE.out, wds_len]
    rw [← HR2.out] at h3
    have h3' : (r == 3) = false := by simpa using h3
    go_enter Tryz.func117, Tryz.ntmps117
    go_wp2_with fail
    refine (xcheck_any _ l _ HS.out).mono ?_
    rintro e w1 ⟨rfl, rfl⟩
    rw [HQ.out, HR.out, ← HR2.out]
    go_wp2_with (at_make; refine wpList_mkI rfl _ _ rfl _ _ _ _ l.length l.length rfl rfl rfl rfl (Nat.le_refl _) (by omega) ?_)
    intro w2 hg hb1
    have HW : Hid (Xst w1 l 1 0 w2) := ⟨by rw [hg, outN_start]; simp, hb1⟩
    clear hg hb1
    go_wp2
    go_loopw [7, 8] (fun u i wr => ∃ n : Nat, n ≤ 15 ∧ i = .int .i64 ((n : Int) + 1) ∧ u = .int .i64 ((fi l n + cn l n : Nat) : Int) ∧ Hid (Xst w1 l (n + 1) 0 wr)) (fun _ i _ => 16 - (intOf i).toNat)
    case atStart => exact ⟨0, Nat.zero_le _, rfl, rfl, HW⟩
    case round =>
      clear HW
      obtain ⟨n, hn, rfl, rfl, HT⟩ := hrel
      have b1 := fi_top HL.out (n := n) hn
      have b2 : cn l n ≤ 288 := by have := cn_le l n; omega
      by_cases hlt : n < 15
      · have hlt' : (n : Int) + 1 ≤ 15 := by omega
        have HF : Hid (fi l (n + 1) = 2 * (fi l n + cn l n)) := rfl
        obtain ⟨z, HZ⟩ : ∃ z : Nat, Hid (z = fi l n + cn l n) := ⟨_, rfl⟩
        have bz : z ≤ 100000000 := by rw [HZ.out]; omega
        rw [← HZ.out] at HF ⊢
        clear b1 b2
        go_wp2
        go_loopw [7, 9] (fun u i wr => ∃ s : Nat, s ≤ l.length ∧ i = .int .i64 s ∧ u = .int .i64 ((2 * z + (l.take s).count ((n : Int) + 1) : Nat) : Int) ∧ Hid (Xst w1 l (n + 1) s wr)) (fun _ i _ => l.length - (intOf i).toNat)
        case atStart => exact ⟨0, Nat.zero_le _, rfl, by simp, HT⟩
        case round =>
          clear HT
          obtain ⟨s, hs, rfl, rfl, HT⟩ := hrel
          have bc : (l.take s).count ((n : Int) + 1) ≤ 288 := by
            have := List.count_le_length (a := (n : Int) + 1) (l := l.take s)
            rw [List.length_take] at this; omega
          by_cases hsl : s < l.length
          · have hsl' : (s : Int) < (l.length : Int) := by omega
            obtain ⟨b, o, rfl, hc⟩ := HS.out.get HT.out.2 hsl
            have hcs := count_take_succ l ((n : Int) + 1) hsl
            obtain ⟨q, HQn⟩ : ∃ q, Hid (ln l s = q) := ⟨_, rfl⟩
            rw [(HL.out.ln s).1, HQn.out] at hc hcs
            obtain ⟨y, HY⟩ : ∃ y : Nat, Hid (y = 2 * z + (l.take s).count ((n : Int) + 1)) := ⟨_, rfl⟩
            have by' : y ≤ 1000000000 := by rw [HY.out]; omega
            have HCS := hide hcs
            rw [← HY.out]
            clear hcs bc
            by_cases e : q = n + 1
            · subst e
              have HX := hide (HT.out.step HQn.out (by omega) y (by rw [wd_at HL.out HQn.out (by omega), HY.out, HF.out]; push_cast; rfl))
              have HCC : Hid (2 * z + (l.take (s + 1)).count ((n : Int) + 1) = y + 1) := by show _ = _; rw [HCS.out, if_pos (by push_cast; rfl), HY.out]; omega
              obtain ⟨c0, hc0⟩ : ∃ c0, wr.cell? ⟨w1.heap.size, s, none⟩ = some c0 := by
                rw [cell_of_row _ _ _ _ _ _ HT.out.1]
                have : s < (outN l (n + 1) s).length := by rw [outN_len]; exact hsl
                exact ⟨_, by simp [this]; rfl⟩
              have f0 : wr.frozen? ⟨w1.heap.size, s, none⟩ = false := frozen_of_row _ _ _ _ _ HT.out.1
              have hq : ((n + 1 : Nat) : Int) = (n : Int) + 1 := by push_cast; rfl
              rw [hq] at hc
              clear HT hq
              go_wp2
              go_roundw
              case rel => exact ⟨s + 1, by omega, by go_num, by rw [HCC.out]; push_cast; rfl, HX⟩
              case measure => simp [intOf]; omega
            · have HX : Hid (Xst w1 l (n + 1) (s + 1) wr) := ⟨by rw [outN_skip (by rw [HQn.out]; exact e)]; exact HT.out.1, HT.out.2⟩
              have HCC : Hid (2 * z + (l.take (s + 1)).count ((n : Int) + 1) = y) := by show _ = _; rw [HCS.out, if_neg (by omega), HY.out]; omega
              have e' : ((q : Int) == (n : Int) + 1) = false := by simp; omega
              have e2 : ¬ (q : Int) = (n : Int) + 1 := by omega
              clear HT
              go_wp2
              go_roundw
              case rel => exact ⟨s + 1, by omega, by go_num, by rw [HCC.out], HX⟩
              case measure => simp [intOf]; omega
          · obtain rfl : s = l.length := by omega
            have hsl' : ¬ (l.length : Int) < (l.length : Int) := by omega
            have HX : Hid (Xst w1 l (n + 1 + 1) 0 wr) := ⟨by rw [outN_next]; exact HT.out.1, HT.out.2⟩
            have HCC : Hid (2 * z + (l.take l.length).count ((n : Int) + 1) = fi l (n + 1) + cn l (n + 1)) := by
              show _ = _
              rw [List.take_of_length_le (Nat.le_refl _), HF.out]
              unfold cn
              rw [if_neg (by omega)]
              push_cast; rfl
            rw [HCC.out]
            clear HT bc
            go_wp2
            go_roundw
            case rel => exact ⟨n + 1, by omega, by go_num, rfl, HX⟩
            case measure => simp [intOf]; omega
      · obtain rfl : n = 15 := by omega
        have hlt' : ¬ ((15 : Nat) : Int) + 1 ≤ 15 := by omega
        go_wp2
        go_ret2
        refine ⟨_, _, rfl, ?_, HT.out.2⟩
        have e := HT.out.1
        rw [outN_end HL.out] at e
        have := OI.of_full (base := w1.heap.size) e (by omega) (by rw [wds_len]; unfold maxLen; omega)
        rwa [wds_len] at this
end Go.Proofs.YtmjdpfigkojolaaGreatDoor

namespace Go.Proofs.YtmjdpfigkojolaaGreatDoor
open Go.RowKit Go.Maps
set_option maxRecDepth 20000

end Go.Proofs.YtmjdpfigkojolaaGreatDoor

namespace Go.Proofs.YtmjdpfigkojolaaGreatDoor
open Go.RowKit Go.Maps
set_option maxRecDepth 20000

def fxl (s : Nat) : Int := if s < 144 then 8 else if s < 256 then 9 else if s < 280 then 7 else 8
def fxL (n : Nat) : List Int := (List.range n).map fxl

theorem fxL_len (n : Nat) : (fxL n).length = n := by simp [fxL]

theorem fxL_succ (n : Nat) : fxL (n + 1) = fxL n ++ [fxl n] := by simp [fxL, List.range_succ]

def fxc (n : Nat) : List Int := fxL n ++ List.replicate (288 - n) 0

theorem fxc_len {n : Nat} (h : n ≤ 288) : (fxc n).length = 288 := by unfold fxc; rw [List.length_append, fxL_len, List.length_replicate]; omega

theorem fxc_set {n : Nat} (h : n < 288) : (fxc n).set n (fxl n) = fxc (n + 1) := by
  unfold fxc
  rw [List.set_append_right _ _ (by rw [fxL_len]; omega), fxL_len, Nat.sub_self, fxL_succ]
  obtain ⟨m, hm⟩ : ∃ m, 288 - n = m + 1 := ⟨288 - n - 1, by omega⟩
  rw [hm, show 288 - (n + 1) = m by omega, List.replicate_succ]
  simp

def Fst (w : World) (n : Nat) (wr : World) : Prop := wr.heap[w.heap.size]? = some (.cells ((fxc n).map (Value.int .i64)).toArray 3 (0, 0)) ∧ Below w.heap.size w wr

theorem Fst.step {w wr : World} {n : Nat} (h : Fst w n wr) (hn : n < 288) (x : Int) (hx : x = fxl n) : Fst w (n + 1) (wr.setCell ⟨w.heap.size, n, none⟩ (.int .i64 x)) :=
  ⟨by rw [heap_setCell_same _ _ _ _ _ _ h.1, map_set, hx, fxc_set hn], h.2.setCell (by show _ ≤ w.heap.size; omega) _⟩

def Fresh (w : World) (l : List Int) (e : Ending) (w' : World) : Prop := ∃ a c, e = .returned (.slice a l.length c) ∧ OI w' w.heap.size (.slice a l.length c) l ∧ Below w.heap.size w w'

theorem fixedLit_any (w : World) : Calls Tryz.prog 67 #[] w fun e w' => Fresh w (fxL 288) e w' := by
  go_enter Tryz.func67, Tryz.ntmps67
  go_wp2_with (at_make; refine wpList_mkI rfl _ _ rfl _ _ _ _ 288 288 rfl rfl rfl rfl (Nat.le_refl _) (by omega) ?_)
  intro w2 hg hb1
  have HW : Hid (Fst w 0 w2) := ⟨by rw [hg]; unfold fxc fxL; simp, hb1⟩
  clear hg hb1
  go_wp2
  go_loopw [6] (fun i wr => ∃ n : Nat, n ≤ 288 ∧ i = .int .i64 n ∧ Hid (Fst w n wr)) (fun i _ => 288 - (intOf i).toNat)
  case atStart => exact ⟨0, Nat.zero_le _, rfl, HW⟩
  case round =>
    clear HW
    obtain ⟨n, hn, rfl, HT⟩ := hrel
    by_cases hlt : n < 288
    · have hlt' : (n : Int) < 288 := by omega
      obtain ⟨c0, hc0⟩ : ∃ c0, wr.cell? ⟨w.heap.size, n, none⟩ = some c0 := by
        rw [cell_of_row _ _ _ _ _ _ HT.out.1]
        have : n < (fxc n).length := by rw [fxc_len (by omega)]; exact hlt
        exact ⟨_, by simp [this]; rfl⟩
      have f0 : wr.frozen? ⟨w.heap.size, n, none⟩ = false := frozen_of_row _ _ _ _ _ HT.out.1
      by_cases h1 : n < 144
      · have h1' : (n : Int) < 144 := by omega
        have HX := hide (HT.out.step hlt 8 (by unfold fxl; rw [if_pos h1]))
        clear HT
        go_wp2
        go_roundw
        case rel => exact ⟨n + 1, by omega, by go_num, HX⟩
        case measure => simp [intOf]; omega
      · have h1' : ¬ (n : Int) < 144 := by omega
        by_cases h2 : n < 256
        · have h2' : (n : Int) < 256 := by omega
          have HX := hide (HT.out.step hlt 9 (by unfold fxl; rw [if_neg h1, if_pos h2]))
          clear HT
          go_wp2
          go_roundw
          case rel => exact ⟨n + 1, by omega, by go_num, HX⟩
          case measure => simp [intOf]; omega
        · have h2' : ¬ (n : Int) < 256 := by omega
          by_cases h3 : n < 280
          · have h3' : (n : Int) < 280 := by omega
            have HX := hide (HT.out.step hlt 7 (by unfold fxl; rw [if_neg h1, if_neg h2, if_pos h3]))
            clear HT
            go_wp2
            go_roundw
            case rel => exact ⟨n + 1, by omega, by go_num, HX⟩
            case measure => simp [intOf]; omega
          · have h3' : ¬ (n : Int) < 280 := by omega
            have HX := hide (HT.out.step hlt 8 (by unfold fxl; rw [if_neg h1, if_neg h2, if_neg h3]))
            clear HT
            go_wp2
            go_roundw
            case rel => exact ⟨n + 1, by omega, by go_num, HX⟩
            case measure => simp [intOf]; omega
    · obtain rfl : n = 288 := by omega
      have hlt' : ¬ ((288 : Nat) : Int) < 288 := by omega
      have HE : Hid (OI wr w.heap.size (.slice (some ⟨w.heap.size, 0, none⟩) (fxL 288).length 288) (fxL 288)) := by
        have e := HT.out.1
        rw [show fxc 288 = fxL 288 by unfold fxc; simp] at e
        have := OI.of_full (base := w.heap.size) e (by omega) (by rw [fxL_len]; unfold maxLen; omega)
        rw [fxL_len] at this ⊢
        exact this
      have HB := hide HT.out.2
      clear HT
      go_wp2
      go_ret
      refine ⟨_, _, ?_, HE.out, HB.out⟩
      rw [fxL_len]
      rfl

theorem xfixedLit_any (w : World) : Calls Tryz.prog 75 #[] w fun e w' => Fresh w (fxL 288) e w' := by
  go_enter Tryz.func75, Tryz.ntmps75
  go_wp2
  go_loopw [1, 2] (fun u i wr => ∃ n : Nat, n ≤ 288 ∧ i = .int .i64 n ∧ Hid (OI wr w.heap.size u (fxL n)) ∧ Hid (Below w.heap.size w wr)) (fun _ i _ => 288 - (intOf i).toNat)
  case atStart => exact ⟨0, Nat.zero_le _, rfl, World.ownsRow_nil _ _ _ _, Below.refl _ _⟩
  case round =>
    obtain ⟨n, hn, rfl, HO, HB⟩ := hrel
    have hBw := HB.out.size
    have hLl : (fxL n).length ≤ 288 := by rw [fxL_len]; exact hn
    obtain ⟨a1, p1, hu⟩ := HO.out.shape
    subst hu
    by_cases hlt : n < 288
    · have hlt' : (n : Int) < 288 := by omega
      obtain ⟨L, HL⟩ : ∃ L, Hid (L = fxL n) := ⟨_, rfl⟩
      have HSC : Hid (fxL (n + 1) = L ++ [fxl n]) := by show _ = _; rw [fxL_succ, HL.out]
      rw [← HL.out] at HO hLl ⊢
      have HNX : ∀ (y : Int) (v3 : Value) (w3 : World), y = fxl n → OI w3 w.heap.size v3 (L ++ [y]) → Grew (wr.alloc (.cells #[.int .i64 y] 3)) w3 (.slice a1 L.length p1) v3 → OI w3 w.heap.size v3 (fxL (n + 1)) ∧ Below w.heap.size w w3 := by
        rintro y v3 w3 rfl ho3 hgr3
        exact ⟨by rw [HSC.out]; exact ho3, (HB.out.alloc hBw _).grown hgr3.by (by simp; omega) (fun j hj => by have := HO.out.lt j hj; omega)⟩
      have HNXT := hide HNX
      clear HNX
      have HALC : Hid (∀ y : Int, OI (wr.alloc (.cells #[.int .i64 y] 3)) w.heap.size (.slice a1 L.length p1) L) := fun y => HO.out.alloc _
      have HSR : Hid (∀ y : Int, Src Tryz.prog 1 113 (.slice (some ⟨wr.heap.size, 0, none⟩) 1 1) ([y] : List Int).length (([y] : List Int).map (Value.int .i64)) (wr.alloc (.cells #[.int .i64 y] 3))) := fun y => built_srcI wr [y]
      by_cases h1 : n < 144
      · have h1' : (n : Int) < 144 := by omega
        have HE : Hid ((8 : Int) = fxl n) := by show _ = _; unfold fxl; rw [if_pos h1]
        go_wp2_with (at_builtin; refine wpList_appI rfl _ _ 113 rfl w.heap.size _ _ L [8] rfl (HALC.out 8) rfl (HSR.out 8) (by simp; omega) (by simp; omega) ?_)
        intro v3 w3 ho3 hgr3
        have HN := hide (HNXT.out 8 v3 w3 HE.out ho3 hgr3)
        clear ho3 hgr3
        go_wp2
        go_roundw
        case rel => exact ⟨n + 1, by omega, by go_num, HN.out.1, HN.out.2⟩
        case measure => simp [intOf]; omega
      · have h1' : ¬ (n : Int) < 144 := by omega
        by_cases h2 : n < 256
        · have h2' : (n : Int) < 256 := by omega
          have HE : Hid ((9 : Int) = fxl n) := by show _ = _; unfold fxl; rw [if_neg h1, if_pos h2]
          go_wp2_with (at_builtin; refine wpList_appI rfl _ _ 113 rfl w.heap.size _ _ L [9] rfl (HALC.out 9) rfl (HSR.out 9) (by simp; omega) (by simp; omega) ?_)
          intro v3 w3 ho3 hgr3
          have HN := hide (HNXT.out 9 v3 w3 HE.out ho3 hgr3)
          clear ho3 hgr3
          go_wp2
          go_roundw
          case rel => exact ⟨n + 1, by omega, by go_num, HN.out.1, HN.out.2⟩
          case measure => simp [intOf]; omega
        · have h2' : ¬ (n : Int) < 256 := by omega
          by_cases h3 : n < 280
          · have h3' : (n : Int) < 280 := by omega
            have HE : Hid ((7 : Int) = fxl n) := by show _ = _; unfold fxl; rw [if_neg h1, if_neg h2, if_pos h3]
            go_wp2_with (at_builtin; refine wpList_appI rfl _ _ 113 rfl w.heap.size _ _ L [7] rfl (HALC.out 7) rfl (HSR.out 7) (by simp; omega) (by simp; omega) ?_)
            intro v3 w3 ho3 hgr3
            have HN := hide (HNXT.out 7 v3 w3 HE.out ho3 hgr3)
            clear ho3 hgr3
            go_wp2
            go_roundw
            case rel => exact ⟨n + 1, by omega, by go_num, HN.out.1, HN.out.2⟩
            case measure => simp [intOf]; omega
          · have h3' : ¬ (n : Int) < 280 := by omega
            have HE : Hid ((8 : Int) = fxl n) := by show _ = _; unfold fxl; rw [if_neg h1, if_neg h2, if_neg h3]
            go_wp2_with (at_builtin; refine wpList_appI rfl _ _ 113 rfl w.heap.size _ _ L [8] rfl (HALC.out 8) rfl (HSR.out 8) (by simp; omega) (by simp; omega) ?_)
            intro v3 w3 ho3 hgr3
            have HN := hide (HNXT.out 8 v3 w3 HE.out ho3 hgr3)
            clear ho3 hgr3
            go_wp2
            go_roundw
            case rel => exact ⟨n + 1, by omega, by go_num, HN.out.1, HN.out.2⟩
            case measure => simp [intOf]; omega
    · obtain rfl : n = 288 := by omega
      have hlt' : ¬ ((288 : Nat) : Int) < 288 := by omega
      go_wp2
      go_ret
      exact ⟨_, _, rfl, HO.out, HB.out⟩

theorem rep_succ (n : Nat) : List.replicate (n + 1) (5 : Int) = List.replicate n 5 ++ [5] := by rw [List.replicate_succ']

theorem xfixedDist_any (w : World) : Calls Tryz.prog 76 #[] w fun e w' => Fresh w (List.replicate 32 5) e w' := by
  go_enter Tryz.func76, Tryz.ntmps76
  go_wp2
  go_loopw [1, 2] (fun u i wr => ∃ n : Nat, n ≤ 32 ∧ i = .int .i64 n ∧ Hid (OI wr w.heap.size u (List.replicate n 5)) ∧ Hid (Below w.heap.size w wr)) (fun _ i _ => 32 - (intOf i).toNat)
  case atStart => exact ⟨0, Nat.zero_le _, rfl, World.ownsRow_nil _ _ _ _, Below.refl _ _⟩
  case round =>
    obtain ⟨n, hn, rfl, HO, HB⟩ := hrel
    have hBw := HB.out.size
    have hLl : (List.replicate n (5 : Int)).length ≤ 32 := by rw [List.length_replicate]; exact hn
    obtain ⟨a1, p1, hu⟩ := HO.out.shape
    subst hu
    by_cases hlt : n < 32
    · have hlt' : (n : Int) < 32 := by omega
      obtain ⟨L, HL⟩ : ∃ L, Hid (L = List.replicate n (5 : Int)) := ⟨_, rfl⟩
      have HSC : Hid (List.replicate (n + 1) (5 : Int) = L ++ [5]) := by show _ = _; rw [rep_succ, HL.out]
      rw [← HL.out] at HO hLl ⊢
      have HALC : Hid (OI (wr.alloc (.cells #[.int .i64 5] 3)) w.heap.size (.slice a1 L.length p1) L) := HO.out.alloc _
      have HSR : Hid (Src Tryz.prog 1 113 (.slice (some ⟨wr.heap.size, 0, none⟩) 1 1) ([5] : List Int).length (([5] : List Int).map (Value.int .i64)) (wr.alloc (.cells #[.int .i64 5] 3))) := built_srcI wr [5]
      go_wp2_with (at_builtin; refine wpList_appI rfl _ _ 113 rfl w.heap.size _ _ L [5] rfl HALC.out rfl HSR.out (by simp; omega) (by simp; omega) ?_)
      intro v3 w3 ho3 hgr3
      have HN : Hid (OI w3 w.heap.size v3 (List.replicate (n + 1) 5) ∧ Below w.heap.size w w3) := by
        exact ⟨by rw [HSC.out]; exact ho3, (HB.out.alloc hBw _).grown hgr3.by (by simp; omega) (fun j hj => by have := HO.out.lt j hj; omega)⟩
      clear ho3 hgr3
      go_wp2
      go_roundw
      case rel => exact ⟨n + 1, by omega, by go_num, HN.out.1, HN.out.2⟩
      case measure => simp [intOf]; omega
    · obtain rfl : n = 32 := by omega
      have hlt' : ¬ ((32 : Nat) : Int) < 32 := by omega
      go_wp2
      go_ret
      exact ⟨_, _, rfl, HO.out, HB.out⟩
end Go.Proofs.YtmjdpfigkojolaaGreatDoor

namespace Go.Proofs.YtmjdpfigkojolaaGreatDoor
open Go.RowKit Go.Maps
set_option maxRecDepth 20000

theorem mul64_one (w : World) : Calls Tryz.prog 136 #[.int .u64 1, .int .u64 32] w fun e w' => e = .returned (.tuple #[.int .u64 0, .int .u64 32]) ∧ w' = w := by
  go_enter Tryz.func136, Tryz.ntmps136
  go_wp2
  go_ret2
  exact ⟨rfl, rfl⟩

theorem mul_one (w : World) : Calls Tryz.prog 112 #[.int .u64 1, .int .u64 32] w fun e w' => e = .returned (.tuple #[.int .u64 0, .int .u64 32]) ∧ w' = w := by
  go_enter Tryz.func112, Tryz.ntmps112
  go_wp2_with fail
  refine (mul64_one _).mono ?_
  rintro e w1 ⟨rfl, rfl⟩
  go_wp2
  go_ret2
  exact ⟨rfl, rfl⟩

def rpc (n : Nat) : List Value := List.replicate n (Value.int .i64 5) ++ List.replicate (32 - n) (Value.int .i64 0)

theorem rpc_len {n : Nat} (h : n ≤ 32) : (rpc n).length = 32 := by unfold rpc; rw [List.length_append, List.length_replicate, List.length_replicate]; omega

theorem rpc_next {n m : Nat} (h : n + m ≤ 32) : splice (rpc n) n (List.replicate m (Value.int .i64 5)) = rpc (n + m) := by
  unfold rpc splice
  rw [List.take_left' (by simp), List.length_replicate, List.drop_append, List.length_replicate, List.drop_of_length_le (by simp), List.drop_replicate]
  simp only [List.nil_append]
  rw [← List.append_assoc, List.replicate_append_replicate]
  congr 2
  omega

def Rst5 (w : World) (g n : Nat) (wr : World) : Prop := wr.heap[g]? = some (.cells (rpc n).toArray 3 (0, 0)) ∧ Below w.heap.size w wr

set_option maxHeartbeats 4000000 in
theorem repeat_any (w : World) (g0 : Nat) (hg0 : w.heap[g0]? = some (.cells #[.int .i64 5] 3 (0, 0))) :
    Calls Tryz.prog 87 #[.slice (some ⟨g0, 0, none⟩) 1 1, .int .i64 32] w fun e w' => Fresh w (List.replicate 32 5) e w' := by
  have HC := hide hg0
  have hlt0 : g0 < w.heap.size := (Array.getElem?_eq_some_iff.1 hg0).1
  clear hg0
  go_enter Tryz.func87, Tryz.ntmps87
  go_wp2_with fail
  refine (mul_one _).mono ?_
  rintro e w1 ⟨rfl, rfl⟩
  go_wp2_with (at_make; refine wpList_mkI rfl _ _ rfl _ _ _ _ 32 32 rfl rfl rfl rfl (Nat.le_refl _) (by omega) ?_)
  intro w2 hg hb1
  have HG : Hid (w2.heap[w1.heap.size]? = some (.cells (rpc 0).toArray 3 (0, 0))) := by show _ = _; rw [hg]; simp [rpc]
  have HB1 := hide hb1
  have HS0 : Hid (∀ j v, ([Value.int .i64 5] : List Value)[j]? = some v → w2.cell? ((⟨g0, 0, none⟩ : Addr).add j) = some v) := fun j v hj => by
    have hh : w2.heap[g0]? = some (.cells #[.int .i64 5] 3 (0, 0)) := (HB1.out.block g0 hlt0).trans HC.out
    rw [Addr.add_lit, cell_of_row _ _ _ _ _ _ hh]
    simpa using hj
  clear hg hb1
  have C3 : Hid (0 + ([Value.int .i64 5] : List Value).length ≤ (rpc 0).length) := by show _ ≤ _; rw [rpc_len (by omega)]; decide
  have C4 : Hid (∀ v ∈ ([Value.int .i64 5] : List Value), v.oneCell' = true) := by intro u hu; simp at hu; subst hu; rfl
  go_wp2_with (refine wpList_copy_gr rfl _ _ 113 113 rfl 3 Tryz.underlying113 sizeInt _ _ _ _ _ _ rfl rfl w1.heap.size 0 (rpc 0) 3 HG.out [.int .i64 5] rfl (fun _ => ⟨rfl, _, rfl, HS0.out⟩) C3.out C4.out ?_)
  intro w3 h3 hgr
  have HT0 : Hid (Rst5 w1 w1.heap.size 1 w3) := by
    refine ⟨by rw [h3.out]; rw [show ([Value.int .i64 5] : List Value) = List.replicate 1 (Value.int .i64 5) from rfl, rpc_next (by omega)], ?_⟩
    exact HB1.out.grown hgr HB1.out.size (fun k hk => by simp at hk; omega)
  clear h3 hgr HG HS0
  go_wp2
  go_loopw [8] (fun i wr => ∃ n : Nat, 1 ≤ n ∧ n ≤ 32 ∧ i = .int .i64 n ∧ Hid (Rst5 w1 w1.heap.size n wr)) (fun i _ => 32 - (intOf i).toNat)
  case atStart => exact ⟨1, Nat.le_refl _, by omega, rfl, HT0⟩
  case round =>
    clear HT0
    obtain ⟨n, hn1, hn, rfl, HT⟩ := hrel
    by_cases hlt : n < 32
    · have hlt' : (n : Int) < 32 := by omega
      have hnn : ¬ (32 : Int) < n := by omega
      have hn0 : (0 : Int) ≤ n := by omega
      obtain ⟨m, hm⟩ : ∃ m, m = Nat.min n (32 - n) := ⟨_, rfl⟩
      have hm1 : 1 ≤ m ∧ n + m ≤ 32 := by
        rw [hm]
        show 1 ≤ min n (32 - n) ∧ n + min n (32 - n) ≤ 32
        omega
      have HM := hide hm
      have HSRC : Hid (∀ j v, (List.replicate m (Value.int .i64 5))[j]? = some v → wr.cell? ((⟨w1.heap.size, 0, none⟩ : Addr).add j) = some v) := fun j v hj => by
        rw [Addr.add_lit, cell_of_row _ _ _ _ _ _ HT.out.1]
        have hjm : j < m := by
          have := (List.getElem?_eq_some_iff.1 hj).1
          simpa using this
        have hjn : j < n := by have : m ≤ n := by rw [HM.out]; exact Nat.min_le_left _ _
                               omega
        simp [hjm] at hj
        subst hj
        unfold rpc
        rw [Nat.zero_add, List.getElem?_toArray, List.getElem?_append_left (by simpa using hjn)]
        simp [hjn]
      have HNX : Hid (∀ w', Hid (w'.heap[w1.heap.size]? = some (.cells (splice (rpc n) n (List.replicate m (Value.int .i64 5))).toArray 3 (0, 0))) → wr.drew.grownBy w' (some w1.heap.size) → Rst5 w1 w1.heap.size (n + m) w') := fun w' h1 h2 => by
        refine ⟨by rw [h1.out, rpc_next hm1.2], ?_⟩
        have hb : Below w1.heap.size w1 wr.drew := below_drewN HT.out.2 1
        exact hb.grown h2 hb.size (fun k hk => by simp at hk; omega)
      clear hm
      have C1 : Hid ((List.replicate m (Value.int .i64 5)).length = Nat.min n (32 - n)) := by show _ = _; rw [List.length_replicate, HM.out]
      have C5 : Hid (n + (List.replicate m (Value.int .i64 5)).length ≤ (rpc n).length) := by show _ ≤ _; rw [rpc_len hn, List.length_replicate]; exact hm1.2
      have C6 : Hid (∀ v ∈ List.replicate m (Value.int .i64 5), v.oneCell' = true) := by intro u hu; obtain ⟨_, rfl⟩ := List.mem_replicate.1 hu; rfl
      have hne : ¬ (32 : Nat) = n := by omega
      have hw : IntKind.i64.wrap ((n : Int) + (m : Int)) = (n : Int) + m := by rw [IntKind.wrap_i64]; omega
      go_wp2_with fail
      go_region_law (refine step_copy_gr (by rfl) (.tmp 41) (.tmp 44) 113 113 (by rfl) 3 Tryz.underlying113 sizeInt (some ⟨w1.heap.size, n, none⟩) (some ⟨w1.heap.size, 0, none⟩) (32 - n) (32 - n) n 32 (by simp [Act.eval, Act.put]) (by simp [Act.eval, Act.put]) w1.heap.size n (rpc n) 3 HT.out.1 (List.replicate m (Value.int .i64 5)) C1.out (fun _ => ⟨rfl, _, rfl, HSRC.out⟩) C5.out C6.out ?_; intro w4 h4 hgr4; have HX := hide (HNX.out w4 h4 hgr4); clear h4 hgr4)
      clear HT HSRC HNX C1 C5 C6
      go_simp
      go_wp2
      go_roundw
      case rel => exact ⟨n + m, by omega, hm1.2, by go_num, HX⟩
      case measure => simp [intOf]; omega
    · obtain rfl : n = 32 := by omega
      have hlt' : ¬ ((32 : Nat) : Int) < 32 := by omega
      have HE : Hid (OI wr w1.heap.size (.slice (some ⟨w1.heap.size, 0, none⟩) (List.replicate 32 (5 : Int)).length 32) (List.replicate 32 5)) := by
        have e := HT.out.1
        rw [show rpc 32 = (List.replicate 32 (5 : Int)).map (Value.int .i64) by unfold rpc; simp] at e
        have := OI.of_full (base := w1.heap.size) e (by omega) (by rw [List.length_replicate]; unfold maxLen; omega)
        rw [List.length_replicate] at this ⊢
        exact this
      have HB := hide HT.out.2
      clear HT
      go_wp2
      go_ret
      refine ⟨_, _, ?_, HE.out, HB.out⟩
      first | rfl | (rw [List.length_replicate]; rfl)

theorem fixedDist_any (w : World) : Calls Tryz.prog 68 #[] w fun e w' => Fresh w (List.replicate 32 5) e w' := by
  have HG : Hid ((w.alloc (.cells #[.int .i64 5] 3)).heap[w.heap.size]? = some (.cells #[.int .i64 5] 3 (0, 0))) := heap_alloc_new w _
  have HB : Hid (Below w.heap.size w (w.alloc (.cells #[.int .i64 5] 3))) := (Below.refl _ _).alloc (Nat.le_refl _) _
  go_enter Tryz.func68, Tryz.ntmps68
  go_wp2_with fail
  refine (repeat_any _ _ HG.out).mono ?_
  rintro e w1 ⟨a, c, rfl, ho, hb⟩
  have HO := hide (ho.base HB.out.size)
  have HB1 := hide (HB.out.trans (hb.mono HB.out.size))
  clear ho hb
  go_wp2
  go_ret
  exact ⟨_, _, rfl, HO.out, HB1.out⟩
end Go.Proofs.YtmjdpfigkojolaaGreatDoor

namespace Go.Proofs.YtmjdpfigkojolaaGreatDoor
open Go.RowKit Go.Maps
set_option maxRecDepth 20000

theorem hfresh {W w w' : World} {xs : List ((Nat → Nat) × Thing)} (H : Herd W w xs) {l : List Int} {e : Ending} (h : Fresh w l e w') : ∃ a c K, e = .returned (.slice a l.length c) ∧ Herd W w' (xs ++ [(K, ti (.slice a l.length c) l)]) := by
  obtain ⟨a, c, rfl, ho, hb⟩ := h
  obtain ⟨K, hh⟩ := H.ilist hb ho
  exact ⟨a, c, K, rfl, hh⟩

theorem hflit {W w : World} {xs : List ((Nat → Nat) × Thing)} (H : Herd W w xs) {L : List Int} (hL : L = fxL 288) :
    Calls Tryz.prog 67 #[] w fun e w' => ∃ a c K, e = .returned (.slice a L.length c) ∧ Herd W w' (xs ++ [(K, ti (.slice a L.length c) L)]) := by
  subst hL
  exact (fixedLit_any w).mono fun e w' h => hfresh H h

theorem hxflit {W w : World} {xs : List ((Nat → Nat) × Thing)} (H : Herd W w xs) {L : List Int} (hL : L = fxL 288) :
    Calls Tryz.prog 75 #[] w fun e w' => ∃ a c K, e = .returned (.slice a L.length c) ∧ Herd W w' (xs ++ [(K, ti (.slice a L.length c) L)]) := by
  subst hL
  exact (xfixedLit_any w).mono fun e w' h => hfresh H h

theorem hfdist {W w : World} {xs : List ((Nat → Nat) × Thing)} (H : Herd W w xs) {D : List Int} (hD : D = List.replicate 32 5) :
    Calls Tryz.prog 68 #[] w fun e w' => ∃ a c K, e = .returned (.slice a D.length c) ∧ Herd W w' (xs ++ [(K, ti (.slice a D.length c) D)]) := by
  subst hD
  exact (fixedDist_any w).mono fun e w' h => hfresh H h

theorem hxfdist {W w : World} {xs : List ((Nat → Nat) × Thing)} (H : Herd W w xs) {D : List Int} (hD : D = List.replicate 32 5) :
    Calls Tryz.prog 76 #[] w fun e w' => ∃ a c K, e = .returned (.slice a D.length c) ∧ Herd W w' (xs ++ [(K, ti (.slice a D.length c) D)]) := by
  subst hD
  exact (xfixedDist_any w).mono fun e w' h => hfresh H h

end Go.Proofs.YtmjdpfigkojolaaGreatDoor

namespace Go.Proofs.YtmjdpfigkojolaaGreatDoor
open Go.RowKit Go.Maps
set_option maxRecDepth 20000
set_option linter.unusedVariables false

abbrev flt (e : Int) : Ending := .panicked [{ v := .iface 83 (.agg #[.int .i64 e]), recovered := false }]
def Off (W : World) (e : Int) (en : Ending) (w' : World) : Prop := en = flt e ∧ Below W.heap.size W w'

def txO (r : Nat) (a : Option Addr) (n c : Nat) (L : Nat) (dn : Bool) (fl fd : Option Addr) : Obj := .cells #[.pointer (some ⟨r, 0, none⟩), .slice a n c, .int .i64 L, .bool dn, .pointer fl, .pointer fd] 57

def Fx (ys : List ((Nat → Nat) × Thing)) (fl fd : Option Addr) : Prop :=
  (fl = none ∧ fd = none) ∨ ∃ (gl gd i j : Nat) (Kl Kd : Nat → Nat), fl = some ⟨gl, 0, none⟩ ∧ fd = some ⟨gd, 0, none⟩ ∧ ys[i]? = some (Kl, td gl FL) ∧ ys[j]? = some (Kd, td gd FD)

def TX (W w : World) (g r : Nat) (row : List Int) (p L : Nat) (out : List Int) (dn : Bool) (ys : List ((Nat → Nat) × Thing)) : Prop :=
  ∃ Kt Kr Ko a c fl fd, Herd W w ((Kt, tb g (txO r a out.length c L dn fl fd)) :: (Kr, tr r row p) :: (Ko, tl (.slice a out.length c) out) :: ys) ∧ Fx ys fl fd ∧ out.length ≤ L ∧ L ≤ 16777216

def Bel (W : World) (ys : List ((Nat → Nat) × Thing)) (w' : World) : Prop := Below W.heap.size W w' ∧ ∀ d, d ∈ ys → d.2.P w' d.1
def Ofg (W : World) (ys : List ((Nat → Nat) × Thing)) (e : Int) (en : Ending) (w' : World) : Prop := en = flt e ∧ Bel W ys w'
theorem Ofg.off {W w' : World} {ys : List ((Nat → Nat) × Thing)} {e : Int} {en : Ending} (h : Ofg W ys e en w') : Off W e en w' := ⟨h.1, h.2.1⟩
theorem Bel.of {W w' : World} {xs ys : List ((Nat → Nat) × Thing)} (H : Herd W w' xs) (hs : ∀ d, d ∈ ys → d ∈ xs) : Bel W ys w' :=
  ⟨H.bel, fun d hd => by obtain ⟨i, hi⟩ := List.getElem?_of_mem (hs d hd); exact H.rep i d hi⟩
theorem Bel.sub {W w' : World} {xs ys : List ((Nat → Nat) × Thing)} (h : Bel W xs w') (hs : ∀ d, d ∈ ys → d ∈ xs) : Bel W ys w' := ⟨h.1, fun d hd => h.2 d (hs d hd)⟩
theorem Bel.low {W w w' : World} {ys : List ((Nat → Nat) × Thing)} (h : Bel W ys w) (hb : Below w.heap.size w w') : Bel W ys w' :=
  ⟨h.1.trans (hb.mono h.1.size), fun d hd => d.2.far (h.2 d hd) hb.size fun k hk => hb.block k (d.2.sup (h.2 d hd) k hk)⟩
theorem Ofg.of {W w' : World} {a b c : (Nat → Nat) × Thing} {ys : List ((Nat → Nat) × Thing)} {e : Int} {en : Ending} (h : en = flt e) (H : Herd W w' (a :: b :: c :: ys)) : Ofg W ys e en w' := ⟨h, Bel.of H fun d hd => by simp [hd]⟩
theorem TX.bel2 {W w : World} {g r : Nat} {row : List Int} {p L : Nat} {out : List Int} {dn : Bool} {ys : List ((Nat → Nat) × Thing)} (h : TX W w g r row p L out dn ys) : Bel W ys w := by
  obtain ⟨Kt, Kr, Ko, a, c, fl, fd, H, k⟩ := h
  exact Bel.of H fun d hd => by simp [hd]

theorem Off.of {W w' : World} {xs : List ((Nat → Nat) × Thing)} {e : Int} {en : Ending} (h : en = flt e) (H : Herd W w' xs) : Off W e en w' := ⟨h, H.bel⟩

theorem txO_cells {w : World} {g r : Nat} {a : Option Addr} {n c L : Nat} {dn : Bool} {fl fd : Option Addr} (h : w.heap[g]? = some (txO r a n c L dn fl fd)) :
    w.cell? ⟨g, 0, none⟩ = some (.pointer (some ⟨r, 0, none⟩)) ∧ w.cell? ⟨g, 1, none⟩ = some (.slice a n c) ∧ w.cell? ⟨g, 2, none⟩ = some (.int .i64 L) ∧ w.cell? ⟨g, 3, none⟩ = some (.bool dn) ∧ w.cell? ⟨g, 4, none⟩ = some (.pointer fl) ∧ w.cell? ⟨g, 5, none⟩ = some (.pointer fd) := by
  unfold txO at h
  refine ⟨?_, ?_, ?_, ?_, ?_, ?_⟩ <;> (unfold World.cell?; rw [h]; rfl)
theorem txO_free {w : World} {g r : Nat} {a : Option Addr} {n c L : Nat} {dn : Bool} {fl fd : Option Addr} (h : w.heap[g]? = some (txO r a n c L dn fl fd)) (k : Nat) : w.frozen? ⟨g, k, none⟩ = false := by
  unfold txO at h
  unfold World.frozen?; rw [h]; rfl

theorem TX.below {W w w' : World} {g r : Nat} {row : List Int} {p L : Nat} {out : List Int} {dn : Bool} {ys : List ((Nat → Nat) × Thing)} (h : TX W w g r row p L out dn ys) (hb : Below w.heap.size w w') : TX W w' g r row p L out dn ys := by
  obtain ⟨Kt, Kr, Ko, a, c, fl, fd, H, k⟩ := h
  exact ⟨Kt, Kr, Ko, a, c, fl, fd, H.below hb, k⟩

theorem TX.bel {W w : World} {g r : Nat} {row : List Int} {p L : Nat} {out : List Int} {dn : Bool} {ys : List ((Nat → Nat) × Thing)} (h : TX W w g r row p L out dn ys) : Below W.heap.size W w := by
  obtain ⟨Kt, Kr, Ko, a, c, fl, fd, H, k⟩ := h
  exact H.bel

theorem TX.rd {W w : World} {g r : Nat} {row : List Int} {p L : Nat} {out : List Int} {dn : Bool} {ys : List ((Nat → Nat) × Thing)} (h : TX W w g r row p L out dn ys) : Bit row ∧ p ≤ row.length ∧ row.length ≤ 268435456 ∧ row.length % 8 = 0 := by
  obtain ⟨Kt, Kr, Ko, a, c, fl, fd, H, k⟩ := h
  have hR : Rp w Kr r row p := H.rep 1 _ rfl
  exact ⟨hR.bit, hR.le⟩

theorem giveUp_any (e : Int) (w : World) : Calls Tryz.prog 37 #[.int .i64 e] w fun en w' => en = flt e ∧ w' = w := by
  go_enter Tryz.func37, Tryz.ntmps37
  go_wp2
  exact ⟨rfl, rfl, rfl⟩

theorem take_ok8 {row : List Int} {p n : Nat} (hn : n ≤ 32) : (p + n ≤ row.length → takeE row p n = 0 ∧ takeV row p n = ahead row p n ∧ takeP row p n = p + n) ∧ (row.length < p + n → takeE row p n ≠ 0 ) := by
  have hc : Cnt (n : Int) := ⟨by omega, by omega⟩
  constructor
  · intro h
    have h2 : takeOk row p n := ⟨hc, by omega⟩
    refine ⟨?_, ?_, ?_⟩
    · unfold takeE; rw [if_pos hc, if_pos (by omega)]
    · unfold takeV; rw [if_pos h2]; simp
    · unfold takeP; rw [if_pos h2]; simp
  · intro h
    unfold takeE; rw [if_pos hc, if_neg (by omega)]; decide

set_option maxHeartbeats 1000000 in
theorem htk {W w : World} {g r : Nat} {row : List Int} {p L : Nat} {out : List Int} {dn : Bool} {ys : List ((Nat → Nat) × Thing)} (H : TX W w g r row p L out dn ys) (n : Nat) (hn : n ≤ 32) :
    Calls Tryz.prog 40 #[.pointer (some ⟨g, 0, none⟩), .int .i64 n] w fun en w' => (p + n ≤ row.length ∧ en = .returned (.int .i64 (ahead row p n)) ∧ TX W w' g r row (p + n) L out dn ys) ∨ (row.length < p + n ∧ Ofg W ys 80 en w') := by
  have hbit := H.rd.1
  obtain ⟨Kt, Kr, Ko, a, c, fl, fd, HH, hk⟩ := H
  have ht : w.heap[g]? = some (txO r a out.length c L dn fl fd) := (HH.rep 0 _ rfl).1
  obtain ⟨c0, c1, c2, c3, c4, c5⟩ := txO_cells ht
  have HT := hide (htake HH 1 rfl n)
  have HK := hide hk
  have HTO := hide (take_ok8 (row := row) (p := p) hn)
  have HAB := hide (ahead_bound hbit p n)
  clear HH ht c1 c2 c3 c4 c5 hbit hk
  go_enter Tryz.func40, Tryz.ntmps40
  go_wp2_with fail
  refine HT.out.mono ?_
  rintro e w1 ⟨rfl, h1⟩
  simp only [List.set_cons_succ, List.set_cons_zero] at h1
  have HX := hide h1
  clear h1 c0
  by_cases hp : p + n ≤ row.length
  · obtain ⟨e1, e2, e3⟩ := HTO.out.1 hp
    rw [e1, e2]
    rw [e3] at HX
    obtain ⟨v, HV⟩ : ∃ v, Hid (v = ahead row p n) := ⟨_, rfl⟩
    have hb0 : 0 ≤ v := by rw [HV.out]; exact HAB.out.1
    have hb1 : v < 4294967296 := by rw [HV.out]; exact Int.lt_of_lt_of_le HAB.out.2 (pow_le (b := 32) hn)
    rw [← HV.out]
    clear e1 e2 e3
    go_wp2
    go_ret
    exact .inl ⟨hp, by rw [← HV.out]; rfl, Kt, Kr, Ko, a, c, fl, fd, HX.out, HK.out⟩
  · have hq : row.length < p + n := by omega
    have hne := HTO.out.2 hq
    have hne' : (takeE row p n != 0) = true := by simpa using hne
    obtain ⟨E, HE⟩ : ∃ E, Hid (E = takeE row p n) := ⟨_, rfl⟩
    rw [← HE.out] at hne' hne ⊢
    obtain ⟨V, HV⟩ : ∃ V, Hid (V = takeV row p n) := ⟨_, rfl⟩
    rw [← HV.out]
    go_wp2_with fail
    refine (giveUp_any 80 _).mono ?_
    rintro e w2 ⟨rfl, rfl⟩
    go_wp2
    exact ⟨rfl, .inr ⟨hq, Ofg.of rfl HX.out⟩⟩
end Go.Proofs.YtmjdpfigkojolaaGreatDoor

