import Derived.Test.YtmjdpfigkojolaaGreatDoorG09Ifb
import Derived.Test.YtmjdpfigkojolaaGreatDoorG10Ifi
namespace Go.Proofs.YtmjdpfigkojolaaGreatDoor
open Go.RowKit Go.Maps
set_option maxRecDepth 20000
set_option linter.unusedVariables false

theorem nx_lt {l row : List Int} {p : Nat} (hd : dcE l = 0) (h : nxE l row p = 0) : nxS l row p < l.length ∧ p < nxP l row p ∧ nxP l row p ≤ row.length := by
  have hl := (dcE_zero hd).1
  have hfb : fdB l (rowAt row p) = true := by
    unfold nxE at h
    by_cases c : fdB l (rowAt row p) = true
    · exact c
    · rw [if_neg c] at h; omega
  have hlen : p + ln l (fdS l (rowAt row p)) ≤ row.length := by
    unfold nxE at h
    rw [if_pos hfb] at h
    by_cases c : p + ln l (fdS l (rowAt row p)) ≤ row.length
    · exact c
    · rw [if_neg c] at h; omega
  have hh := (fd_has hl hfb).1
  have h1 := hh.1
  have h2 := hh.2
  unfold nxS nxP
  rw [if_pos h, if_pos h]
  omega

theorem sy_nx {l row : List Int} {p : Nat} (h : syE l row p = 0) : nxE l row p = 0 := by
  unfold syE at h
  by_cases c : nxE l row p = 0
  · exact c
  · rw [if_neg c] at h
    split at h <;> omega

theorem td_ok {W w : World} {xs : List ((Nat → Nat) × Thing)} (H : Herd W w xs) {i : Nat} {K : Nat → Nat} {gd : Nat} {l : List Int} (hi : xs[i]? = some (K, td gd l)) : dcE l = 0 := by
  have h : Dp w K gd l := H.rep i _ hi
  exact h.ok

theorem TX.dok {W w : World} {g r : Nat} {row : List Int} {p L : Nat} {out : List Int} {dn : Bool} {ys : List ((Nat → Nat) × Thing)} (H : TX W w g r row p L out dn ys) {i : Nat} {K : Nat → Nat} {gd : Nat} {l : List Int} (hi : ys[i]? = some (K, td gd l)) : dcE l = 0 := by
  obtain ⟨Kt, Kr, Ko, a, c, fl, fd, HH, hk⟩ := H
  exact td_ok HH (i := i + 3) (by simpa using hi)

theorem ahead_le {row : List Int} (hb : Bit row) (q : Nat) {n m : Nat} (h : n ≤ m) : ahead row q n < 2 ^ m := Int.lt_of_lt_of_le (ahead_bound hb q n).2 (pow_le h)

theorem lnBle : ∀ s : Fin 286, lnB s.val ≤ 258 := by decide
theorem dsBle : ∀ s : Fin 30, dsB s.val ≤ 24577 ∧ 1 ≤ dsB s.val := by decide

set_option maxHeartbeats 1000000 in
theorem hlength {W w : World} {g r : Nat} {row : List Int} {p L : Nat} {out : List Int} {dn : Bool} {ys : List ((Nat → Nat) × Thing)} (H : TX W w g r row p L out dn ys) (s : Nat) (h0 : 257 ≤ s) (h1 : s ≤ 287) :
    Calls Tryz.prog 63 #[.pointer (some ⟨g, 0, none⟩), .int .i64 s] w fun en w' => (lgE s row p = 0 ∧ en = .returned (.int .i64 (lgV s row p)) ∧ TX W w' g r row (lgP s p) L out dn ys) ∨ (lgE s row p ≠ 0 ∧ Ofg W ys (lgE s row p) en w') := by
  have HBL := hide H.bel2
  have HBT := hide H.rd.1
  have HH := hide H
  have HL := hide (itLen_any s h0 h1 w)
  clear H
  go_enter Tryz.func63, Tryz.ntmps63
  go_wp2_with fail
  refine HL.out.mono ?_
  rintro e w1 ⟨rfl, ⟨hs, rfl⟩ | ⟨hs, rfl⟩⟩
  · obtain ⟨B, HB⟩ : ∃ B : Nat, Hid (B = lnB s) := ⟨_, rfl⟩
    obtain ⟨F, HF⟩ : ∃ F : Nat, Hid (F = lnF s) := ⟨_, rfl⟩
    have hF5 : F ≤ 5 := by rw [HF.out]; exact lnFle hs
    have hB : B ≤ 258 := by rw [HB.out]; exact lnBle ⟨s, by omega⟩
    have HT := hide (htk HH.out F (by omega))
    rw [← HB.out, ← HF.out]
    go_wp2_with fail
    refine HT.out.mono ?_
    rintro e w2 (⟨hp, rfl, h2⟩ | ⟨hp, rfl, h2⟩)
    · obtain ⟨v, HV⟩ : ∃ v, Hid (v = ahead row p F) := ⟨_, rfl⟩
      have hv0 : 0 ≤ v := by rw [HV.out]; exact (ahead_bound HBT.out p F).1
      have hv1 : v < 32 := by rw [HV.out]; exact ahead_le HBT.out p (m := 5) hF5
      rw [← HV.out]
      have HX := hide h2
      clear h2
      go_wp2
      go_ret
      refine .inl ⟨by unfold lgE; rw [if_neg (by omega), if_neg (by rw [← HF.out]; omega)], ?_, ?_⟩
      · have e : ((lgV s row p : Nat) : Int) = (B : Int) + v := by
          unfold lgV
          rw [← HB.out, ← HF.out, ← HV.out]
          omega
        rw [e]; rfl
      · unfold lgP; rw [← HF.out]; exact HX.out
    · have HX := hide h2
      clear h2
      go_wp2
      have e : lgE s row p = 80 := by unfold lgE; rw [if_neg (by omega), if_pos (by rw [← HF.out]; exact hp)]
      rw [e]
      exact ⟨rfl, .inr ⟨by decide, rfl, HX.out⟩⟩
  · go_wp2_with fail
    refine (giveUp_any 83 _).mono ?_
    rintro e w2 ⟨rfl, rfl⟩
    go_wp2
    have e : lgE s row p = 83 := by unfold lgE; rw [if_pos hs]
    rw [e]
    exact ⟨rfl, .inr ⟨by decide, rfl, HBL.out⟩⟩

theorem hdist_no {W w : World} {g r : Nat} {row : List Int} {p L : Nat} {out : List Int} {dn : Bool} {ys : List ((Nat → Nat) × Thing)} (H : TX W w g r row p L out dn ys) {d : List Int} (hd : dcE d ≠ 0) :
    Calls Tryz.prog 65 #[.pointer (some ⟨g, 0, none⟩), .pointer none] w fun en w' => dtE d row p ≠ 0 ∧ Ofg W ys (dtE d row p) en w' := by
  have HBL := hide H.bel2
  clear H
  go_enter Tryz.func65, Tryz.ntmps65
  go_wp2_with fail
  refine (giveUp_any 83 _).mono ?_
  rintro e w2 ⟨rfl, rfl⟩
  go_wp2
  have e : dtE d row p = 83 := by unfold dtE; rw [if_pos hd]
  rw [e]
  exact ⟨rfl, by decide, rfl, HBL.out⟩

set_option maxHeartbeats 1000000 in
theorem hdist {W w : World} {g r : Nat} {row : List Int} {p L : Nat} {out : List Int} {dn : Bool} {ys : List ((Nat → Nat) × Thing)} (H : TX W w g r row p L out dn ys) (i : Nat) {K : Nat → Nat} {gd : Nat} {d : List Int} (hi : ys[i]? = some (K, td gd d)) (hdl : d.length ≤ 32) :
    Calls Tryz.prog 65 #[.pointer (some ⟨g, 0, none⟩), .pointer (some ⟨gd, 0, none⟩)] w fun en w' => (dtE d row p = 0 ∧ en = .returned (.int .i64 (dtV d row p)) ∧ TX W w' g r row (dtP d row p) L out dn ys) ∨ (dtE d row p ≠ 0 ∧ Ofg W ys (dtE d row p) en w') := by
  have hd0 := H.dok hi
  have HD0 := hide hd0
  have HBT := hide H.rd.1
  have HS := hide (hsym H i hi)
  clear H hi hd0
  go_enter Tryz.func65, Tryz.ntmps65
  go_wp2_with fail
  refine HS.out.mono ?_
  rintro e w1 (⟨hs, rfl, h1⟩ | ⟨hs, rfl, h1⟩)
  case inr =>
    have HX := hide h1
    clear h1
    obtain ⟨E, HE⟩ : ∃ E, Hid (E = syE d row p) := ⟨_, rfl⟩
    rw [← HE.out] at hs ⊢
    go_wp2
    have e : dtE d row p = E := by unfold dtE; rw [if_neg (by simp [HD0.out]), if_pos (by rw [← HE.out]; exact hs), ← HE.out]
    rw [e]
    exact ⟨rfl, .inr ⟨hs, rfl, HX.out⟩⟩
  have hn := nx_lt HD0.out (sy_nx hs)
  obtain ⟨S, HSS⟩ : ∃ S : Nat, Hid (S = nxS d row p) := ⟨_, rfl⟩
  obtain ⟨P, HP⟩ : ∃ P : Nat, Hid (P = nxP d row p) := ⟨_, rfl⟩
  rw [← HSS.out] at hn ⊢
  rw [← HP.out] at h1
  have hS : S ≤ 31 := by omega
  have HBL := hide h1.bel2
  have HH := hide h1
  have HL := hide (itDist_any S hS w1)
  have HS0 := hide hs
  clear h1 hn hs HS
  go_wp2_with fail
  refine HL.out.mono ?_
  rintro e w2 ⟨rfl, ⟨hs, rfl⟩ | ⟨hs, rfl⟩⟩
  · obtain ⟨B, HB⟩ : ∃ B : Nat, Hid (B = dsB S) := ⟨_, rfl⟩
    obtain ⟨F, HF⟩ : ∃ F : Nat, Hid (F = dsF S) := ⟨_, rfl⟩
    have hF5 : F ≤ 13 := by rw [HF.out]; exact dsFle hs
    have hB : B ≤ 24577 := by rw [HB.out]; exact (dsBle ⟨S, by omega⟩).1
    have HT := hide (htk HH.out F (by omega))
    rw [← HB.out, ← HF.out]
    go_wp2_with fail
    refine HT.out.mono ?_
    rintro e w3 (⟨hp, rfl, h2⟩ | ⟨hp, rfl, h2⟩)
    · obtain ⟨v, HV⟩ : ∃ v, Hid (v = ahead row P F) := ⟨_, rfl⟩
      have hv0 : 0 ≤ v := by rw [HV.out]; exact (ahead_bound HBT.out P F).1
      have hv1 : v < 8192 := by rw [HV.out]; exact ahead_le HBT.out P (m := 13) hF5
      rw [← HV.out]
      have HX := hide h2
      clear h2
      go_wp2
      go_ret
      refine .inl ⟨by unfold dtE; rw [if_neg (by simp [HD0.out]), if_neg (by simp [HS0.out]), ← HSS.out, ← HP.out, if_neg (by omega), if_neg (by rw [← HF.out]; omega)], ?_, ?_⟩
      · have e : ((dtV d row p : Nat) : Int) = (B : Int) + v := by
          unfold dtV
          rw [← HSS.out, ← HP.out, ← HB.out, ← HF.out, ← HV.out]
          omega
        rw [e]; rfl
      · unfold dtP; rw [← HSS.out, ← HP.out, ← HF.out]; exact HX.out
    · have HX := hide h2
      clear h2
      go_wp2
      have e : dtE d row p = 80 := by unfold dtE; rw [if_neg (by simp [HD0.out]), if_neg (by simp [HS0.out]), ← HSS.out, ← HP.out, if_neg (by omega), if_pos (by rw [← HF.out]; exact hp)]
      rw [e]
      exact ⟨rfl, .inr ⟨by decide, rfl, HX.out⟩⟩
  · go_wp2_with fail
    refine (giveUp_any 83 _).mono ?_
    rintro e w3 ⟨rfl, rfl⟩
    go_wp2
    have e : dtE d row p = 83 := by unfold dtE; rw [if_neg (by simp [HD0.out]), if_neg (by simp [HS0.out]), ← HSS.out, if_pos hs]
    rw [e]
    exact ⟨rfl, .inr ⟨by decide, rfl, HBL.out⟩⟩
end Go.Proofs.YtmjdpfigkojolaaGreatDoor

namespace Go.Proofs.YtmjdpfigkojolaaGreatDoor
open Go.RowKit Go.Maps
set_option maxRecDepth 20000
set_option linter.unusedVariables false

def per (pre : List Int) (u : Nat → Int) (D : Nat) : List Int := pre ++ (List.range D).map u

theorem per_len (pre : List Int) (u : Nat → Int) (D : Nat) : (per pre u D).length = pre.length + D := by simp [per]

theorem per_succ (pre : List Int) (u : Nat → Int) (D : Nat) : per pre u (D + 1) = per pre u D ++ [u D] := by simp [per, List.range_succ]

theorem per_get (pre : List Int) (u : Nat → Int) {D i : Nat} (h : i < D) : (per pre u D).getD (pre.length + i) 0 = u i := by
  unfold per
  rw [List.getD_eq_getElem?_getD, List.getElem?_append_right (by omega)]
  simp [h]

theorem cpy_per {pre : List Int} {u : Nat → Int} {d : Nat} (hd : 0 < d) (hu : ∀ i, u (i + d) = u i) : ∀ (n D : Nat), d ≤ D → cpy d n (per pre u D) = per pre u (D + n)
  | 0, D, h => rfl
  | n + 1, D, h => by
    show cpy d n (per pre u D ++ [(per pre u D).getD ((per pre u D).length - d) 0]) = _
    have e : (per pre u D).length - d = pre.length + (D - d) := by rw [per_len]; omega
    have e2 : u (D - d) = u D := by rw [← hu (D - d)]; congr 1; omega
    rw [e, per_get _ _ (by omega), e2, ← per_succ, cpy_per hd hu n (D + 1) (by omega)]
    congr 1; omega

theorem per_mul {u : Nat → Int} {d : Nat} (hu : ∀ i, u (i + d) = u i) (i : Nat) : ∀ t, u (i + t * d) = u i
  | 0 => by simp
  | t + 1 => by rw [show i + (t + 1) * d = (i + t * d) + d by rw [Nat.succ_mul]; omega, hu, per_mul hu i t]

theorem per_turn {pre : List Int} {u : Nat → Int} {d t n : Nat} (hu : ∀ i, u (i + d) = u i) (hn : n ≤ t * d) : per pre u (t * d) ++ ((per pre u (t * d)).drop pre.length).take n = per pre u (t * d + n) := by
  have e : ((per pre u (t * d)).drop pre.length).take n = (List.range n).map u := by
    unfold per
    rw [List.drop_left, ← List.map_take, List.take_range, Nat.min_eq_left hn]
  rw [e]
  unfold per
  rw [List.append_assoc, List.range_add, List.map_append, List.map_map]
  congr 2
  apply List.map_congr_left
  intro i _
  show u i = u (t * d + i)
  rw [Nat.add_comm, per_mul hu]

theorem per_start {out : List Int} {d : Nat} (hd : 0 < d) (h : d ≤ out.length) : out = per (out.take (out.length - d)) (fun i => out.getD (out.length - d + i % d) 0) d := by
  unfold per
  apply List.ext_getElem?
  intro i
  by_cases c : i < out.length - d
  · rw [List.getElem?_append_left (by rw [List.length_take]; omega), List.getElem?_take_of_lt c]
  · by_cases c2 : i < out.length
    · rw [List.getElem?_append_right (by rw [List.length_take]; omega), List.length_take, Nat.min_eq_left (by omega)]
      have hi : i - (out.length - d) < d := by omega
      rw [List.getElem?_map, List.getElem?_range hi]
      show out[i]? = some (out.getD (out.length - d + (i - (out.length - d)) % d) 0)
      rw [Nat.mod_eq_of_lt hi, show out.length - d + (i - (out.length - d)) = i by omega]
      simp [c2]
    · rw [List.getElem?_eq_none (by omega), List.getElem?_eq_none (by simp; omega)]

theorem cpy_len (d : Nat) : ∀ (n : Nat) (out : List Int), (cpy d n out).length = out.length + n
  | 0, out => rfl
  | n + 1, out => by show (cpy d n _).length = _; rw [cpy_len d n]; simp; omega

theorem Herd.growB8 {W w w' : World} {xs : List ((Nat → Nat) × Thing)} (H : Herd W w xs) (i : Nat) {K : Nat → Nat} {v v' : Value} {l l' : List Int} (hi : xs[i]? = some (K, tl v l)) (ho : OB w' 0 v' l') (hg : Grew w w' v v') : ∃ K', Herd W w' (xs.set i (K', tl v' l')) := by
  have hp : (tl v l).P w K := H.rep i _ hi
  have hs : w.heap.size ≤ w'.heap.size := hg.by.size
  refine ⟨fun k => if k < w.heap.size then K k else if v'.ownBlock = some k then 1 else 0, H.op i hi (x' := tl v' l') ⟨ho, fun k hk => ?_, fun k hk => ?_⟩ ⟨hg.by.os, hg.by.tape, hg.by.output, hs, fun k hk h0 => ?_, fun k hk => by simp [hk]⟩⟩
  · by_cases c : k < w.heap.size
    · simp only [c, if_true]
      rcases hg.at with e | e
      · rw [e] at hk
        simp at hk
        omega
      · exact hp.2.1 k (by rw [← e]; exact hk)
    · simp [c, hk]
  · by_cases c : k < w.heap.size
    · omega
    · simp only [c, if_false] at hk
      by_cases e : v'.ownBlock = some k
      · exact (ho.lt k e).2
      · simp [e] at hk
  · exact hg.by.block k hk (fun e => hp.2.1 k e.symm h0)

theorem SB.part8 {w : World} {b o cap : Nat} {x : List Int} (h : SB w (.slice (some ⟨b, o, none⟩) x.length cap) x) {at' n : Nat} (hn : at' + n ≤ x.length) : SB w (.slice (some ⟨b, o + at', none⟩) n (cap - at')) ((x.drop at').take n) := by
  obtain ⟨ao', cap', he, a1, a2, a3, a4⟩ := h
  simp only [Value.slice.injEq] at he
  obtain ⟨rfl, -, rfl⟩ := he
  have hl : ((x.drop at').take n).length = n := by rw [List.length_take, List.length_drop]; omega
  refine ⟨some ⟨b, o + at', none⟩, cap - at', by rw [hl], by rw [hl]; omega, Nat.le_trans (Nat.sub_le _ _) a2, (fun q => by cases q), fun y hy i hi => ?_⟩
  cases hy
  rw [hl] at hi
  have := a4 ⟨b, o, none⟩ rfl (at' + i) (by omega)
  rw [Addr.add_lit] at this
  rw [Addr.add_lit, Nat.add_assoc, this]
  congr 2
  simp only [List.getD, List.getElem?_take_of_lt hi, List.getElem?_drop]

theorem ob_some8 {w : World} {base : Nat} {v : Value} {l : List Int} (h : OB w base v l) (hl : 0 < l.length) : ∃ b p, v = .slice (.some ⟨b, 0, none⟩) l.length p ∧ l.length ≤ p ∧ p ≤ 9223372036854775807 := by
  rcases h.2 with ⟨rfl, h0⟩ | ⟨g, cap, cur, rfl, h1, h2, h3, h4, h5, h6⟩
  · omega
  · unfold maxLen at h4
    exact ⟨g, cap, rfl, h3, by omega⟩

theorem Herd.bput {W w : World} {xs : List ((Nat → Nat) × Thing)} (H : Herd W w xs) (i : Nat) {K : Nat → Nat} {g : Nat} {cur : Array Value} {t : TypeId} (hi : xs[i]? = some (K, tb g (.cells cur t (0, 0)))) (k : Nat) (u : Value) :
    Herd W (w.setCell ⟨g, k, none⟩ u) (xs.set i (K, tb g (.cells (cur.setIfInBounds k u) t (0, 0)))) := by
  have h : (tb g (.cells cur t (0, 0))).P w K := H.rep i _ hi
  have hg : K g ≠ 0 := h.2.1
  exact H.op i hi (x' := tb g (.cells (cur.setIfInBounds k u) t (0, 0))) (K' := K) ⟨heap_setCell_at (k := k) u h.1, hg, fun k hk => by rw [size_setCell]; exact h.2.2 k hk⟩ ⟨rfl, rfl, rfl, by rw [size_setCell]; exact Nat.le_refl _, fun q _ h0 => setCell_others _ _ _ _ _ (fun e => hg (by rw [← e]; exact h0)), fun _ _ => rfl⟩

theorem tx_app {W w w1 w6 : World} {Kt Kr Ko : Nat → Nat} {g r : Nat} {row : List Int} {p L : Nat} {out out' : List Int} {dn : Bool} {a : Option Addr} {c : Nat} {fl fd : Option Addr} {ys : List ((Nat → Nat) × Thing)} (H : Herd W w ((Kt, tb g (txO r a out.length c L dn fl fd)) :: (Kr, tr r row p) :: (Ko, tl (.slice a out.length c) out) :: ys)) (hw : Below w.heap.size w w1) (hk : Fx ys fl fd) (hL : out'.length ≤ L) (hL2 : L ≤ 16777216) {v' : Value} (ho : OB w6 0 v' out') (hg : Grew w1 w6 (.slice a out.length c) v') :
    TX W (w6.setCell ⟨g, 1, none⟩ v') g r row p L out' dn ys := by
  obtain ⟨a', c', rfl⟩ := ho.shape
  obtain ⟨K', h1⟩ := (H.below hw).growB8 2 rfl ho hg
  simp only [List.set_cons_succ, List.set_cons_zero] at h1
  have h2 := h1.bput 0 rfl 1 (.slice a' out'.length c')
  exact ⟨Kt, Kr, K', a', c', fl, fd, h2, hk, hL, hL2⟩

set_option maxHeartbeats 2000000 in
theorem hagain {W w : World} {g r : Nat} {row : List Int} {p L : Nat} {out : List Int} {dn : Bool} {ys : List ((Nat → Nat) × Thing)} (H : TX W w g r row p L out dn ys) (n d : Nat) (hn : n ≤ 1000) (hd0 : 0 < d) (hd : d ≤ 40000) :
    Calls Tryz.prog 64 #[.pointer (some ⟨g, 0, none⟩), .int .i64 n, .int .i64 d] w fun en w' => (agE L out n d = 0 ∧ en = .returned (.tuple #[]) ∧ TX W w' g r row p L (cpy d n out) dn ys) ∨ (agE L out n d ≠ 0 ∧ Ofg W ys (agE L out n d) en w') := by
  have HBL := hide H.bel2
  have HH := hide H
  have HRM := hide (hroom H n (by omega))
  obtain ⟨Kt, Kr, Ko, a, c, fl, fd, HX, hfx, hoL, hL⟩ := H
  have ht : w.heap[g]? = some (txO r a out.length c L dn fl fd) := (HX.rep 0 _ rfl).1
  obtain ⟨c0, c1, c2, c3, c4, c5⟩ := txO_cells ht
  have HFX := hide hfx
  obtain ⟨N, HN⟩ : ∃ N : Nat, Hid (N = out.length) := ⟨_, rfl⟩
  rw [← HN.out] at c1 hoL
  clear HX ht c0 c2 c3 c4 c5 hfx
  go_enter Tryz.func64, Tryz.ntmps64
  by_cases hf : N < d
  · have h1 : (d : Int) > (N : Int) := by omega
    have h1' : (N : Int) < (d : Int) := by omega
    go_wp2_with fail
    refine (giveUp_any 84 _).mono ?_
    rintro e w2 ⟨rfl, rfl⟩
    go_wp2
    have e : agE L out n d = 84 := by unfold agE; rw [← HN.out, if_pos hf]
    rw [e]
    exact ⟨rfl, .inr ⟨by decide, rfl, HBL.out⟩⟩
  have h1 : ¬ ((N : Int) < (d : Int)) := by omega
  go_wp2_with fail
  refine HRM.out.mono ?_
  rintro e w1 (⟨hr, rfl, q, rfl⟩ | ⟨hr, rfl, h2⟩)
  case inr =>
    have HX := hide h2
    clear h2
    go_wp2
    have e : agE L out n d = 85 := by unfold agE; rw [← HN.out, if_neg hf, HN.out, if_pos hr]
    rw [e]
    exact ⟨rfl, .inr ⟨by decide, rfl, HX.out⟩⟩
  have HAE : Hid (agE L out n d = 0) := by show _ = _; unfold agE; rw [← HN.out, if_neg hf, HN.out, if_neg (by omega)]
  have d1 : (w.drewN q).cell? ⟨g, 1, none⟩ = some (.slice a N c) := c1
  obtain ⟨f, HF⟩ : ∃ f : Nat, Hid (f = N - d) := ⟨_, rfl⟩
  have hfe : (N : Int) - (d : Int) = (f : Int) := by rw [HF.out]; omega
  obtain ⟨pre, HPR⟩ : ∃ pre, Hid (pre = out.take f) := ⟨_, rfl⟩
  obtain ⟨u, HU⟩ : ∃ u : Nat → Int, Hid (u = fun i => out.getD (f + i % d) 0) := ⟨_, rfl⟩
  have HST : Hid (out = per pre u d) := by
    show _ = _
    rw [HPR.out, HU.out, HF.out, HN.out]
    exact per_start hd0 (by rw [← HN.out]; omega)
  have HUP : Hid (∀ i, u (i + d) = u i) := by
    show ∀ i, _
    intro i
    rw [HU.out]
    simp
  have HPL : Hid (pre.length = f) := by
    show _ = _
    rw [HPR.out, List.length_take, ← HN.out, HF.out]; omega
  have HLN : Hid (f + d + n ≤ L) := by show _ ≤ _; rw [HF.out]; have := HN.out; omega
  have HTX : Hid (TX W (w.drewN q) g r row p L (per pre u d) dn ys) := by
    show TX _ _ _ _ _ _ _ _ _ _
    rw [← HST.out]; exact HH.out.below (below_drewN (Below.refl _ _) q)
  have hf16 : f ≤ 16777216 := by have := HLN.out; omega
  clear c1 HRM hr
  go_wp2
  clear d1 hfe h1
  go_loopw [1, 7] (fun m v wr => ∃ M D t : Nat, m = .int .i64 M ∧ M ≤ 1000 ∧ D ≤ 16777216 ∧ d ≤ D ∧ Hid (D + M = d + n) ∧ Hid (M = 0 ∨ D = t * d) ∧ Hid (TX W wr g r row p L (per pre u D) dn ys)) (fun m _ _ => (intOf m).toNat)
  case atStart => exact ⟨n, d, 1, rfl, hn, by omega, Nat.le_refl _, rfl, .inr (by omega), HTX⟩
  case round =>
    obtain ⟨M, D, t, rfl, hM, hD, hdD, HDM, HMT, HXR⟩ := hrel
    clear HTX
    obtain ⟨Kt2, Kr2, Ko2, a2, p2, fl2, fd2, HX, hfx, hoL2, hL2⟩ := HXR.out
    have ht : wr.heap[g]? = some (txO r a2 (per pre u D).length p2 L dn fl2 fd2) := (HX.rep 0 _ rfl).1
    have hfz := txO_free ht
    obtain ⟨c0, c1, c2, c3, c4, c5⟩ := txO_cells ht
    obtain ⟨S, HS⟩ : ∃ S : Nat, Hid (S = f + D) := ⟨_, rfl⟩
    have hlen : (per pre u D).length = S := by rw [per_len, HPL.out, HS.out]
    rw [hlen] at c1
    have hSD : (S : Int) - (f : Int) = (D : Int) := by rw [HS.out]; omega
    have hS1 : S ≤ 33554432 := by rw [HS.out]; omega
    have HHX := hide HX
    have HFX2 := hide hfx
    have HLEN := hide hlen
    clear HX hfx hoL2 ht c0 c2 c3 c4 c5 hlen
    by_cases h0 : M = 0
    · subst h0
      clear hSD
      go_wp2
      (try simp only [Exit.inBlock, Exit.then])
      refine bodyPost_end (results_none rfl _ _ _) rfl ?_
      refine .inl ⟨HAE.out, rfl, ?_⟩
      have e : cpy d n out = per pre u D := by
        rw [HST.out, cpy_per hd0 HUP.out n d (Nat.le_refl _)]
        congr 1
        have := HDM.out
        omega
      rw [e]
      exact HXR.out
    · have hM0 : (0 : Int) < (M : Int) := by omega
      obtain ⟨T, HT⟩ : ∃ T : Nat, Hid (T = min M D) := ⟨_, rfl⟩
      have hT1 : T ≤ M ∧ T ≤ D ∧ 0 < T := by rw [HT.out]; omega
      have hDt : D = t * d := by rcases HMT.out with h | h; · exact absurd h h0
                                 · exact h
      have HDT := hide hDt
      have hmin : min (M : Int) (D : Int) = (T : Int) := by rw [HT.out]; omega
      clear hDt
      have hob : OB wr 0 (.slice a2 (per pre u D).length p2) (per pre u D) := (HHX.out.rep 2 _ rfl).1
      obtain ⟨b, p3, hv, hcp, hcp2⟩ := ob_some8 hob (by rw [HLEN.out]; omega)
      simp only [Value.slice.injEq, true_and] at hv
      obtain ⟨rfl, rfl⟩ := hv
      obtain ⟨o', HO'⟩ : ∃ o', Hid (o' = per pre u D) := ⟨_, rfl⟩
      obtain ⟨ns, HNS⟩ : ∃ ns, Hid (ns = (o'.drop f).take T) := ⟨_, rfl⟩
      have hol : o'.length = S := by rw [HO'.out]; exact HLEN.out
      have HNL : Hid (ns.length = T) := by show _ = _; rw [HNS.out, List.length_take, List.length_drop, hol]; have := HS.out; omega
      have hsb : SB wr (.slice (some ⟨b, f, none⟩) T (p2 - f)) ns := by
        have := hob.sb.part8 (at' := f) (n := T) (by rw [HLEN.out]; have := HS.out; omega)
        rw [Nat.zero_add, ← HO'.out, ← HNS.out] at this
        exact this
      have HROW : Hid (∀ W' : World, W'.heap = wr.heap → OB W' 0 (.slice (some ⟨b, 0, none⟩) S p2) o') := fun W' hW' => by
        have := hob
        rw [HLEN.out, ← HO'.out] at this
        exact this.move fun x hx => by rw [hW']
      have HSRC : Hid (∀ W' : World, W'.heap = wr.heap → Src Tryz.prog 1 22 (.slice (some ⟨b, f, none⟩) T (p2 - f)) ns.length (ns.map (Value.int .u8)) W') := fun W' hW' => (hsb.heap hW').src
      have HG6 : Hid (∀ (W' w6 : World) (x : Value), W'.heap = wr.heap → Grew W' w6 (.slice (some ⟨b, 0, none⟩) S p2) x → (w6.cell? ⟨g, 1, none⟩ = some (.slice (some ⟨b, 0, none⟩) S p2)) ∧ ∀ k, w6.frozen? ⟨g, k, none⟩ = false) := fun W' w6 x hW' hg => by
        have hgt : (tb g (txO r (some ⟨b, 0, none⟩) (per pre u D).length p2 L dn fl2 fd2)).P wr Kt2 := HHX.out.rep 0 _ rfl
        have hb0 : Ko2 b ≠ 0 := ((HHX.out.rep 2 _ rfl : (tl _ _).P wr Ko2)).2.1 b rfl
        have hne : g ≠ b := fun e => by
          have := HHX.out.sep 0 2 _ _ rfl rfl (by decide) g hgt.2.1
          rw [e] at this
          exact hb0 this
        have e1 : w6.heap[g]? = wr.heap[g]? := (hg.by.block g (by rw [hW']; exact hgt.2.2 g hgt.2.1) (fun e => hne (by simpa [Value.ownBlock] using e))).trans (by rw [hW'])
        have e2 := e1.trans hgt.1
        rw [HLEN.out] at e2
        exact ⟨(txO_cells e2).2.1, txO_free e2⟩
      have hlen2 : o'.length + ns.length ≤ 140737488355328 := by rw [hol, HNL.out]; omega
      have HL2 := hide hlen2
      have HNE : Hid (ns ≠ []) := by
        show _ ≠ _
        intro e
        have := HNL.out
        rw [e] at this
        simp at this
        omega
      obtain ⟨X, HX⟩ : ∃ X : Nat, Hid (X = f + T) := ⟨_, rfl⟩
      have x1 : (f : Int) + (T : Int) = (X : Int) := by rw [HX.out]; omega
      have x2 : (X : Int) - (f : Int) = (T : Int) := by rw [HX.out]; omega
      have x3 : (p2 : Int) - (f : Int) = ((p2 - f : Nat) : Int) := by have := HS.out; rw [HLEN.out] at hcp; omega
      have x4 : X ≤ p2 ∧ f ≤ X ∧ X ≤ 33554432 := by have := HS.out; rw [HLEN.out] at hcp; have := HX.out; omega
      have x8 : IntKind.i64.wrap (X : Int) = (X : Int) := by rw [IntKind.wrap_i64]; have := x4.2.2; omega
      have x9 : X - f = T := by have := HX.out; omega
      have x10 : (X : Int) ≤ (p2 : Int) := by omega
      have x5 : ¬ p2 = f := by have := HX.out; omega
      have x6 : ¬ ((p2 : Int) < (X : Int)) := by omega
      have x7 : ¬ ((X : Int) < (f : Int)) := by omega
      have HOL := hide hol
      clear hob hsb hlen2 hol hcp
      have hD2 : D + T ≤ 16777216 := by have := HDM.out; have := HLN.out; omega
      by_cases hmd : M ≤ D
      · have hm1 : ¬ ((D : Int) < (M : Int)) := by omega
        have hTM : M = T := by rw [HT.out]; omega
        subst hTM
        clear hmin
        go_wp2
        go_region_law (refine step_app (by rfl) _ _ (by rfl) (.slice (some ⟨b, 0, none⟩) S p2) (.slice (some ⟨b, f, none⟩) M (p2 - f)) o' ns (by simp [Act.eval, Act.put]) (by simp [Act.eval, Act.put]) (HROW.out _ (by rfl)) (HSRC.out _ (by rfl)) HNE.out HL2.out ?_; intro gg cap6 w6 hown6 hgrow6; obtain ⟨t1, tf⟩ := HG6.out _ w6 _ (by rfl) hgrow6; have HALL := hide (And.intro hown6 hgrow6); clear hown6 hgrow6)
        all_goals
          have HN : Hid (TX W (w6.setCell ⟨g, 1, none⟩ (.slice (some ⟨gg, 0, none⟩) (o'.length + ns.length) cap6)) g r row p L (per pre u (D + M)) dn ys) := by
            have e : o' ++ ns = per pre u (D + M) := by
              rw [HNS.out, HO'.out, HDT.out, ← HPL.out]
              exact per_turn HUP.out (by rw [← HDT.out]; omega)
            have hown := HALL.out.1
            have hgr := HALL.out.2
            rw [e] at hown
            rw [← HLEN.out] at hgr
            exact tx_app HHX.out (by first | exact Below.refl _ _ | exact (Below.refl _ _).drew) HFX2.out (by rw [per_len, HPL.out]; have := HDM.out; have := HLN.out; omega) hL2 hown hgr
          clear HALL HROW HSRC HG6 c1
          go_wp2
          go_roundw
          case rel => exact ⟨M - M, D + M, 2 * t, by first | rfl | (congr 1; done) | (congr 1; omega), by omega, by omega, by omega, by show _ = _; have := HDM.out; omega, by
            show _ ∨ _
            rcases Nat.lt_or_ge D M with q | q
            · right
              have e1 : M = D := by rw [HT.out]; omega
              have e2 := HDT.out
              rw [e1, show 2 * t * d = t * d + t * d by rw [Nat.mul_assoc, Nat.two_mul], ← e2]
            · left
              rw [HT.out]; omega, HN⟩
          case measure => first | (simp [intOf]; done) | (simp [intOf]; omega)
      · have hm1 : ((D : Int) < (M : Int)) := by omega
        have hTM : D = T := by rw [HT.out]; omega
        subst hTM
        clear hmin
        go_wp2
        go_region_law (refine step_app (by rfl) _ _ (by rfl) (.slice (some ⟨b, 0, none⟩) S p2) (.slice (some ⟨b, f, none⟩) D (p2 - f)) o' ns (by simp [Act.eval, Act.put]) (by simp [Act.eval, Act.put]) (HROW.out _ (by rfl)) (HSRC.out _ (by rfl)) HNE.out HL2.out ?_; intro gg cap6 w6 hown6 hgrow6; obtain ⟨t1, tf⟩ := HG6.out _ w6 _ (by rfl) hgrow6; have HALL := hide (And.intro hown6 hgrow6); clear hown6 hgrow6)
        all_goals
          have HN : Hid (TX W (w6.setCell ⟨g, 1, none⟩ (.slice (some ⟨gg, 0, none⟩) (o'.length + ns.length) cap6)) g r row p L (per pre u (D + D)) dn ys) := by
            have e : o' ++ ns = per pre u (D + D) := by
              rw [HNS.out, HO'.out, HDT.out, ← HPL.out]
              exact per_turn HUP.out (by rw [← HDT.out]; omega)
            have hown := HALL.out.1
            have hgr := HALL.out.2
            rw [e] at hown
            rw [← HLEN.out] at hgr
            exact tx_app HHX.out (by first | exact Below.refl _ _ | exact (Below.refl _ _).drew) HFX2.out (by rw [per_len, HPL.out]; have := HDM.out; have := HLN.out; omega) hL2 hown hgr
          clear HALL HROW HSRC HG6 c1
          go_wp2
          go_roundw
          case rel => exact ⟨M - D, D + D, 2 * t, by first | rfl | (congr 1; done) | (congr 1; omega), by omega, by omega, by omega, by show _ = _; have := HDM.out; omega, by
            show _ ∨ _
            rcases Nat.lt_or_ge D M with q | q
            · right
              have e1 : D = D := rfl
              have e2 := HDT.out
              rw [e1, show 2 * t * d = t * d + t * d by rw [Nat.mul_assoc, Nat.two_mul], ← e2]
            · left
              rw [HT.out]; omega, HN⟩
          case measure => first | (simp [intOf]; done) | (simp [intOf]; omega)
end Go.Proofs.YtmjdpfigkojolaaGreatDoor

namespace Go.Proofs.YtmjdpfigkojolaaGreatDoor
open Go.RowKit Go.Maps
set_option maxRecDepth 20000
set_option linter.unusedVariables false

theorem fl_is : FL = fxL 288 := by decide +kernel
theorem fl_lens : Lens FL := by unfold Lens; decide +kernel
theorem fd_lens : Lens FD := by unfold Lens; decide +kernel
theorem fl_ok : dcE FL = 0 := by
  have h1 : chkE FL = 0 := by unfold chkE; rw [if_neg (by decide +kernel), if_pos fl_lens]
  have h2 : shp FL = 4 := by decide +kernel
  exact (dcE_iff FL).2 ⟨h1, .inr h2⟩
theorem fd_ok : dcE FD = 0 := by
  have h1 : chkE FD = 0 := by unfold chkE; rw [if_neg (by decide +kernel), if_pos fd_lens]
  have h2 : shp FD = 4 := by decide +kernel
  exact (dcE_iff FD).2 ⟨h1, .inr h2⟩

theorem rd_good {row : List Int} {p : Nat} (hb : Bit row) (h : (rdA row p).1 = 0) : dcE (rdA row p).2.1 = 0 ∧ (rdA row p).2.1.length ≤ 286 ∧ (rdA row p).2.2.1.length ≤ 30 := by
  rcases rd_cases row p with ⟨q, _⟩ | ⟨_, h1, h2, ⟨a, q⟩, hx, hk, hr⟩
  · exact absurd h q
  simp only at hx hk hr
  have hf := rl_facts (C := smC row (p + 14) (rcN row p)) hb (rcL row p + rcD row p) (rcL row p + rcD row p) [] (p + 14 + 3 * rcN row p) (by simp) (by simp) (by simp)
  rw [hx] at hf
  obtain ⟨hl, hin⟩ := hf rfl
  simp only at hl hin
  have hc : ¬ (286 < rcL row p ∨ 30 < rcD row p) := fun c => by
    unfold rcE at h1
    by_cases c0 : row.length < p + 14
    · rw [if_pos c0] at h1; omega
    · rw [if_neg c0, if_pos c] at h1; omega
  rw [hr]
  simp only
  have e1 : (a.take (rcL row p)).length = rcL row p := by rw [List.length_take]; omega
  have e2 : (a.drop (rcL row p)).length = rcD row p := by rw [List.length_drop]; omega
  refine ⟨?_, by omega, by omega⟩
  have i1 : Lens (a.take (rcL row p)) := ⟨by omega, fun x hx => hin x (List.mem_of_mem_take hx)⟩
  have h4 : chkS (a.take (rcL row p)) = 4 ∨ chkS (a.take (rcL row p)) = 1 := by
    unfold hck at hk
    by_cases c : (a.take (rcL row p)).getD 256 0 = 0 ∨ (chkS (a.take (rcL row p)) ≠ 4 ∧ chkS (a.take (rcL row p)) ≠ 1)
    · rw [if_pos c] at hk; omega
    · omega
  unfold chkS at h4
  rw [if_pos i1] at h4
  refine (dcE_iff _).2 ⟨by unfold chkE; rw [if_neg (by omega), if_pos i1], by omega⟩

def Cd (ys : List ((Nat → Nat) × Thing)) (p : Option Addr) (l : List Int) : Prop :=
  (p = none ∧ dcE l ≠ 0) ∨ ∃ (gl i : Nat) (K : Nat → Nat), p = some ⟨gl, 0, none⟩ ∧ ys[i]? = some (K, td gl l)

theorem get_app {α : Type} {xs ys : List α} {i : Nat} {a : α} (h : xs[i]? = some a) : (xs ++ ys)[i]? = some a := by
  rw [List.getElem?_append_left (List.getElem?_eq_some_iff.1 h).1]; exact h

theorem Cd.app {ys zs : List ((Nat → Nat) × Thing)} {p : Option Addr} {l : List Int} (h : Cd ys p l) : Cd (ys ++ zs) p l := by
  rcases h with h | ⟨gl, i, K, h1, h2⟩
  · exact .inl h
  · exact .inr ⟨gl, i, K, h1, get_app h2⟩

theorem Cd.pre {ys zs : List ((Nat → Nat) × Thing)} {p : Option Addr} {l : List Int} (h : Cd zs p l) : Cd (ys ++ zs) p l := by
  rcases h with h | ⟨gl, i, K, h1, h2⟩
  · exact .inl h
  · exact .inr ⟨gl, ys.length + i, K, h1, by rw [List.getElem?_append_right (by omega)]; simpa using h2⟩

theorem Fx.app {ys zs : List ((Nat → Nat) × Thing)} {fl fd : Option Addr} (h : Fx ys fl fd) : Fx (ys ++ zs) fl fd := by
  rcases h with h | ⟨gl, gd, i, j, Kl, Kd, h1, h2, h3, h4⟩
  · exact .inl h
  · exact .inr ⟨gl, gd, i, j, Kl, Kd, h1, h2, get_app h3, get_app h4⟩

def Zd (p : Option Addr) (l : List Int) (zs : List ((Nat → Nat) × Thing)) : Prop := (p = none ∧ dcE l ≠ 0 ∧ zs = []) ∨ ∃ (gl : Nat) (K : Nat → Nat), p = some ⟨gl, 0, none⟩ ∧ zs = [(K, td gl l)]

theorem at_mid {α : Type} (a : α) (zs : List α) : ∀ xs : List α, (xs ++ [a] ++ zs)[xs.length]? = some a
  | [] => rfl
  | x :: xs => by simp

theorem Zd.cd {p : Option Addr} {l : List Int} {zs : List ((Nat → Nat) × Thing)} (h : Zd p l zs) (us bs : List ((Nat → Nat) × Thing)) : Cd (us ++ zs ++ bs) p l := by
  rcases h with ⟨h1, h2, _⟩ | ⟨gl, K, h1, rfl⟩
  · exact .inl ⟨h1, h2⟩
  · exact .inr ⟨gl, us.length, K, h1, at_mid _ _ _⟩

theorem hdec {W w : World} {xs : List ((Nat → Nat) × Thing)} (H : Herd W w xs) (i : Nat) {K : Nat → Nat} {v : Value} {l : List Int} (hi : xs[i]? = some (K, ti v l)) :
    Calls Tryz.prog 86 #[v] w fun e w' => ∃ p zs, e = .returned (.tuple #[.pointer p, .int .i64 (dcE l)]) ∧ Herd W w' (xs ++ zs) ∧ Zd p l zs := by
  refine (hdecode H v l (H.isi i hi)).mono ?_
  rintro e w' (⟨h1, rfl, h2⟩ | ⟨h1, g, K', rfl, h2⟩)
  · exact ⟨none, [], rfl, by simpa using h2, .inl ⟨rfl, h1, rfl⟩⟩
  · exact ⟨some ⟨g, 0, none⟩, [(K', td g l)], by rw [h1], h2, .inr ⟨g, K', rfl, rfl⟩⟩

theorem at_one {α : Type} (a b : α) (zs : List α) : ∀ xs : List α, (xs ++ [a] ++ [b] ++ zs)[xs.length]? = some a
  | [] => rfl
  | x :: xs => by simp
theorem at_two {α : Type} (a b : α) (zs : List α) : ∀ xs : List α, (xs ++ [a] ++ [b] ++ zs)[xs.length + 1]? = some b
  | [] => rfl
  | x :: xs => by simp
theorem set_one {α : Type} (a b c : α) (zs : List α) : ∀ xs : List α, (xs ++ [a] ++ [b] ++ zs).set xs.length c = xs ++ [c] ++ [b] ++ zs
  | [] => rfl
  | x :: xs => by simp
theorem set_two {α : Type} (a b c : α) (zs : List α) : ∀ xs : List α, (xs ++ [a] ++ [b] ++ zs).set (xs.length + 1) c = xs ++ [a] ++ [c] ++ zs
  | [] => rfl
  | x :: xs => by simp

abbrev cdO1 (p q : Option Addr) : Obj := .cells #[.pointer p, .pointer q] 55
theorem cd_cells {w : World} {g : Nat} {p q : Option Addr} (h : w.heap[g]? = some (cdO1 p q)) : w.cell? ⟨g, 0, none⟩ = some (.pointer p) ∧ w.cell? ⟨g, 1, none⟩ = some (.pointer q) ∧ ∀ k, w.frozen? ⟨g, k, none⟩ = false := by
  refine ⟨?_, ?_, fun k => ?_⟩
  · unfold World.cell?; rw [h]; rfl
  · unfold World.cell?; rw [h]; rfl
  · unfold World.frozen?; rw [h]; rfl

theorem Herd.tbat {W w : World} {xs : List ((Nat → Nat) × Thing)} (H : Herd W w xs) (i : Nat) {K : Nat → Nat} {g : Nat} {o : Obj} (hi : xs[i]? = some (K, tb g o)) : w.heap[g]? = some o := by
  have h : (tb g o).P w K := H.rep i _ hi
  exact h.1

set_option maxHeartbeats 2000000 in
theorem hncodes {W w : World} {xs : List ((Nat → Nat) × Thing)} (H : Herd W w xs) (i j : Nat) {K K' : Nat → Nat} {v1 v2 : Value} {l d : List Int} (hi : xs[i]? = some (K, ti v1 l)) (hj : xs[j]? = some (K', ti v2 d)) :
    Calls Tryz.prog 66 #[v1, v2] w fun e w' => ∃ p1 p2 zs, e = .returned (.agg #[.pointer p1, .pointer p2]) ∧ Herd W w' (xs ++ zs) ∧ Cd zs p1 l ∧ Cd zs p2 d := by
  obtain ⟨KA, hA⟩ := H.box1 (cdO1 none none)
  obtain ⟨KB, hB⟩ := hA.box1 (cdO1 none none)
  have HI := hide hi
  have HJ := hide hj
  obtain ⟨w2, hw2⟩ : ∃ w2, (w.alloc (cdO1 none none)).alloc (cdO1 none none) = w2 := ⟨_, rfl⟩
  rw [hw2] at hB
  have hsz : (w.alloc (cdO1 none none)).heap.size = w.heap.size + 1 := size_alloc' _ _
  rw [hsz] at hB
  have HW := hide hw2
  have HC := hide (hdec hB i (get_front (get_front hi)))
  clear hA hB H hi hj hsz hw2
  go_enter Tryz.func66, Tryz.ntmps66
  go_wp2_with fail
  rw [HW.out]
  refine HC.out.mono ?_
  rintro e w3 ⟨p1, z1, rfl, h3, hz1⟩
  obtain ⟨k0, k1, k2⟩ := cd_cells (h3.tbat (xs.length + 1) (at_two _ _ _ _))
  have h4 := h3.bput (xs.length + 1) (at_two _ _ _ _) 0 (.pointer p1)
  rw [set_two] at h4
  have HZ1 := hide hz1
  obtain ⟨w4, HW4⟩ : ∃ w4, Hid (w3.setCell ⟨w.heap.size + 1, 0, none⟩ (.pointer p1) = w4) := ⟨_, rfl⟩
  rw [HW4.out] at h4
  have HC2 := hide (hdec h4 j (get_app (get_front (get_front HJ.out))))
  clear h3 h4 hz1 HC
  go_wp2_with fail
  rw [HW4.out]
  refine HC2.out.mono ?_
  rintro e w5 ⟨p2, z2, rfl, h5, hz2⟩
  rw [List.append_assoc] at h5
  have hb5 := h5.tbat (xs.length + 1) (at_two _ _ _ _)
  obtain ⟨m0, m1, m2⟩ := cd_cells (p := p1) (q := none) hb5
  obtain ⟨n0, n1, n2⟩ := cd_cells (h5.tbat xs.length (at_one _ _ _ _))
  have h6 := h5.bput (xs.length + 1) (at_two _ _ _ _) 1 (.pointer p2)
  rw [set_two] at h6
  have HZ2 := hide hz2
  obtain ⟨o0, o1, o2⟩ := cd_cells (p := p1) (q := p2) (h6.tbat (xs.length + 1) (at_two _ _ _ _))
  obtain ⟨q0, q1, q2⟩ := cd_cells (h6.tbat xs.length (at_one _ _ _ _))
  have h7 := h6.bput xs.length (at_one _ _ _ _) 0 (.pointer p1)
  rw [set_one] at h7
  have h8 := h7.bput xs.length (at_one _ _ _ _) 1 (.pointer p2)
  rw [set_one] at h8
  obtain ⟨r0, r1, r2⟩ := cd_cells (p := p1) (q := p2) (h8.tbat xs.length (at_one _ _ _ _))
  have HX := hide h8
  clear h5 h6 h7 h8 hz2 hb5 HC2 k0 k1 k2
  go_wp2
  refine bodyPost_ret (v := .agg #[.pointer p1, .pointer p2]) (by simp [results, Tryz.results66, go_sem, r0, r1]) rfl ?_
  refine ⟨p1, p2, [(KA, tb w.heap.size (cdO1 p1 p2)), (KB, tb (w.heap.size + 1) (cdO1 p1 p2))] ++ z1 ++ z2, rfl, by have := HX.out; simp only [List.append_assoc, List.cons_append, List.nil_append] at this ⊢; exact this, ?_, ?_⟩
  · exact Zd.cd HZ1.out [_, _] z2
  · have := Zd.cd HZ2.out ([(KA, tb w.heap.size (cdO1 p1 p2)), (KB, tb (w.heap.size + 1) (cdO1 p1 p2))] ++ z1) []
    rw [List.append_nil] at this
    exact this
end Go.Proofs.YtmjdpfigkojolaaGreatDoor

namespace Go.Proofs.YtmjdpfigkojolaaGreatDoor
open Go.RowKit Go.Maps
set_option maxRecDepth 20000
set_option linter.unusedVariables false

theorem Cd.some {ys : List ((Nat → Nat) × Thing)} {p : Option Addr} {l : List Int} (h : Cd ys p l) (hd : dcE l = 0) : ∃ (gl i : Nat) (K : Nat → Nat), p = .some ⟨gl, 0, none⟩ ∧ ys[i]? = .some (K, td gl l) := by
  rcases h with h | h
  · exact absurd hd h.2
  · exact h

theorem at_3 {α : Type} (x y z a : α) (zr : List α) : ∀ ys : List α, (x :: y :: z :: (ys ++ a :: zr))[ys.length + 3]? = some a
  | [] => rfl
  | u :: ys => by simp
theorem set_3 {α : Type} (x y z a b : α) (zr ys : List α) : (x :: y :: z :: (ys ++ a :: zr)).set (ys.length + 3) b = x :: y :: z :: (ys ++ b :: zr) := by simp

set_option maxHeartbeats 2000000 in
theorem hfixed {W w : World} {g r : Nat} {row : List Int} {p L : Nat} {out : List Int} {dn : Bool} {ys : List ((Nat → Nat) × Thing)} (H : TX W w g r row p L out dn ys) :
    Calls Tryz.prog 43 #[.pointer (some ⟨g, 0, none⟩)] w fun e w' => ∃ p1 p2 zs, e = .returned (.agg #[.pointer p1, .pointer p2]) ∧ TX W w' g r row p L out dn (ys ++ zs) ∧ Cd (ys ++ zs) p1 FL ∧ Cd (ys ++ zs) p2 FD := by
  obtain ⟨Kt, Kr, Ko, a, c, fl, fd, HH, hfx, hk⟩ := H
  have hg : g < w.heap.size := by
    have h : (tb g (txO r a out.length c L dn fl fd)).P w Kt := HH.rep 0 _ rfl
    exact h.2.2 g h.2.1
  obtain ⟨KA, hA⟩ := HH.box1 (cdO1 none none)
  have HA := hide hA
  have HK := hide hk
  obtain ⟨c0, c1, c2, c3, c4, c5⟩ := txO_cells (HA.out.tbat 0 rfl)
  have hne : ¬ g = w.heap.size := by omega
  clear hk c0 c1 c2 c3
  rcases hfx with ⟨rfl, rfl⟩ | ⟨gl, gd, i, j, Kl, Kd, rfl, rfl, hy1, hy2⟩
  case inr =>
    obtain ⟨a0, a1, a2⟩ := cd_cells (HA.out.tbat _ (get_last _ _))
    obtain ⟨KB, hB⟩ := HH.box1 (cdO1 (some ⟨gl, 0, none⟩) (some ⟨gd, 0, none⟩))
    obtain ⟨b0, b1, b2⟩ := cd_cells (p := some ⟨gl, 0, none⟩) (q := some ⟨gd, 0, none⟩) (hB.tbat _ (get_last _ _))
    have HX := hide hB
    have HY1 := hide hy1
    have HY2 := hide hy2
    clear hB hy1 hy2 HH hA
    go_enter Tryz.func43, Tryz.ntmps43
    go_wp2
    refine bodyPost_ret (v := .agg #[.pointer (some ⟨gl, 0, none⟩), .pointer (some ⟨gd, 0, none⟩)]) (by simp [results, Tryz.results43, go_sem, b0, b1]) rfl ?_
    exact ⟨_, _, [_], rfl, ⟨Kt, Kr, Ko, a, c, _, _, HX.out, Fx.app (.inr ⟨gl, gd, i, j, Kl, Kd, rfl, rfl, HY1.out, HY2.out⟩), HK.out⟩, .inr ⟨gl, i, Kl, rfl, get_app HY1.out⟩, .inr ⟨gd, j, Kd, rfl, get_app HY2.out⟩⟩
  case inl =>
    clear HH hA
    have HFL := hide (hflit HA.out fl_is)
    go_enter Tryz.func43, Tryz.ntmps43
    go_wp2_with fail
    refine HFL.out.mono ?_
    rintro e w2 ⟨a1, x1, K1, rfl, h1⟩
    have HX1 := hide h1
    have HFD := hide (hfdist h1 (D := FD) rfl)
    clear h1 HFL c4 c5
    go_wp2_with fail
    refine HFD.out.mono ?_
    rintro e w3 ⟨a2, x2, K2, rfl, h2⟩
    have HNC := hide (hncodes h2 _ _ (get_front (get_last _ _)) (get_last _ _))
    clear HFD h2
    go_wp2_with fail
    refine HNC.out.mono ?_
    rintro e w4 ⟨p1, p2, zs, rfl, h3, hc1, hc2⟩
    obtain ⟨g1, i1, k1, rfl, hi1⟩ := hc1.some fl_ok
    obtain ⟨g2, i2, k2, rfl, hi2⟩ := hc2.some fd_ok
    have hn1 := h3
    simp only [List.cons_append, List.nil_append, List.append_assoc] at hn1
    obtain ⟨zr, hzr⟩ : ∃ zr, (K1, ti (.slice a1 FL.length x1) FL) :: (K2, ti (.slice a2 FD.length x2) FD) :: zs = zr := ⟨_, rfl⟩
    rw [hzr] at hn1
    have HC1 : Hid (∀ b, Cd (ys ++ b :: zr) (some ⟨g1, 0, none⟩) FL) := fun b => by
      rw [← hzr, show ys ++ b :: (K1, ti (.slice a1 FL.length x1) FL) :: (K2, ti (.slice a2 FD.length x2) FD) :: zs = (ys ++ [b, (K1, ti (.slice a1 FL.length x1) FL), (K2, ti (.slice a2 FD.length x2) FD)]) ++ zs by simp]
      exact Cd.pre hc1
    have HC2 : Hid (∀ b, Cd (ys ++ b :: zr) (some ⟨g2, 0, none⟩) FD) := fun b => by
      rw [← hzr, show ys ++ b :: (K1, ti (.slice a1 FL.length x1) FL) :: (K2, ti (.slice a2 FD.length x2) FD) :: zs = (ys ++ [b, (K1, ti (.slice a1 FL.length x1) FL), (K2, ti (.slice a2 FD.length x2) FD)]) ++ zs by simp]
      exact Cd.pre hc2
    obtain ⟨d0, d1, d2, d3, d4, d5⟩ := txO_cells (hn1.tbat 0 rfl)
    have df := txO_free (hn1.tbat 0 rfl)
    have h4 := hn1.bput 0 rfl 4 (.pointer (some ⟨g1, 0, none⟩))
    have h5 := h4.bput 0 rfl 5 (.pointer (some ⟨g2, 0, none⟩))
    have h6 : Herd W ((w4.setCell ⟨g, 4, none⟩ (.pointer (some ⟨g1, 0, none⟩))).setCell ⟨g, 5, none⟩ (.pointer (some ⟨g2, 0, none⟩))) ((Kt, tb g (txO r a out.length c L dn (some ⟨g1, 0, none⟩) (some ⟨g2, 0, none⟩))) :: (Kr, tr r row p) :: (Ko, tl (.slice a out.length c) out) :: (ys ++ (KA, tb w.heap.size (cdO1 none none)) :: zr)) := h5
    obtain ⟨e0, e1, e2, e3, e4, e5⟩ := txO_cells (h6.tbat 0 rfl)
    obtain ⟨b0, b1, b2⟩ := cd_cells (h6.tbat _ (at_3 _ _ _ _ _ _))
    have h7 := h6.bput _ (at_3 _ _ _ _ _ _) 0 (.pointer (some ⟨g1, 0, none⟩))
    rw [set_3] at h7
    have h8 := h7.bput _ (at_3 _ _ _ _ _ _) 1 (.pointer (some ⟨g2, 0, none⟩))
    rw [set_3] at h8
    obtain ⟨f0, f1, f2⟩ := cd_cells (p := some ⟨g1, 0, none⟩) (q := some ⟨g2, 0, none⟩) (h8.tbat _ (at_3 _ _ _ _ _ _))
    have HX := hide h8
    clear h3 hn1 h4 h5 h6 h7 h8 hi1 hi2 hc1 hc2 HNC HX1 d0 d1 d2 d3 e0 e1 e2 e3 hzr
    go_wp2
    refine bodyPost_ret (v := .agg #[.pointer (some ⟨g1, 0, none⟩), .pointer (some ⟨g2, 0, none⟩)]) (by simp [results, Tryz.results43, go_sem, f0, f1]) rfl ?_
    obtain ⟨g1', j1, q1, he1, hj1⟩ := Cd.some (HC1.out (KA, tb w.heap.size (cdO1 (some ⟨g1, 0, none⟩) (some ⟨g2, 0, none⟩)))) fl_ok
    obtain ⟨g2', j2, q2, he2, hj2⟩ := Cd.some (HC2.out (KA, tb w.heap.size (cdO1 (some ⟨g1, 0, none⟩) (some ⟨g2, 0, none⟩)))) fd_ok
    exact ⟨_, _, _, rfl, ⟨Kt, Kr, Ko, a, c, _, _, HX.out, .inr ⟨g1', g2', j1, j2, q1, q2, he1, he2, hj1, hj2⟩, HK.out⟩, HC1.out _, HC2.out _⟩
end Go.Proofs.YtmjdpfigkojolaaGreatDoor

namespace Go.Proofs.YtmjdpfigkojolaaGreatDoor
open Go.RowKit Go.Maps
set_option maxRecDepth 20000
set_option linter.unusedVariables false

set_option maxHeartbeats 2000000 in
theorem hown {W w : World} {g r : Nat} {row : List Int} {p L : Nat} {out : List Int} {dn : Bool} {ys : List ((Nat → Nat) × Thing)} (H : TX W w g r row p L out dn ys) (T : Tab W) (O : Odr W) :
    Calls Tryz.prog 44 #[.pointer (some ⟨g, 0, none⟩)] w fun e w' => ((rdA row p).1 = 0 ∧ ∃ p1 p2 zs, e = .returned (.agg #[.pointer p1, .pointer p2]) ∧ TX W w' g r row (rdA row p).2.2.2 L out dn (ys ++ zs) ∧ Cd (ys ++ zs) p1 (rdA row p).2.1 ∧ Cd (ys ++ zs) p2 (rdA row p).2.2.1) ∨ ((rdA row p).1 ≠ 0 ∧ Ofg W ys (rdA row p).1 e w') := by
  obtain ⟨Kt, Kr, Ko, a, c, fl, fd, HH, hfx, hk⟩ := H
  obtain ⟨KA, hA⟩ := HH.box1 (cdO1 none none)
  have HK := hide hk
  have HFX := hide hfx
  obtain ⟨c0, c1, c2, c3, c4, c5⟩ := txO_cells (hA.tbat 0 rfl)
  have HRD := hide (hread hA 1 rfl T O)
  obtain ⟨A, HAA⟩ : ∃ A, Hid (A = rdA row p) := ⟨_, rfl⟩
  rw [← HAA.out] at HRD ⊢
  obtain ⟨E, l, d, q0⟩ := A
  simp only at HRD ⊢
  clear HH hA hk hfx c1 c2 c3 c4 c5 T O
  go_enter Tryz.func44, Tryz.ntmps44
  go_wp2_with fail
  refine HRD.out.mono ?_
  rintro e w1 ⟨a1, x1, a2, x2, q, K1, K2, rfl, hq, h1⟩
  by_cases he : E = 0
  case neg =>
    have he' : (E != 0) = true := by simpa using he
    have HX : Hid (Bel W ys w1) := Bel.of h1 fun d hd => by simp [hd]
    clear h1 hq c0
    go_wp2_with fail
    refine (giveUp_any E _).mono ?_
    rintro e w2 ⟨rfl, rfl⟩
    go_wp2
    exact ⟨rfl, .inr ⟨he, rfl, HX.out⟩⟩
  subst he
  have hqq := hq rfl
  subst hqq
  have HNC := hide (hncodes h1 _ _ (get_front (get_last _ _)) (get_last _ _))
  clear h1 hq HRD c0
  go_wp2_with fail
  refine HNC.out.mono ?_
  rintro e w2 ⟨p1, p2, zs, rfl, h3, hc1, hc2⟩
  simp only [List.cons_append, List.nil_append, List.append_assoc, List.set_cons_succ, List.set_cons_zero] at h3
  obtain ⟨zr, hzr⟩ : ∃ zr, (K1, ti (.slice a1 l.length x1) l) :: (K2, ti (.slice a2 d.length x2) d) :: zs = zr := ⟨_, rfl⟩
  rw [hzr] at h3
  have HC1 : Hid (∀ b, Cd (ys ++ b :: zr) p1 l) := fun b => by
    rw [← hzr, show ys ++ b :: (K1, ti (.slice a1 l.length x1) l) :: (K2, ti (.slice a2 d.length x2) d) :: zs = (ys ++ [b, (K1, ti (.slice a1 l.length x1) l), (K2, ti (.slice a2 d.length x2) d)]) ++ zs by simp]
    exact Cd.pre hc1
  have HC2 : Hid (∀ b, Cd (ys ++ b :: zr) p2 d) := fun b => by
    rw [← hzr, show ys ++ b :: (K1, ti (.slice a1 l.length x1) l) :: (K2, ti (.slice a2 d.length x2) d) :: zs = (ys ++ [b, (K1, ti (.slice a1 l.length x1) l), (K2, ti (.slice a2 d.length x2) d)]) ++ zs by simp]
    exact Cd.pre hc2
  obtain ⟨b0, b1, b2⟩ := cd_cells (h3.tbat _ (at_3 _ _ _ _ _ _))
  have h7 := h3.bput _ (at_3 _ _ _ _ _ _) 0 (.pointer p1)
  rw [set_3] at h7
  have h8 := h7.bput _ (at_3 _ _ _ _ _ _) 1 (.pointer p2)
  rw [set_3] at h8
  obtain ⟨f0, f1, f2⟩ := cd_cells (p := p1) (q := p2) (h8.tbat _ (at_3 _ _ _ _ _ _))
  have HX := hide h8
  clear h3 h7 h8 hc1 hc2 HNC hzr
  go_wp2
  refine bodyPost_ret (v := .agg #[.pointer p1, .pointer p2]) (by simp [results, Tryz.results44, go_sem, f0, f1]) rfl ?_
  exact ⟨_, _, rfl, _, ⟨Kt, Kr, Ko, a, c, _, _, HX.out, HFX.out.app, HK.out⟩, HC1.out _, HC2.out _⟩

theorem algn_le {row : List Int} {p : Nat} (h : p ≤ row.length) (h8 : row.length % 8 = 0) : algn p ≤ row.length := by unfold algn; omega

set_option maxHeartbeats 2000000 in
theorem hstored {W w : World} {g r : Nat} {row : List Int} {p L : Nat} {out : List Int} {dn : Bool} {ys : List ((Nat → Nat) × Thing)} (H : TX W w g r row p L out dn ys) :
    Calls Tryz.prog 41 #[.pointer (some ⟨g, 0, none⟩)] w fun e w' => ((st1 row L p out).1 = 0 ∧ e = .returned (.tuple #[]) ∧ TX W w' g r row (st1 row L p out).2.1 L (st1 row L p out).2.2 dn ys) ∨ ((st1 row L p out).1 ≠ 0 ∧ Ofg W ys (st1 row L p out).1 e w') := by
  obtain ⟨hbit, hp, hr28, hr8⟩ := H.rd
  have HAL := hide (algn_le hp hr8)
  have HBT := hide hbit
  obtain ⟨Kt, Kr, Ko, a, c, fl, fd, HH, hfx, hoL, hL⟩ := H
  obtain ⟨c0, c1, c2, c3, c4, c5⟩ := txO_cells (HH.tbat 0 rfl)
  have HK := hide (And.intro hfx (And.intro hoL hL))
  have HAG := hide (hralign HH 1 rfl)
  obtain ⟨A, HA⟩ : ∃ A : Nat, Hid (A = algn p) := ⟨_, rfl⟩
  obtain ⟨R, HR⟩ : ∃ R, Hid (R = st1 row L p out) := ⟨_, rfl⟩
  rw [← HA.out] at HAG
  clear HH hfx c1 c2 c3 c4 c5 hbit
  go_enter Tryz.func41, Tryz.ntmps41
  go_wp2_with fail
  refine HAG.out.mono ?_
  rintro e w1 ⟨rfl, h1⟩
  have ht1 : TX W w1 g r row A L out dn ys := ⟨Kt, Kr, Ko, a, c, fl, fd, h1, HK.out⟩
  have HT1 := hide (htk ht1 16 (by omega))
  have HA8 : Hid (A % 8 = 0) := by show _ = _; rw [HA.out]; unfold algn; omega
  have HRU : Hid (st1 row L p out = if row.length < A + 32 then (80, p, out)
      else if ahead row A 16 + ahead row (A + 16) 16 ≠ 65535 then (82, p, out)
      else if L < out.length + (ahead row A 16).toNat then (85, p, out)
      else if row.length < A + 32 + 8 * (ahead row A 16).toNat then (80, p, out)
      else (0, A + 32 + 8 * (ahead row A 16).toNat, out ++ pack ((row.drop (A + 32)).take (8 * (ahead row A 16).toNat)))) := by
    show _ = _; rw [HA.out]; rfl
  clear h1 ht1 c0 HAG
  go_wp2_with fail
  refine HT1.out.mono ?_
  rintro e w2 (⟨hp1, rfl, h2⟩ | ⟨hp1, rfl, h2⟩)
  case inr =>
    have HX := hide h2
    clear h2
    go_wp2
    have e : st1 row L p out = (80, p, out) := by rw [HRU.out, if_pos (by omega)]
    rw [e]
    exact ⟨rfl, .inr ⟨by simp, rfl, HX.out⟩⟩
  obtain ⟨n1, HN1⟩ : ∃ n1 : Nat, Hid ((n1 : Int) = ahead row A 16) := ⟨(ahead row A 16).toNat, by have := (ahead_bound HBT.out A 16).1; show _ = _; omega⟩
  have hn1 : n1 < 65536 := by have := (ahead_bound HBT.out A 16).2; have := HN1.out; omega
  rw [← HN1.out]
  have HT2 := hide (htk h2 16 (by omega))
  clear h2 HT1
  go_wp2_with fail
  refine HT2.out.mono ?_
  rintro e w3 (⟨hp2, rfl, h3⟩ | ⟨hp2, rfl, h3⟩)
  case inr =>
    have HX := hide h3
    clear h3
    go_wp2
    have e : st1 row L p out = (80, p, out) := by rw [HRU.out, if_pos (by omega)]
    rw [e]
    exact ⟨rfl, .inr ⟨by simp, rfl, HX.out⟩⟩
  obtain ⟨n2, HN2⟩ : ∃ n2 : Nat, Hid ((n2 : Int) = ahead row (A + 16) 16) := ⟨(ahead row (A + 16) 16).toNat, by have := (ahead_bound HBT.out (A + 16) 16).1; show _ = _; omega⟩
  have hn2 : n2 < 65536 := by have := (ahead_bound HBT.out (A + 16) 16).2; have := HN2.out; omega
  rw [← HN2.out]
  have hA32 : A + 16 + 16 = A + 32 := by omega
  rw [hA32] at h3 hp2
  have HX3 := hide h3
  have HRM := hide (hroom h3 n1 (by omega))
  clear h3 HT2 hA32
  by_cases hs : (n1 : Int) + (n2 : Int) = 65535
  case neg =>
    have hs' : (((n1 : Int) + (n2 : Int)) != 65535) = true := by simpa using hs
    have HB := hide HX3.out.bel2
    go_wp2_with fail
    refine (giveUp_any 82 _).mono ?_
    rintro e w4 ⟨rfl, rfl⟩
    go_wp2
    have e : st1 row L p out = (82, p, out) := by rw [HRU.out, if_neg (by omega), ← HN1.out, ← HN2.out, if_pos hs]
    rw [e]
    exact ⟨rfl, .inr ⟨by simp, rfl, HB.out⟩⟩
  have HRU2 : Hid (st1 row L p out = if L < out.length + n1 then (85, p, out) else if row.length < A + 32 + 8 * n1 then (80, p, out)
      else (0, A + 32 + 8 * n1, out ++ pack ((row.drop (A + 32)).take (8 * n1)))) := by
    show _ = _
    have e : (ahead row A 16).toNat = n1 := by have := HN1.out; omega
    rw [HRU.out, if_neg (by omega), if_neg (by rw [← HN1.out, ← HN2.out]; simpa using hs), e]
  go_wp2_with fail
  refine HRM.out.mono ?_
  rintro e w4 (⟨hrm, rfl, qd, rfl⟩ | ⟨hrm, rfl, h4⟩)
  case inr =>
    have HX := hide h4
    clear h4
    go_wp2
    have e : st1 row L p out = (85, p, out) := by rw [HRU2.out, if_pos hrm]
    rw [e]
    exact ⟨rfl, .inr ⟨by simp, rfl, HX.out⟩⟩
  obtain ⟨Kt2, Kr2, Ko2, a2, x2, fl2, fd2, HH2, hfx2, hoL2, hL2⟩ := HX3.out.below (below_drewN (Below.refl _ _) qd)
  obtain ⟨d0, d1, d2, d3, d4, d5⟩ := txO_cells (HH2.tbat 0 rfl)
  have HRW := hide (hrraw HH2 1 rfl n1)
  have HFX2 := hide hfx2
  obtain ⟨PE, HPE⟩ : ∃ PE, Hid (PE = rrawE row (A + 32) n1) := ⟨_, rfl⟩
  obtain ⟨PL, HPL⟩ : ∃ PL, Hid (PL = rrawL row (A + 32) n1) := ⟨_, rfl⟩
  obtain ⟨PP, HPP⟩ : ∃ PP, Hid (PP = rrawP row (A + 32) n1) := ⟨_, rfl⟩
  rw [← HPE.out, ← HPL.out, ← HPP.out] at HRW
  have HEE : Hid (PE = if (n1 : Int) ≤ ((row.length : Int) - ((A + 32 : Nat) : Int)) / 8 then 0 else 30) := by
    show _ = _
    rw [HPE.out]; unfold rrawE
    rw [if_neg (by omega), if_neg (by have := HA8.out; omega)]
  clear HH2 hfx2 HX3 HRM d1 d2 d3 d4 d5
  go_wp2_with fail
  refine HRW.out.mono ?_
  rintro e w5 ⟨a5, x5, K5, rfl, h5⟩
  by_cases hpe : PE = 0
  case neg =>
    have hpe' : (PE != 0) = true := by simpa using hpe
    have HX : Hid (Bel W ys w5) := Bel.of h5 fun d hd => by simp [hd]
    clear h5 d0
    go_wp2_with fail
    refine (giveUp_any 80 _).mono ?_
    rintro e w6 ⟨rfl, rfl⟩
    go_wp2
    have hlt : row.length < A + 32 + 8 * n1 := by
      rcases Nat.lt_or_ge row.length (A + 32 + 8 * n1) with h | h
      · exact h
      · exfalso; apply hpe; rw [HEE.out, if_pos (by omega)]
    have e : st1 row L p out = (80, p, out) := by rw [HRU2.out, if_neg (by omega), if_pos hlt]
    rw [e]
    exact ⟨rfl, .inr ⟨by simp, rfl, HX.out⟩⟩
  have hge : ¬ row.length < A + 32 + 8 * n1 := fun h => by
    have h1 := HEE.out
    rw [hpe, if_neg (by omega)] at h1
    cases h1
  have HR0 : Hid (rrawE row (A + 32) n1 = 0) := by show _ = _; rw [← HPE.out]; exact hpe
  have HPL2 : Hid (PL = pack ((row.drop (A + 32)).take (8 * n1))) := by show _ = _; rw [HPL.out]; unfold rrawL; rw [if_pos HR0.out]; simp
  have HPP2 : Hid (PP = A + 32 + 8 * n1) := by show _ = _; rw [HPP.out]; unfold rrawP; rw [if_pos HR0.out]; simp
  have HPN : Hid (PL.length = n1) := by
    show _ = _
    rw [HPL2.out, length_pack ((HBT.out.drop _).take _), List.length_take, List.length_drop]; omega
  subst hpe
  have h5f := h5.front
  simp only [List.set_cons_succ, List.set_cons_zero] at h5f
  have hob : OB w5 0 (.slice a2 out.length x2) out := (h5f.rep 2 _ rfl).1
  have hsb : SB w5 (.slice a5 PL.length x5) PL := h5.sb _ (get_last _ _)
  obtain ⟨f0, f1, f2, f3, f4, f5⟩ := txO_cells (h5f.tbat 0 rfl)
  have ffz := txO_free (h5f.tbat 0 rfl)
  have HOB := hide hob
  have HSR := hide hsb.src
  have HX5 := hide h5f
  have hb5 : out.length + PL.length ≤ 140737488355328 := by rw [HPN.out]; omega
  have HB5 := hide hb5
  have hgb : ∀ k, (Value.slice a2 out.length x2).ownBlock = some k → g ≠ k := fun k hk e => by
    have h0 : (tb g (txO r a2 out.length x2 L dn fl2 fd2)).P w5 Kt2 := h5f.rep 0 _ rfl
    have h2 : (tl (.slice a2 out.length x2) out).P w5 Ko2 := h5f.rep 2 _ rfl
    have := h5f.sep 0 2 _ _ rfl rfl (by decide) g h0.2.1
    rw [e] at this
    exact h2.2.1 k hk this
  have HGB := hide hgb
  have hgs : g < w5.heap.size := by
    have h0 : (tb g (txO r a2 out.length x2 L dn fl2 fd2)).P w5 Kt2 := h5f.rep 0 _ rfl
    exact h0.2.2 g h0.2.1
  have HG0 := hide (h5f.tbat 0 rfl)
  clear h5 h5f hob hsb d0 HRW hb5 hgb
  go_wp2_with (at_builtin; refine wpList_app rfl _ _ 22 rfl 0 _ _ out PL rfl HOB.out rfl HSR.out HB5.out (Nat.zero_le _) ?_)
  intro v6 w6 ho6 hg6
  obtain ⟨S, HS⟩ : ∃ S, Hid (S = out ++ PL) := ⟨_, rfl⟩
  rw [← HS.out] at ho6
  have hL6 : S.length ≤ L := by rw [HS.out, List.length_append, HPN.out]; omega
  obtain ⟨a6, c6, rfl⟩ := ho6.shape
  have HT6 := hide (tx_app HX5.out (Below.refl _ _) HFX2.out hL6 hL2 ho6 hg6)
  have hb6 : w6.heap[g]? = some (txO r a2 out.length x2 L dn fl2 fd2) := (hg6.by.block g hgs (fun e => HGB.out g e.symm rfl)).trans HG0.out
  have g1 := (txO_cells hb6).2.1
  have g2 := txO_free hb6
  clear f0 f1 f2 f3 f4 f5 ffz ho6 hg6 hb6
  go_wp2
  refine bodyPost_end (results_none rfl _ _ _) rfl ?_
  have e : st1 row L p out = (0, PP, S) := by rw [HRU2.out, if_neg (by omega), if_neg hge, HPP2.out, HS.out, HPL2.out]
  rw [e]
  exact .inl ⟨rfl, rfl, HT6.out⟩
end Go.Proofs.YtmjdpfigkojolaaGreatDoor

namespace Go.Proofs.YtmjdpfigkojolaaGreatDoor
open Go.RowKit Go.Maps
set_option maxRecDepth 20000
set_option linter.unusedVariables false

theorem TX.push {W w : World} {g r : Nat} {row : List Int} {p L : Nat} {out : List Int} {dn : Bool} {ys : List ((Nat → Nat) × Thing)} (H : TX W w g r row p L out dn ys) (o : Obj) : ∃ K, TX W (w.alloc o) g r row p L out dn (ys ++ [(K, tb w.heap.size o)]) := by
  obtain ⟨Kt, Kr, Ko, a, c, fl, fd, HH, hfx, hk⟩ := H
  obtain ⟨K, h⟩ := HH.box1 o
  exact ⟨K, Kt, Kr, Ko, a, c, fl, fd, h, hfx.app, hk⟩

theorem TX.box {W w : World} {g r : Nat} {row : List Int} {p L : Nat} {out : List Int} {dn : Bool} {ys zs : List ((Nat → Nat) × Thing)} {K : Nat → Nat} {b : Nat} {o : Obj} (H : TX W w g r row p L out dn (ys ++ (K, tb b o) :: zs)) : w.heap[b]? = some o := by
  obtain ⟨Kt, Kr, Ko, a, c, fl, fd, HH, hfx, hk⟩ := H
  exact HH.tbat _ (at_3 _ _ _ _ _ _)

theorem TX.at {W w : World} {g r : Nat} {row : List Int} {p L : Nat} {out : List Int} {dn : Bool} {ys : List ((Nat → Nat) × Thing)} (H : TX W w g r row p L out dn ys) : w.cell? ⟨r, 1, none⟩ = some (.int .i64 p) := by
  obtain ⟨Kt, Kr, Ko, a, c, fl, fd, HH, hfx, hk⟩ := H
  have hR : Rp w Kr r row p := HH.rep 1 _ rfl
  obtain ⟨v, d, h1, _⟩ := hR
  exact h1.cell 1

theorem TX.lit {W w w1 w6 : World} {g r : Nat} {row : List Int} {p L : Nat} {out : List Int} {dn : Bool} {ys : List ((Nat → Nat) × Thing)} (H : TX W w g r row p L out dn ys) : ∃ a c, w.cell? ⟨g, 1, none⟩ = some (.slice a out.length c) ∧ OB w 0 (.slice a out.length c) out ∧ out.length ≤ L ∧ L ≤ 16777216 ∧
    ∀ (w1 w6 : World) (v' : Value) (out' : List Int), Below w.heap.size w w1 → OB w6 0 v' out' → Grew w1 w6 (.slice a out.length c) v' → w6.cell? ⟨g, 1, none⟩ = some (.slice a out.length c) ∧ (∀ k, w6.frozen? ⟨g, k, none⟩ = false) ∧ (out'.length ≤ L → TX W (w6.setCell ⟨g, 1, none⟩ v') g r row p L out' dn ys) := by
  obtain ⟨Kt, Kr, Ko, a, c, fl, fd, HH, hfx, hoL, hL⟩ := H
  have h0 : (tb g (txO r a out.length c L dn fl fd)).P w Kt := HH.rep 0 _ rfl
  have h2 : (tl (.slice a out.length c) out).P w Ko := HH.rep 2 _ rfl
  refine ⟨a, c, (txO_cells h0.1).2.1, h2.1, hoL, hL, fun w1 w6 v' out' hb ho hg => ?_⟩
  have hgs := h0.2.2 g h0.2.1
  have e1 : w6.heap[g]? = w1.heap[g]? := hg.by.block g (Nat.lt_of_lt_of_le hgs hb.size) (fun e => by
    have := HH.sep 0 2 _ _ rfl rfl (by decide) g h0.2.1
    exact h2.2.1 g e.symm this)
  have e2 : w6.heap[g]? = some (txO r a out.length c L dn fl fd) := e1.trans ((hb.block g hgs).trans h0.1)
  exact ⟨(txO_cells e2).2.1, txO_free e2, fun hL' => tx_app HH hb hfx hL' hL ho hg⟩

theorem sy1_bad {l d row : List Int} {L p : Nat} {out : List Int} (h : syE l row p ≠ 0) : sy1 l d row L p out = (syE l row p, false, p, out) := by unfold sy1; rw [if_pos h]
theorem sy1_lit {l d row : List Int} {L p : Nat} {out : List Int} (h : syE l row p = 0) (hs : nxS l row p < 256) : sy1 l d row L p out = if L < out.length + 1 then (85, false, p, out) else (0, false, nxP l row p, out ++ [(nxS l row p : Int)]) := by
  unfold sy1; rw [if_neg (by simp [h]), if_pos hs]
theorem sy1_end {l d row : List Int} {L p : Nat} {out : List Int} (h : syE l row p = 0) (hs : nxS l row p = 256) : sy1 l d row L p out = (0, true, nxP l row p, out) := by
  unfold sy1; rw [if_neg (by simp [h]), if_neg (by omega), if_pos hs]
theorem sy1_copy {l d row : List Int} {L p : Nat} {out : List Int} (h : syE l row p = 0) (hs : 256 < nxS l row p) : sy1 l d row L p out =
  if lgE (nxS l row p) row (nxP l row p) ≠ 0 then (lgE (nxS l row p) row (nxP l row p), false, p, out)
  else if dtE d row (lgP (nxS l row p) (nxP l row p)) ≠ 0 then (dtE d row (lgP (nxS l row p) (nxP l row p)), false, p, out)
  else if agE L out (lgV (nxS l row p) row (nxP l row p)) (dtV d row (lgP (nxS l row p) (nxP l row p))) ≠ 0 then (agE L out (lgV (nxS l row p) row (nxP l row p)) (dtV d row (lgP (nxS l row p) (nxP l row p))), false, p, out)
  else (0, false, dtP d row (lgP (nxS l row p) (nxP l row p)), cpy (dtV d row (lgP (nxS l row p) (nxP l row p))) (lgV (nxS l row p) row (nxP l row p)) out) := by
  unfold sy1; rw [if_neg (by simp [h]), if_neg (by omega), if_neg (by omega)]

theorem lgV_le {row : List Int} (hb : Bit row) {s q : Nat} (hs : lgE s row q = 0) : lgV s row q ≤ 1000 := by
  have h285 : s ≤ 285 := by
    unfold lgE at hs
    by_cases c : 285 < s
    · rw [if_pos c] at hs; omega
    · omega
  have h1 := lnBle ⟨s, by omega⟩
  have h2 := ahead_le hb q (m := 5) (lnFle h285)
  have h3 := (ahead_bound hb q (lnF s)).1
  unfold lgV
  simp only at h1
  omega

theorem dtV_le {d row : List Int} (hb : Bit row) {q : Nat} (hs : dtE d row q = 0) : dtV d row q ≤ 40000 ∧ 0 < dtV d row q ∧ q < dtP d row q ∧ dtP d row q ≤ row.length := by
  unfold dtE at hs
  by_cases c0 : dcE d ≠ 0
  · rw [if_pos c0] at hs; omega
  rw [if_neg c0] at hs
  by_cases c1 : syE d row q ≠ 0
  · rw [if_pos c1] at hs; omega
  rw [if_neg c1] at hs
  by_cases c2 : 29 < nxS d row q
  · rw [if_pos c2] at hs; omega
  rw [if_neg c2] at hs
  by_cases c3 : row.length < nxP d row q + dsF (nxS d row q)
  · rw [if_pos c3] at hs; omega
  have hn := nx_lt (by omega : dcE d = 0) (sy_nx (by omega : syE d row q = 0))
  have h1 := dsBle ⟨nxS d row q, by omega⟩
  have h2 := ahead_le hb (nxP d row q) (m := 13) (dsFle (by omega : nxS d row q ≤ 29))
  have h3 := (ahead_bound hb (nxP d row q) (dsF (nxS d row q))).1
  unfold dtV dtP
  simp only at h1
  omega

set_option maxHeartbeats 4000000 in
theorem hsyms {W w : World} {g r : Nat} {row : List Int} {p L : Nat} {out : List Int} {dn : Bool} {ys : List ((Nat → Nat) × Thing)} (H : TX W w g r row p L out dn ys) {p1 p2 : Option Addr} {l d : List Int} (hc1 : Cd ys p1 l) (hc2 : Cd ys p2 d) (hl0 : dcE l = 0) (hl : l.length ≤ 288) (hd : d.length ≤ 32) :
    Calls Tryz.prog 42 #[.pointer (some ⟨g, 0, none⟩), .agg #[.pointer p1, .pointer p2]] w fun e w' => ∃ E q o, Sys l d row L p out E q o ∧ ((E = 0 ∧ e = .returned (.tuple #[]) ∧ ∃ zs, TX W w' g r row q L o dn (ys ++ zs)) ∨ (E ≠ 0 ∧ Ofg W ys E e w')) := by
  have HBT := hide H.rd.1
  obtain ⟨gl, il, Kl, rfl, hyl⟩ : ∃ (gl i : Nat) (K : Nat → Nat), p1 = some ⟨gl, 0, none⟩ ∧ ys[i]? = some (K, td gl l) := Cd.some hc1 hl0
  obtain ⟨KB, HB⟩ := H.push (cdO1 (some ⟨gl, 0, none⟩) p2)
  have HYL : Hid ((ys ++ [(KB, tb w.heap.size (cdO1 (some ⟨gl, 0, none⟩) p2))])[il]? = some (Kl, td gl l)) := get_app hyl
  have HC2 : Hid (Cd (ys ++ [(KB, tb w.heap.size (cdO1 (some ⟨gl, 0, none⟩) p2))]) p2 d) := hc2.app
  have HD0 := hide hl0
  obtain ⟨w0, HW0⟩ : ∃ w0, Hid (w.alloc (cdO1 (some ⟨gl, 0, none⟩) p2) = w0) := ⟨_, rfl⟩
  obtain ⟨B, HBB⟩ : ∃ B, Hid (w.heap.size = B) := ⟨_, rfl⟩
  rw [HW0.out, HBB.out] at HB
  rw [HBB.out] at HYL HC2
  have HTX := hide HB
  obtain ⟨ys', HYS⟩ : ∃ ys', Hid (ys ++ [(KB, tb B (cdO1 (some ⟨gl, 0, none⟩) p2))] = ys') := ⟨_, rfl⟩
  have HEND : Hid (∀ w' q o, TX W w' g r row q L o dn ys' → ∃ zs, TX W w' g r row q L o dn (ys ++ zs)) := fun w' q o h => ⟨_, by rw [HYS.out]; exact h⟩
  have HBOX : Hid (∀ w' q o, TX W w' g r row q L o dn ys' → w'.heap[B]? = some (cdO1 (some ⟨gl, 0, none⟩) p2)) := fun w' q o h => by rw [← HYS.out] at h; exact h.box
  have HOF : Hid (∀ w', Bel W ys' w' → Bel W ys w') := fun w' h => h.sub fun d hd => by rw [← HYS.out]; simp [hd]
  rw [HYS.out] at HYL HC2 HTX
  clear H HB hc1 hc2 hyl hl0 HYS
  go_enter Tryz.func42, Tryz.ntmps42
  go_wp2
  rw [HW0.out, HBB.out]
  clear HW0 HBB
  go_loopw [4, 5] (fun v4 v5 wr => ∃ (p' : Nat) (o' : List Int), Hid (TX W wr g r row p' L o' dn ys') ∧ Hid (∀ E q o, Sys l d row L p' o' E q o → Sys l d row L p out E q o)) (fun _ _ wr => row.length - (intOf ((wr.cell? ⟨r, 1, none⟩).getD undef)).toNat)
  case atStart => exact ⟨p, out, HTX, fun _ _ _ h => h⟩
  case round =>
    obtain ⟨p', o', HX, HSY⟩ := hrel
    clear HTX
    have hms : (intOf ((wr.cell? ⟨r, 1, none⟩).getD undef)).toNat = p' := by rw [HX.out.at]; simp [intOf]
    have HMS := hide hms
    obtain ⟨k0, k1, k2⟩ := cd_cells (HBOX.out _ _ _ HX.out)
    have HS := hide (hsym HX.out il HYL.out)
    clear hms
    go_wp2_with fail
    refine HS.out.mono ?_
    rintro e w1 (⟨hs, rfl, h1⟩ | ⟨hs, rfl, h1⟩)
    case inr =>
      have HX1 := hide h1
      clear h1 k0 k1 k2
      obtain ⟨E, HE⟩ : ∃ E, Hid (E = syE l row p') := ⟨_, rfl⟩
      rw [← HE.out] at hs ⊢
      go_wp2
      have hs' : syE l row p' ≠ 0 := by rw [← HE.out]; exact hs
      have hS : Sys l d row L p' o' E p' o' := by rw [HE.out]; exact Sys.bad (sy1_bad hs') hs'
      exact ⟨rfl, E, p', o', HSY.out _ _ _ hS, .inr ⟨hs, rfl, HOF.out _ HX1.out⟩⟩
    obtain ⟨n1, n2, n3⟩ := nx_lt HD0.out (sy_nx hs)
    have HSZ := hide hs
    obtain ⟨S, HSS⟩ : ∃ S : Nat, Hid (S = nxS l row p') := ⟨_, rfl⟩
    obtain ⟨P, HPP⟩ : ∃ P : Nat, Hid (P = nxP l row p') := ⟨_, rfl⟩
    rw [← HSS.out] at n1 ⊢
    rw [← HPP.out] at n2 n3 h1
    have HN2 := hide n2
    have HN3 := hide n3
    have HX1 := hide h1
    have hS : S < 288 := by omega
    obtain ⟨m0, m1, m2⟩ := cd_cells (HBOX.out _ _ _ h1)
    clear h1 hs n1 n2 n3 k0 k1 k2 HS
    rcases Nat.lt_trichotomy S 256 with c | c | c
    · have hc : (S : Int) < 256 := by omega
      have HL1 : Hid (sy1 l d row L p' o' = if L < o'.length + 1 then (85, false, p', o') else (0, false, P, o' ++ [(S : Int)])) := by
        show _ = _
        rw [sy1_lit HSZ.out (by rw [← HSS.out]; exact c), ← HSS.out, ← HPP.out]
      have HRM := hide (hroom HX1.out 1 (by omega))
      go_wp2_with fail
      refine HRM.out.mono ?_
      rintro e w2 (⟨hrm, rfl, qd, rfl⟩ | ⟨hrm, rfl, h2⟩)
      case inr =>
        have HX2 := hide h2
        clear h2 m0 m1 m2
        go_wp2
        have hS2 : Sys l d row L p' o' 85 p' o' := Sys.bad (by rw [HL1.out, if_pos hrm]) (by decide)
        exact ⟨rfl, 85, p', o', HSY.out _ _ _ hS2, .inr ⟨by decide, rfl, HOF.out _ HX2.out⟩⟩
      have hx2 := HX1.out.below (below_drewN (Below.refl _ _) qd)
      obtain ⟨w2, hw2⟩ : ∃ w2, w1.drewN qd = w2 := ⟨_, rfl⟩
      rw [hw2] at hx2 ⊢
      obtain ⟨a, cc, t1, hob, hoL, hL, hgo⟩ := TX.lit (w1 := w) (w6 := w) hx2
      have HGO := hide hgo
      have hu8 : IntKind.u8.wrap (S : Int) = (S : Int) := by rw [IntKind.wrap_u8]; omega
      have HOB : Hid (OB (w2.alloc (.cells #[.int .u8 (S : Int)] 5)) 0 (.slice a o'.length cc) o') := hob.alloc _
      have HSR : Hid (Src Tryz.prog 1 22 (.slice (some ⟨w2.heap.size, 0, none⟩) 1 1) ([(S : Int)] : List Int).length (([(S : Int)] : List Int).map (Value.int .u8)) (w2.alloc (.cells #[.int .u8 (S : Int)] 5))) := built_src w2 [(S : Int)]
      have HLB : Hid (o'.length + ([(S : Int)] : List Int).length ≤ 140737488355328) := by show _ ≤ _; simp; omega
      have HHL := hide hrm
      clear hgo hob hx2 hw2 HRM m0 m1 m2 hoL hL hrm
      obtain ⟨N, HN⟩ : ∃ N, Hid (N = o'.length) := ⟨_, rfl⟩
      go_wp2_with (at_builtin; refine wpList_app rfl _ _ 22 rfl 0 _ _ o' [(S : Int)] rfl HOB.out rfl HSR.out HLB.out (Nat.zero_le _) ?_)
      intro v6 w6 ho6 hg6
      obtain ⟨o6, HO6⟩ : ∃ o6, Hid (o6 = o' ++ [(S : Int)]) := ⟨_, rfl⟩
      rw [← HO6.out] at ho6
      obtain ⟨a6, c6, rfl⟩ := ho6.shape
      obtain ⟨t2, t3, t4⟩ := HGO.out _ w6 _ o6 ((Below.refl _ _).alloc (Nat.le_refl _) _) ho6 hg6
      have HT6 := hide (t4 (by rw [HO6.out]; simp; exact HHL.out))
      clear ho6 hg6 t4 t1 hu8
      go_wp2
      go_roundw
      case rel => exact ⟨P, o6, HT6, fun E q o h => HSY.out _ _ _ (Sys.go (by rw [HL1.out, if_neg (by have := HHL.out; omega), ← HO6.out]) h)⟩
      case measure =>
        rw [HMS.out, HT6.out.at]
        simp [intOf]
        have := HN2.out
        have := HN3.out
        omega
    · have HF : Hid (Sys l d row L p' o' 0 P o') := Sys.fin (by rw [sy1_end HSZ.out (by rw [← HSS.out]; exact c), ← HPP.out])
      subst c
      clear m0 m1 m2
      go_wp2
      (try simp only [Exit.inBlock, Exit.then])
      refine bodyPost_ret (results_none rfl _ _ _) rfl ?_
      exact ⟨0, P, o', HSY.out _ _ _ HF.out, .inl ⟨rfl, rfl, HEND.out _ _ _ HX1.out⟩⟩
    · have hc1 : ¬ ((S : Int) < 256) := by omega
      have hc2 : (256 : Int) < (S : Int) := by omega
      have HL1 : Hid (sy1 l d row L p' o' = if lgE S row P ≠ 0 then (lgE S row P, false, p', o')
          else if dtE d row (lgP S P) ≠ 0 then (dtE d row (lgP S P), false, p', o')
          else if agE L o' (lgV S row P) (dtV d row (lgP S P)) ≠ 0 then (agE L o' (lgV S row P) (dtV d row (lgP S P)), false, p', o')
          else (0, false, dtP d row (lgP S P), cpy (dtV d row (lgP S P)) (lgV S row P) o')) := by
        show _ = _
        rw [sy1_copy HSZ.out (by rw [← HSS.out]; exact c), ← HSS.out, ← HPP.out]
      have HLG := hide (hlength HX1.out S (by omega) (by omega))
      go_wp2_with fail
      refine HLG.out.mono ?_
      rintro e w2 (⟨hlg, rfl, h2⟩ | ⟨hlg, rfl, h2⟩)
      case inr =>
        have HX2 := hide h2
        clear h2 m0 m1 m2
        obtain ⟨E, HE⟩ : ∃ E, Hid (E = lgE S row P) := ⟨_, rfl⟩
        have HSB : Hid (Sys l d row L p' o' E p' o') := by rw [HE.out]; exact Sys.bad (by rw [HL1.out, if_pos hlg]) hlg
        rw [← HE.out] at hlg ⊢
        go_wp2
        exact ⟨rfl, E, p', o', HSY.out _ _ _ HSB.out, .inr ⟨hlg, rfl, HOF.out _ HX2.out⟩⟩
      obtain ⟨V, HV⟩ : ∃ V : Nat, Hid (V = lgV S row P) := ⟨_, rfl⟩
      have hV : V ≤ 1000 := by rw [HV.out]; exact lgV_le HBT.out hlg
      obtain ⟨Q1, HQ1⟩ : ∃ Q1 : Nat, Hid (Q1 = lgP S P) := ⟨_, rfl⟩
      have HL2 : Hid (sy1 l d row L p' o' = if dtE d row Q1 ≠ 0 then (dtE d row Q1, false, p', o')
          else if agE L o' V (dtV d row Q1) ≠ 0 then (agE L o' V (dtV d row Q1), false, p', o')
          else (0, false, dtP d row Q1, cpy (dtV d row Q1) V o')) := by
        show _ = _
        rw [HL1.out, if_neg (by simp [hlg]), ← HV.out, ← HQ1.out]
      have HQP : Hid (P ≤ Q1) := by show _ ≤ _; rw [HQ1.out]; unfold lgP; omega
      rw [← HV.out]
      rw [← HQ1.out] at h2
      obtain ⟨x0, x1, x2⟩ := cd_cells (HBOX.out _ _ _ h2)
      have HX2 := hide h2
      clear h2 m0 m1 m2 hlg HLG
      rcases HC2.out with ⟨rfl, hdz⟩ | ⟨gd, id, Kd, rfl, hyd⟩
      · have HDN := hide (hdist_no HX2.out hdz)
        go_wp2_with fail
        refine HDN.out.mono ?_
        rintro e w3 ⟨hdt, rfl, h3⟩
        have HX3 := hide h3
        clear h3 x0 x1 x2
        obtain ⟨E, HE⟩ : ∃ E, Hid (E = dtE d row Q1) := ⟨_, rfl⟩
        have HSB : Hid (Sys l d row L p' o' E p' o') := by rw [HE.out]; exact Sys.bad (by rw [HL2.out, if_pos hdt]) hdt
        rw [← HE.out] at hdt ⊢
        go_wp2
        exact ⟨rfl, E, p', o', HSY.out _ _ _ HSB.out, .inr ⟨hdt, rfl, HOF.out _ HX3.out⟩⟩
      have HDN := hide (hdist HX2.out id hyd hd)
      go_wp2_with fail
      refine HDN.out.mono ?_
      rintro e w3 (⟨hdt, rfl, h3⟩ | ⟨hdt, rfl, h3⟩)
      case inr =>
        have HX3 := hide h3
        clear h3 x0 x1 x2
        obtain ⟨E, HE⟩ : ∃ E, Hid (E = dtE d row Q1) := ⟨_, rfl⟩
        have HSB : Hid (Sys l d row L p' o' E p' o') := by rw [HE.out]; exact Sys.bad (by rw [HL2.out, if_pos hdt]) hdt
        rw [← HE.out] at hdt ⊢
        go_wp2
        exact ⟨rfl, E, p', o', HSY.out _ _ _ HSB.out, .inr ⟨hdt, rfl, HOF.out _ HX3.out⟩⟩
      obtain ⟨v1, v2, v3, v4⟩ := dtV_le HBT.out hdt
      obtain ⟨D, HDD⟩ : ∃ D : Nat, Hid (D = dtV d row Q1) := ⟨_, rfl⟩
      obtain ⟨Q2, HQ2⟩ : ∃ Q2 : Nat, Hid (Q2 = dtP d row Q1) := ⟨_, rfl⟩
      have HL3 : Hid (sy1 l d row L p' o' = if agE L o' V D ≠ 0 then (agE L o' V D, false, p', o') else (0, false, Q2, cpy D V o')) := by
        show _ = _
        rw [HL2.out, if_neg (by simp [hdt]), ← HDD.out, ← HQ2.out]
      rw [← HDD.out] at v1 v2 ⊢
      rw [← HQ2.out] at v3 v4 h3
      have HAG := hide (hagain h3 V D hV v2 v1)
      have HV3 := hide v3
      have HV4 := hide v4
      clear h3 x0 x1 x2 hdt HDN v3 v4
      go_wp2_with fail
      refine HAG.out.mono ?_
      rintro e w4 (⟨hag, rfl, h4⟩ | ⟨hag, rfl, h4⟩)
      case inr =>
        have HX4 := hide h4
        clear h4
        obtain ⟨E, HE⟩ : ∃ E, Hid (E = agE L o' V D) := ⟨_, rfl⟩
        have HSB : Hid (Sys l d row L p' o' E p' o') := by rw [HE.out]; exact Sys.bad (by rw [HL3.out, if_pos hag]) hag
        rw [← HE.out] at hag ⊢
        go_wp2
        exact ⟨rfl, E, p', o', HSY.out _ _ _ HSB.out, .inr ⟨hag, rfl, HOF.out _ HX4.out⟩⟩
      have HT6 := hide h4
      have HAG0 := hide hag
      clear h4 hag HAG
      go_wp2
      go_roundw
      case rel => exact ⟨Q2, cpy D V o', HT6, fun E q o h => HSY.out _ _ _ (Sys.go (by rw [HL3.out, if_neg (by simp [HAG0.out])]) h)⟩
      case measure =>
        rw [HMS.out, HT6.out.at]
        simp [intOf]
        have := HN2.out
        have := HN3.out
        have := HQP.out
        have := HV3.out
        have := HV4.out
        omega
end Go.Proofs.YtmjdpfigkojolaaGreatDoor

namespace Go.Proofs.YtmjdpfigkojolaaGreatDoor
open Go.RowKit Go.Maps
set_option maxRecDepth 20000
set_option linter.unusedVariables false

theorem tr_le {C row : List Int} (p : Nat) : p ≤ trP C row p := by
  unfold trP nxP
  split <;> omega

theorem rl_le {C row : List Int} (want : Nat) : ∀ f acc p, p ≤ (rl C row want f acc p).2.2
  | 0, acc, p => by simp [rl]
  | f + 1, acc, p => by
    unfold rl
    by_cases c0 : acc.length < want
    · rw [if_pos c0]
      by_cases c1 : trE C row p ≠ 0
      · rw [if_pos c1]; exact Nat.le_refl _
      · rw [if_neg c1]
        by_cases c2 : nxS C row p = 16 ∧ acc = []
        · rw [if_pos c2]; exact Nat.le_refl _
        · rw [if_neg c2]
          by_cases c3 : (want : Int) < acc.length + trC C row p
          · rw [if_pos c3]; exact Nat.le_refl _
          · rw [if_neg c3]
            exact Nat.le_trans (tr_le p) (rl_le want f _ _)
    · rw [if_neg c0]; exact Nat.le_refl _

theorem rd_le {row : List Int} {p : Nat} (h : (rdA row p).1 = 0) : p ≤ (rdA row p).2.2.2 := by
  rcases rd_cases row p with ⟨q, _⟩ | ⟨_, h1, h2, ⟨a, q⟩, hx, hk, hr⟩
  · exact absurd h q
  simp only at hx hk hr
  have := rl_le (C := smC row (p + 14) (rcN row p)) (row := row) (rcL row p + rcD row p) (rcL row p + rcD row p) [] (p + 14 + 3 * rcN row p)
  rw [hx] at this
  rw [hr]
  simp only at this ⊢
  omega

theorem sy1_go {l d row : List Int} {L p : Nat} {out : List Int} {b : Bool} {q : Nat} {o : List Int} (hb : Bit row) (hl : dcE l = 0) (h : sy1 l d row L p out = (0, b, q, o)) : p < q ∧ q ≤ row.length ∧ out.length ≤ o.length ∧ o.length ≤ max L out.length := by
  by_cases c0 : syE l row p ≠ 0
  · rw [sy1_bad c0] at h
    injection h with h
    exact absurd h c0
  have c0' : syE l row p = 0 := by omega
  obtain ⟨n1, n2, n3⟩ := nx_lt hl (sy_nx c0')
  rcases Nat.lt_trichotomy (nxS l row p) 256 with c | c | c
  · rw [sy1_lit c0' c] at h
    by_cases c1 : L < out.length + 1
    · rw [if_pos c1] at h; injection h with h; cases h
    · rw [if_neg c1] at h
      injection h with _ h
      injection h with _ h
      injection h with h1 h2
      subst h1; subst h2
      simp
      omega
  · rw [sy1_end c0' c] at h
    injection h with _ h
    injection h with _ h
    injection h with h1 h2
    subst h1; subst h2
    omega
  · rw [sy1_copy c0' c] at h
    by_cases c1 : lgE (nxS l row p) row (nxP l row p) ≠ 0
    · rw [if_pos c1] at h; injection h with h; exact absurd h c1
    rw [if_neg c1] at h
    by_cases c2 : dtE d row (lgP (nxS l row p) (nxP l row p)) ≠ 0
    · rw [if_pos c2] at h; injection h with h; exact absurd h c2
    rw [if_neg c2] at h
    have hd := dtV_le hb (by omega : dtE d row (lgP (nxS l row p) (nxP l row p)) = 0)
    by_cases c3 : agE L out (lgV (nxS l row p) row (nxP l row p)) (dtV d row (lgP (nxS l row p) (nxP l row p))) ≠ 0
    · rw [if_pos c3] at h; injection h with h; exact absurd h c3
    rw [if_neg c3] at h
    injection h with _ h
    injection h with _ h
    injection h with h1 h2
    subst h1; subst h2
    have hg : nxP l row p ≤ lgP (nxS l row p) (nxP l row p) := by unfold lgP; omega
    have ha : out.length + lgV (nxS l row p) row (nxP l row p) ≤ L := by
      unfold agE at c3
      by_cases d1 : out.length < dtV d row (lgP (nxS l row p) (nxP l row p))
      · rw [if_pos d1] at c3; omega
      · rw [if_neg d1] at c3
        by_cases d2 : L < out.length + lgV (nxS l row p) row (nxP l row p)
        · rw [if_pos d2] at c3; omega
        · omega
    rw [cpy_len]
    omega

theorem Sys.lt {l d row : List Int} {L p : Nat} {out : List Int} {e : Int} {q : Nat} {o : List Int} (hb : Bit row) (hl : dcE l = 0) (h : Sys l d row L p out e q o) : (e = 0 → p < q ∧ q ≤ row.length ∧ out.length ≤ o.length ∧ o.length ≤ max L out.length) := by
  induction h with
  | bad h1 h2 => exact fun h => absurd h h2
  | fin h1 => exact fun _ => sy1_go hb hl h1
  | go h1 h2 ih =>
    intro he
    have a := sy1_go hb hl h1
    have b := ih he
    omega

theorem st1_lt {row : List Int} {L p : Nat} {out : List Int} {q : Nat} {o : List Int} (hb : Bit row) (h : st1 row L p out = (0, q, o)) : p < q ∧ q ≤ row.length ∧ out.length ≤ o.length ∧ o.length ≤ max L out.length := by
  unfold st1 at h
  by_cases c0 : row.length < algn p + 32
  · rw [if_pos c0] at h; injection h with h; cases h
  rw [if_neg c0] at h
  by_cases c1 : ahead row (algn p) 16 + ahead row (algn p + 16) 16 ≠ 65535
  · rw [if_pos c1] at h; injection h with h; cases h
  rw [if_neg c1] at h
  by_cases c2 : L < out.length + (ahead row (algn p) 16).toNat
  · rw [if_pos c2] at h; injection h with h; cases h
  rw [if_neg c2] at h
  by_cases c3 : row.length < algn p + 32 + 8 * (ahead row (algn p) 16).toNat
  · rw [if_pos c3] at h; injection h with h; cases h
  rw [if_neg c3] at h
  injection h with _ h
  injection h with h1 h2
  subst h1; subst h2
  have h3 : p ≤ algn p := by unfold algn; omega
  have h4 : (pack ((row.drop (algn p + 32)).take (8 * (ahead row (algn p) 16).toNat))).length = (ahead row (algn p) 16).toNat := by
    rw [length_pack ((hb.drop _).take _), List.length_take, List.length_drop]; omega
  rw [List.length_append, h4]
  omega

theorem Blk.lt {row : List Int} {L p : Nat} {out : List Int} {f : Bool} {k : Int} {q : Nat} {o : List Int} {e : Int} (hb : Bit row) (h : Blk row L p out e f k q o) (he : e = 0) : p < q ∧ q ≤ row.length ∧ out.length ≤ o.length ∧ o.length ≤ max L out.length := by
  cases h with
  | short h1 => cases he
  | three h1 h2 => cases he
  | stored h1 h2 h3 => subst he; have := st1_lt hb h3; omega
  | fixed h1 h2 h3 => have := h3.lt hb fl_ok he; omega
  | head h1 h2 h3 => exact absurd he h3
  | dyn h1 h2 h3 h4 =>
    have := h4.lt hb (rd_good hb h3).1 he
    have := rd_le h3
    omega
end Go.Proofs.YtmjdpfigkojolaaGreatDoor

