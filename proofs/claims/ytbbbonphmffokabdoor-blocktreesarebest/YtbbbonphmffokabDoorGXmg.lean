import Derived.Test.YtbbbonphmffokabDoorGXdp
namespace Go.Proofs.YtbbbonphmffokabDoor
open Go.RowKit Go.Maps
set_option maxRecDepth 20000
set_option linter.unusedVariables false
set_option linter.unusedSimpArgs false

def mmg : List Mnd → List Mnd → List Mnd
  | [], p => p
  | a :: w, [] => a :: w
  | a :: w, b :: p => if a.1.1 ≤ b.1.1 then a :: mmg w (b :: p) else b :: mmg (a :: w) p
termination_by w p => w.length + p.length

theorem mmg_row (A B : List Mnd) : mro (mmg A B) = nmg (mro A) (mro B) := by
  induction A, B using mmg.induct with
  | case1 p => simp [mmg, nmg, mro]
  | case2 a w => simp [mmg, nmg, mro]
  | case3 a w b p h ih =>
    have e : mro (a :: w) = a.1 :: mro w := rfl
    have e2 : mro (b :: p) = b.1 :: mro p := rfl
    rw [mmg, if_pos h, e, e2, nmg, if_pos h, ← e2, ← ih]
    rfl
  | case4 a w b p h ih =>
    have e : mro (a :: w) = a.1 :: mro w := rfl
    have e2 : mro (b :: p) = b.1 :: mro p := rfl
    rw [mmg, if_neg h, e, e2, nmg, if_neg h, ← e, ← ih]
    rfl

theorem mmg_nil (A : List Mnd) : mmg A [] = A := by cases A <;> simp [mmg]

theorem mmg_len (A B : List Mnd) : (mmg A B).length = A.length + B.length := by
  induction A, B using mmg.induct with
  | case1 p => simp [mmg]
  | case2 a w => simp [mmg]
  | case3 a w b p h ih => rw [mmg, if_pos h]; simp only [List.length_cons] at ih ⊢; omega
  | case4 a w b p h ih => rw [mmg, if_neg h]; simp only [List.length_cons] at ih ⊢; omega

theorem mmg_mem {A B : List Mnd} {p : Mnd} (h : p ∈ mmg A B) : p ∈ A ∨ p ∈ B := by
  induction A, B using mmg.induct with
  | case1 q => rw [mmg] at h; exact .inr h
  | case2 a w => rw [mmg] at h; exact .inl h
  | case3 a w b q c ih =>
    rw [mmg, if_pos c] at h
    rcases List.mem_cons.1 h with h | h
    · exact .inl (List.mem_cons.2 (.inl h))
    · rcases ih h with h | h
      · exact .inl (List.mem_cons_of_mem _ h)
      · exact .inr h
  | case4 a w b q c ih =>
    rw [mmg, if_neg c] at h
    rcases List.mem_cons.1 h with h | h
    · exact .inr (List.mem_cons.2 (.inl h))
    · rcases ih h with h | h
      · exact .inl h
      · exact .inr (List.mem_cons_of_mem _ h)

theorem mdrop {A : List Mnd} {i : Nat} (h : i < A.length) : A.drop i = A.getD i mn0 :: A.drop (i + 1) := by
  rw [List.drop_eq_getElem_cons h]
  simp [h]

theorem mmg_a {A B : List Mnd} {i j : Nat} (hi : i < A.length) (h : B.length ≤ j ∨ (A.getD i mn0).1.1 ≤ (B.getD j mn0).1.1) : mmg (A.drop i) (B.drop j) = A.getD i mn0 :: mmg (A.drop (i + 1)) (B.drop j) := by
  rw [mdrop hi]
  by_cases hj : j < B.length
  · rw [mdrop hj, mmg, if_pos (h.resolve_left (by omega))]
  · rw [List.drop_of_length_le (l := B) (by omega), mmg_nil, mmg_nil]

theorem mmg_b {A B : List Mnd} {i j : Nat} (hj : j < B.length) (h : A.length ≤ i ∨ (B.getD j mn0).1.1 < (A.getD i mn0).1.1) : mmg (A.drop i) (B.drop j) = B.getD j mn0 :: mmg (A.drop i) (B.drop (j + 1)) := by
  rw [mdrop hj]
  by_cases hi : i < A.length
  · rw [mdrop hi, mmg, if_neg (by have := h.resolve_left (by omega); omega)]
  · rw [List.drop_of_length_le (l := A) (by omega), mmg, mmg]

set_option maxHeartbeats 2000000 in
theorem merged_any (v1 v2 : Value) (A B : List Mnd) (w : World) (b1 b2 : Nat) (h1 : ON w b1 v1 A) (h2 : ON w b2 v2 B) (l1 : A.length ≤ 1000) (l2 : B.length ≤ 1000) :
    Calls Tryd.prog 68 #[v1, v2] w fun e w' => ∃ v', e = .returned v' ∧ ON w' w.heap.size v' (mmg A B) ∧ Below w.heap.size w w' := by
  have HA := hide h1
  have HB := hide h2
  obtain ⟨aa, ca, rfl, ha1, ha2⟩ := h1.shape
  obtain ⟨ab, cb, rfl, hb1, hb2⟩ := h2.shape
  clear h1 h2
  obtain ⟨na, hna⟩ : ∃ n, n = A.length := ⟨_, rfl⟩
  obtain ⟨nb, hnb⟩ : ∃ n, n = B.length := ⟨_, rfl⟩
  rw [← hna] at HA ha1 l1 ⊢
  rw [← hnb] at HB hb1 l2 ⊢
  have HNA := hide hna
  have HNB := hide hnb
  clear hna hnb
  go_enter Tryd.func68, Tryd.ntmps68
  go_wp2
  go_loopw [5, 6, 7] (fun u vi vj wr => ∃ (i j : Nat) (D : List Mnd), i ≤ na ∧ j ≤ nb ∧ vi = .int .i64 (i : Int) ∧ vj = .int .i64 (j : Int) ∧ D.length ≤ i + j ∧ Hid (ON wr w.heap.size u D) ∧ Hid (Below w.heap.size w wr) ∧ Hid (D ++ mmg (A.drop i) (B.drop j) = mmg A B)) (fun _ vi vj _ => na + nb - ((intOf vi).toNat + (intOf vj).toNat))
  case atStart => exact ⟨0, 0, [], Nat.zero_le _, Nat.zero_le _, rfl, rfl, Nat.zero_le _, ⟨World.ownsRow_nil _ _ _ _, fun p hp => by simp at hp⟩, Below.refl _ _, by rw [List.drop_zero, List.drop_zero]; rfl⟩
  case round =>
    obtain ⟨i, j, D, hi, hj, rfl, rfl, hD, HN, HBW, HEQ⟩ := hrel
    obtain ⟨a1, p1, hu, _⟩ := HN.out.shape
    subst hu
    have hBw := HBW.out.size
    have HONA := hide (HA.out.below HBW.out (Nat.le_refl _))
    have HONB := hide (HB.out.below HBW.out (Nat.le_refl _))
    have HBD : Hid (∀ q, Below w.heap.size w (wr.drewN q)) := fun q => below_drewN HBW.out q
    have HND : Hid (∀ q, ON (wr.drewN q) w.heap.size (.slice a1 D.length p1) D) := fun q => HN.out.drewN q
    by_cases hia : i < na
    · have hia' : (i : Int) < (na : Int) := by omega
      have hiA : i < A.length := by rw [← HNA.out]; exact hia
      obtain ⟨gx, cx, hvx, xx1, xx2⟩ := HONA.out.get (i := i) (by rw [← HNA.out]; omega)
      simp only [Value.slice.injEq] at hvx
      obtain ⟨rfl, -, rfl⟩ := hvx
      have hhx := HONA.out.holds _ (md_mem (show i < A.length by rw [← HNA.out]; omega))
      obtain ⟨Px, HPx⟩ : ∃ p, Hid (p = A.getD i mn0) := ⟨_, hide rfl⟩
      rw [← HPx.out] at xx1 xx2 hhx
      obtain ⟨⟨wx, hx⟩, vx⟩ := Px
      obtain ⟨sx, dx, hqx⟩ := hhx.shape
      have hqx' : vx = .slice sx (ci hx).length dx := hqx
      subst hqx'
      obtain ⟨mx, hmx⟩ : ∃ m, m = (ci hx).length := ⟨_, rfl⟩
      rw [← hmx] at xx2 hhx HPx
      have xx1' : wr.cell? ⟨gx, i * 2, none⟩ = some (.int .i64 (wx : Int)) := xx1
      have xx2' : wr.cell? ⟨gx, i * 2 + 1, none⟩ = some (.slice sx mx dx) := xx2
      have HHOx : Hid (∀ q, OI (wr.drewN q) 0 (.slice sx mx dx) (ci hx)) := fun q => hhx.move fun _ _ => rfl
      clear hhx hqx hmx xx1 xx2
      by_cases hjb : j < nb
      · have hjb' : (j : Int) < (nb : Int) := by omega
        have hjne : ((j : Int) == (nb : Int)) = false := by simp; omega
        have hjne2 : ¬ (j : Int) = (nb : Int) := by omega
        have hjB : j < B.length := by rw [← HNB.out]; exact hjb
        obtain ⟨gy, cy, hvy, xy1, xy2⟩ := HONB.out.get (i := j) (by rw [← HNB.out]; omega)
        simp only [Value.slice.injEq] at hvy
        obtain ⟨rfl, -, rfl⟩ := hvy
        have hhy := HONB.out.holds _ (md_mem (show j < B.length by rw [← HNB.out]; omega))
        obtain ⟨Py, HPy⟩ : ∃ p, Hid (p = B.getD j mn0) := ⟨_, hide rfl⟩
        rw [← HPy.out] at xy1 xy2 hhy
        obtain ⟨⟨wy, hy⟩, vy⟩ := Py
        obtain ⟨sy, dy, hqy⟩ := hhy.shape
        have hqy' : vy = .slice sy (ci hy).length dy := hqy
        subst hqy'
        obtain ⟨my, hmy⟩ : ∃ m, m = (ci hy).length := ⟨_, rfl⟩
        rw [← hmy] at xy2 hhy HPy
        have xy1' : wr.cell? ⟨gy, j * 2, none⟩ = some (.int .i64 (wy : Int)) := xy1
        have xy2' : wr.cell? ⟨gy, j * 2 + 1, none⟩ = some (.slice sy my dy) := xy2
        have HHOy : Hid (∀ q, OI (wr.drewN q) 0 (.slice sy my dy) (ci hy)) := fun q => hhy.move fun _ _ => rfl
        clear hhy hqy hmy xy1 xy2
        by_cases hle : wx ≤ wy
        · have hle' : (wx : Int) ≤ (wy : Int) := by omega
          have HE2 : Hid ((D ++ [((wx, hx), .slice sx mx dx)]) ++ mmg (A.drop (i + 1)) (B.drop j) = mmg A B) := by
            show _ = _
            rw [← HEQ.out, mmg_a hiA (.inr (by rw [← HPx.out, ← HPy.out]; exact hle)), ← HPx.out, List.append_assoc]
            rfl
          clear HEQ
          go_wp2
          go_quiet (fail)
          go_wp2_with (at_builtin; refine wpNode rfl _ _ rfl w.heap.size (.slice a1 D.length p1) D ((wx, hx), .slice sx mx dx) _ rfl (HHOx.out _) rfl (HND.out _) _ rfl (by omega) (by simp; omega) ?_)
          intro v3 w3 ho3 hg3
          have HN3 := hide ho3
          have HB3 := hide (grow_node (HBD.out _) (Nat.le_refl _) (HND.out _) hg3)
          clear ho3 hg3
          go_wp2
          go_roundw
          case rel => exact ⟨(i + 1), j, _, by omega, by omega, by go_num, by go_num, by simp; omega, HN3, HB3, HE2⟩
          case measure => simp [intOf]; omega
        · have hle' : ¬ (wx : Int) ≤ (wy : Int) := by omega
          have HE2 : Hid ((D ++ [((wy, hy), .slice sy my dy)]) ++ mmg (A.drop i) (B.drop (j + 1)) = mmg A B) := by
            show _ = _
            rw [← HEQ.out, mmg_b hjB (.inr (by rw [← HPx.out, ← HPy.out]; exact Nat.lt_of_not_le hle)), ← HPy.out, List.append_assoc]
            rfl
          clear HEQ
          go_wp2
          go_quiet (fail)
          go_wp2_with (at_builtin; refine wpNode rfl _ _ rfl w.heap.size (.slice a1 D.length p1) D ((wy, hy), .slice sy my dy) _ rfl (HHOy.out _) rfl (HND.out _) _ rfl (by omega) (by simp; omega) ?_)
          intro v3 w3 ho3 hg3
          have HN3 := hide ho3
          have HB3 := hide (grow_node (HBD.out _) (Nat.le_refl _) (HND.out _) hg3)
          clear ho3 hg3
          go_wp2
          go_roundw
          case rel => exact ⟨i, (j + 1), _, by omega, by omega, by go_num, by go_num, by simp; omega, HN3, HB3, HE2⟩
          case measure => simp [intOf]; omega
      · obtain rfl : j = nb := by omega
        have hjB : B.length ≤ j := by rw [← HNB.out]; exact Nat.le_refl _
        have HE2 : Hid ((D ++ [((wx, hx), .slice sx mx dx)]) ++ mmg (A.drop (i + 1)) (B.drop j) = mmg A B) := by
          show _ = _
          rw [← HEQ.out, mmg_a hiA (.inl hjB), ← HPx.out, List.append_assoc]
          rfl
        clear HEQ
        go_wp2
        go_quiet (fail)
        go_wp2_with (at_builtin; refine wpNode rfl _ _ rfl w.heap.size (.slice a1 D.length p1) D ((wx, hx), .slice sx mx dx) _ rfl (HHOx.out _) rfl (HND.out _) _ rfl (by omega) (by simp; omega) ?_)
        intro v3 w3 ho3 hg3
        have HN3 := hide ho3
        have HB3 := hide (grow_node (HBD.out _) (Nat.le_refl _) (HND.out _) hg3)
        clear ho3 hg3
        go_wp2
        go_roundw
        case rel => exact ⟨(i + 1), j, _, by omega, by omega, by go_num, by go_num, by simp; omega, HN3, HB3, HE2⟩
        case measure => simp [intOf]; omega
    · obtain rfl : i = na := by omega
      have hiA : A.length ≤ i := by rw [← HNA.out]; exact Nat.le_refl _
      have hia' : ¬ (i : Int) < (i : Int) := by omega
      by_cases hjb : j < nb
      · have hjb' : (j : Int) < (nb : Int) := by omega
        have hjne : ((j : Int) == (nb : Int)) = false := by simp; omega
        have hjne2 : ¬ (j : Int) = (nb : Int) := by omega
        have hjB : j < B.length := by rw [← HNB.out]; exact hjb
        obtain ⟨gy, cy, hvy, xy1, xy2⟩ := HONB.out.get (i := j) (by rw [← HNB.out]; omega)
        simp only [Value.slice.injEq] at hvy
        obtain ⟨rfl, -, rfl⟩ := hvy
        have hhy := HONB.out.holds _ (md_mem (show j < B.length by rw [← HNB.out]; omega))
        obtain ⟨Py, HPy⟩ : ∃ p, Hid (p = B.getD j mn0) := ⟨_, hide rfl⟩
        rw [← HPy.out] at xy1 xy2 hhy
        obtain ⟨⟨wy, hy⟩, vy⟩ := Py
        obtain ⟨sy, dy, hqy⟩ := hhy.shape
        have hqy' : vy = .slice sy (ci hy).length dy := hqy
        subst hqy'
        obtain ⟨my, hmy⟩ : ∃ m, m = (ci hy).length := ⟨_, rfl⟩
        rw [← hmy] at xy2 hhy HPy
        have xy1' : wr.cell? ⟨gy, j * 2, none⟩ = some (.int .i64 (wy : Int)) := xy1
        have xy2' : wr.cell? ⟨gy, j * 2 + 1, none⟩ = some (.slice sy my dy) := xy2
        have HHOy : Hid (∀ q, OI (wr.drewN q) 0 (.slice sy my dy) (ci hy)) := fun q => hhy.move fun _ _ => rfl
        clear hhy hqy hmy xy1 xy2
        have HE2 : Hid ((D ++ [((wy, hy), .slice sy my dy)]) ++ mmg (A.drop i) (B.drop (j + 1)) = mmg A B) := by
          show _ = _
          rw [← HEQ.out, mmg_b hjB (.inl hiA), ← HPy.out, List.append_assoc]
          rfl
        clear HEQ
        go_wp2
        go_quiet (fail)
        go_wp2_with (at_builtin; refine wpNode rfl _ _ rfl w.heap.size (.slice a1 D.length p1) D ((wy, hy), .slice sy my dy) _ rfl (HHOy.out _) rfl (HND.out _) _ rfl (by omega) (by simp; omega) ?_)
        intro v3 w3 ho3 hg3
        have HN3 := hide ho3
        have HB3 := hide (grow_node (HBD.out _) (Nat.le_refl _) (HND.out _) hg3)
        clear ho3 hg3
        go_wp2
        go_roundw
        case rel => exact ⟨i, (j + 1), _, by omega, by omega, by go_num, by go_num, by simp; omega, HN3, HB3, HE2⟩
        case measure => simp [intOf]; omega
      · obtain rfl : j = nb := by omega
        have hjb' : ¬ (j : Int) < (j : Int) := by omega
        have HF : Hid (ON wr w.heap.size (.slice a1 D.length p1) (mmg A B)) := by
          have e := HEQ.out
          rw [List.drop_of_length_le hiA, List.drop_of_length_le (by rw [← HNB.out]; exact Nat.le_refl _)] at e
          rw [mmg, List.append_nil] at e
          rw [← e]
          exact HN.out
        clear HEQ
        go_wp2
        go_ret
        exact ⟨_, rfl, HF.out, HBW.out⟩
end Go.Proofs.YtbbbonphmffokabDoor

