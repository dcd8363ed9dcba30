import Derived.Test.YtjmjjjpanioifaaGCur
namespace Go.Proofs.Ytjmjjjpanioifaa
open Go.RowKit
set_option maxRecDepth 20000
variable {X : Nat → Prop}

def okN (st : CSt) (n : Int) : Prop := st.e = 0 ∧ 0 ≤ n ∧ n ≤ (st.d.length : Int) - st.p

instance (st : CSt) (n : Int) : Decidable (okN st n) := by unfold okN; exact inferInstance

def nextSt (st : CSt) (n : Int) : CSt := if st.e ≠ 0 then st else if n < 0 then { st with e := 1 } else if (st.d.length : Int) - st.p < n then { st with e := 20 } else { st with p := st.p + n.toNat }

def nextL (st : CSt) (n : Int) : List Int := if okN st n then (st.d.drop st.p).take n.toNat else []

/-- A slice that can be read. -/
def RS (w : World) (v : Value) (l : List Int) : Prop :=
  ∃ ao cap, v = .slice ao l.length cap ∧ l.length ≤ maxLen ∧ (l ≠ [] → ∃ b o, ao = some ⟨b, o, none⟩ ∧ ∀ i, i < l.length → w.cell? ⟨b, o + i, none⟩ = some (.int .u8 (l.getD i 0)))

theorem rs_nil (w : World) : RS w (.slice none 0 0) [] := ⟨none, 0, rfl, Nat.zero_le _, fun h => absurd rfl h⟩

theorem nextL_no {st : CSt} {n : Int} (h : ¬ okN st n) : nextL st n = [] := if_neg h

theorem nextSt_ok {st : CSt} {n : Int} (h : okN st n) : nextSt st n = { st with p := st.p + n.toNat } := by
  obtain ⟨h1, h2, h3⟩ := h
  unfold nextSt
  rw [if_neg (by omega), if_neg (by omega), if_neg (by omega)]

theorem nextL_ok {st : CSt} {n : Nat} (h : okN st n) : nextL st n = (st.d.drop st.p).take n ∧ (nextL st n).length = n := by
  have e : nextL st n = (st.d.drop st.p).take n := by unfold nextL; rw [if_pos h]; rfl
  refine ⟨e, ?_⟩
  rw [e, List.length_take, List.length_drop]
  obtain ⟨h1, h2, h3⟩ := h
  omega

theorem nextL_get {st : CSt} {n : Nat} (h : okN st n) {i : Nat} (hi : i < n) : (nextL st n).getD i 0 = st.d.getD (st.p + i) 0 := by
  rw [(nextL_ok h).1]
  simp [List.getD, hi]

theorem next_any {w : World} {g B : Nat} {st : CSt} (h : Cu X 124 w g st) (n : Int) (hB : B ≤ g) :
    Calls Try.prog 78 #[.pointer (some ⟨g, 0, none⟩), .int .i64 n] w fun e w' => ∃ v, e = .returned v ∧ RS w' v (nextL st n) ∧ Cu X 124 w' g (nextSt st n) ∧ Tch B g w w' := by
  have HC := hide h
  obtain ⟨v, h1, h2, h3, h4, h5, h6⟩ := h
  have hfz := h1.free
  obtain ⟨c0, c1, c2⟩ := h1.at
  have H1 := hide h1
  have H2 := hide h2
  have H6 := hide h6
  clear h1 h2 h5 h6
  by_cases he : st.e = 0
  case neg =>
    have HL : Hid (nextL st n = []) := nextL_no (fun h => he h.1)
    have HS : Hid (nextSt st n = st) := by show _ = _; unfold nextSt; rw [if_pos he]
    have he' : (st.e != 0) = true := by simpa using he
    clear c0 c1 c2
    go_enter Try.func78, Try.ntmps78
    go_wp2_with fail
    refine (err_any HC.out).mono ?_
    rintro e w ⟨rfl, rfl⟩
    go_wp2
    go_ret
    rw [HL.out, HS.out]
    exact ⟨_, rfl, rs_nil _, HC.out, Tch.refl _ _ _⟩
  case pos =>
  have HE := hide he
  by_cases hn : n < 0
  case pos =>
    have HL : Hid (nextL st n = []) := nextL_no (fun h => by have := h.2.1; omega)
    have HS : Hid (nextSt st n = { st with e := 1 }) := by show _ = _; unfold nextSt; rw [if_neg (by simp [he]), if_pos hn]
    have HF : Hid (Cu X 124 (w.setCell ⟨g, 2, none⟩ (.int .i64 1)) g { st with e := 1 }) := HC.out.upd st.p 1 h3 (fun v hv => hv.set.2.2 _) (setCell_others w g 2 _)
    clear c0 c1
    go_enter Try.func78, Try.ntmps78
    go_wp2_with fail
    refine (err_any HC.out).mono ?_
    rintro e w ⟨rfl, rfl⟩
    rw [HE.out]
    go_wp2
    go_ret
    rw [HL.out, HS.out]
    exact ⟨_, rfl, rs_nil _, HF.out, tch_set hB _⟩
  case neg =>
  by_cases hl : (st.d.length : Int) - st.p < n
  case pos =>
    have HL : Hid (nextL st n = []) := nextL_no (fun h => by have := h.2.2; omega)
    have HS : Hid (nextSt st n = { st with e := 20 }) := by show _ = _; unfold nextSt; rw [if_neg (by simp [he]), if_neg hn, if_pos hl]
    have HF : Hid (∀ k, Cu X 124 ((w.drewN k).setCell ⟨g, 2, none⟩ (.int .i64 20)) g { st with e := 20 }) := fun k => HC.out.upd st.p 20 h3 (fun v hv => hv.set.2.2 _) (setCell_others w g 2 _)
    clear c0 c1
    go_enter Try.func78, Try.ntmps78
    go_wp2_with fail
    refine (err_any HC.out).mono ?_
    rintro e w ⟨rfl, rfl⟩
    rw [HE.out]
    go_wp2_with fail
    refine (left_any HC.out).mono ?_
    rintro e w' ⟨rfl, k, rfl⟩
    go_wp2
    go_ret
    rw [HL.out, HS.out]
    exact ⟨_, rfl, rs_nil _, HF.out k, ((Tch.refl _ _ _).drewN k).trans (tch_set hB _)⟩
  case neg =>
    obtain ⟨m, rfl⟩ : ∃ m : Nat, n = m := ⟨n.toNat, by omega⟩
    have hok : okN st m := ⟨he, by omega, by omega⟩
    have HK := hide hok
    have HS : Hid (nextSt st m = { st with p := st.p + m }) := nextSt_ok hok
    have hsum : st.p + m ≤ st.d.length := by omega
    have HF : Hid (∀ (k q : Nat) (x : Int), x = (st.p : Int) + m → Cu X 124 (((w.drewN k).setCell ⟨g, 1, none⟩ (.int .i64 x)).drewN q) g (nextSt st m) ∧ Tch B g w (((w.drewN k).setCell ⟨g, 1, none⟩ (.int .i64 x)).drewN q)) := by
      intro k q x hx
      obtain rfl : x = ((st.p + m : Nat) : Int) := by omega
      rw [HS.out]
      exact ⟨HC.out.upd (w' := ((w.drewN k).setCell ⟨g, 1, none⟩ (.int .i64 ((st.p + m : Nat) : Int))).drewN q) (st.p + m) st.e hsum (fun v hv => hv.set.2.1 _) (setCell_others w g 1 _), (((Tch.refl _ _ _).drewN k).trans (tch_set hB _)).drewN q⟩
    clear hok he
    have HL : Hid ((nextL st m).length = m) := (nextL_ok HK.out).2
    have HG : Hid (∀ i, i < m → (nextL st m).getD i 0 = st.d.getD (st.p + i) 0) := fun i hi => nextL_get HK.out hi
    rcases H2.out with ⟨rfl, hd⟩ | ⟨b, cap, rfl, hc1, hc2, hc3⟩
    · obtain rfl : m = 0 := by rw [hd] at hsum; simp at hsum; omega
      have hp : st.p = 0 := by rw [hd] at hsum; simp at hsum; omega
      have hln : st.d.length = 0 := by rw [hd]; rfl
      have HZ : Hid (nextL st (0 : Nat) = []) := List.eq_nil_of_length_eq_zero HL.out
      rw [hp] at c1
      clear hd HG HL H1 c2
      go_enter Try.func78, Try.ntmps78
      go_wp2_with fail
      refine (err_any HC.out).mono ?_
      rintro e w ⟨rfl, rfl⟩
      rw [HE.out]
      go_wp2_with fail
      refine (left_any HC.out).mono ?_
      rintro e w' ⟨rfl, k, rfl⟩
      rw [hp]
      go_wp2
      go_quiet (fail)
      go_wp2
      go_ret
      refine ⟨_, rfl, ?_, HF.out _ _ _ (by rw [hp]; rfl)⟩
      rw [HZ.out]
      exact rs_nil _
    · have HC3 := hide hc3
      have hb : b ≠ g := fun e => H6.out.2 b rfl (by rw [e]; exact H6.out.1)
      clear hc3 H1 c2
      unfold maxLen at hc2
      go_enter Try.func78, Try.ntmps78
      go_wp2_with fail
      refine (err_any HC.out).mono ?_
      rintro e w ⟨rfl, rfl⟩
      rw [HE.out]
      go_wp2_with fail
      refine (left_any HC.out).mono ?_
      rintro e w' ⟨rfl, k, rfl⟩
      have HR : Hid (∀ (k q : Nat) (x : Int) (c o : Nat), (m ≠ 0 → o = st.p) → RS (((w.drewN k).setCell ⟨g, 1, none⟩ (.int .i64 x)).drewN q) (.slice (some ⟨b, o, none⟩) m c) (nextL st m)) := by
        intro k q x c o ho
        refine ⟨some ⟨b, o, none⟩, c, by rw [HL.out], by rw [HL.out]; unfold maxLen; omega, fun hne => ⟨b, o, rfl, fun i hi => ?_⟩⟩
        rw [HL.out] at hi
        have h1 := HC3.out (st.p + i) (by omega)
        have h2 : (((w.drewN k).setCell ⟨g, 1, none⟩ (.int .i64 x)).drewN q).cell? ⟨b, st.p + i, none⟩ = w.cell? ⟨b, st.p + i, none⟩ :=
          World.cell?_of_block (w := w) (w' := ((w.drewN k).setCell ⟨g, 1, none⟩ (.int .i64 x)).drewN q) (setCell_others w g 1 _ b hb)
        rw [ho (by omega), h2, h1, HG.out i hi]
      go_wp2
      go_quiet (fail)
      go_wp2
      all_goals go_ret
      all_goals refine ⟨_, rfl, ?_, HF.out _ _ _ rfl⟩
      · exact HR.out _ _ _ _ _ (fun h => by omega)
      · exact HR.out _ _ _ _ _ (fun _ => rfl)
end Go.Proofs.Ytjmjjjpanioifaa

