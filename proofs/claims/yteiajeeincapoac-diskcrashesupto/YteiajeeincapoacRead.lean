import Derived.Test.YteiajeeincapoacRuns
namespace Go.Proofs.Yteiajeeincapoac
open Go.RowKit Go.Maps

def readErr (st : St) (off n : Int) : Int := if st.dead then 12 else if off < 0 then 1 else if n < 0 then 1 else if (st.now.length : Int) < off + n then 11 else 0

def readL (st : St) (off n : Int) : List Int := if readErr st off n = 0 then (st.now.drop off.toNat).take n.toNat else []

theorem obNil (w : World) (base : Nat) : OB w base (.slice none 0 0) [] := World.ownsRow_nil _ _ _ _

set_option maxHeartbeats 2000000 in
theorem read_any {w : World} {K : Nat → Nat} {g : Nat} {st : St} (off n : Int) (h : Rep w K g st) (hl : st.now.length ≤ 16777216) :
    Calls Try.prog 37 #[.pointer (some ⟨g, 0, none⟩), .int .i64 off, .int .i64 n] w fun e w' => ∃ a c, e = .returned (.tuple #[.slice a (readL st off n).length c, .int .i64 (readErr st off n)]) ∧ OB w' w.heap.size (.slice a (readL st off n).length c) (readL st off n) ∧ Below w.heap.size w w' := by
  obtain ⟨vn, vd, m, vs, D, hV⟩ := h
  obtain ⟨_, c1, _⟩ := hV.dc.at
  have HV := hide hV
  have hrd := hide (ready_any HV.out.dc)
  clear hV
  cases hd : st.dead
  case true =>
    have HE : Hid (readErr st off n = 12) := by show _ = _; unfold readErr; rw [hd]; rfl
    have HL : Hid (readL st off n = []) := by show _ = _; unfold readL; rw [HE.out]; rfl
    rw [hd] at hrd
    clear hd
    go_enter Try.func37, Try.ntmps37
    go_wp2_with fail
    refine hrd.out.mono ?_
    rintro e w ⟨rfl, rfl⟩
    go_wp2
    go_ret2
    rw [HE.out, HL.out]
    exact ⟨none, 0, rfl, obNil _ _, Below.refl _ _⟩
  case false =>
    rw [hd] at hrd
    have HD := hide hd
    clear hd
    by_cases h0 : off < 0
    · have HE : Hid (readErr st off n = 1) := by show _ = _; unfold readErr; rw [HD.out, if_neg (by simp), if_pos h0]
      have HL : Hid (readL st off n = []) := by show _ = _; unfold readL; rw [HE.out]; rfl
      go_enter Try.func37, Try.ntmps37
      go_wp2_with fail
      refine hrd.out.mono ?_
      rintro e w ⟨rfl, rfl⟩
      go_wp2
      go_ret2
      rw [HE.out, HL.out]
      exact ⟨none, 0, rfl, obNil _ _, Below.refl _ _⟩
    · by_cases h1 : n < 0
      · have HE : Hid (readErr st off n = 1) := by show _ = _; unfold readErr; rw [HD.out, if_neg (by simp), if_neg h0, if_pos h1]
        have HL : Hid (readL st off n = []) := by show _ = _; unfold readL; rw [HE.out]; rfl
        go_enter Try.func37, Try.ntmps37
        go_wp2_with fail
        refine hrd.out.mono ?_
        rintro e w ⟨rfl, rfl⟩
        go_wp2
        go_ret2
        rw [HE.out, HL.out]
        exact ⟨none, 0, rfl, obNil _ _, Below.refl _ _⟩
      · obtain ⟨kn, cn, hvn⟩ := HV.out.hn.shape
        have hcn : st.now.length ≤ cn ∧ cn ≤ maxLen := by
          obtain ⟨a, c, e, h1, h2, _⟩ := HV.out.hn.sb
          rw [hvn] at e
          simp only [Value.slice.injEq] at e
          obtain ⟨-, -, rfl⟩ := e
          exact ⟨h1, h2⟩
        obtain ⟨hcn1, hcn2⟩ := hcn
        unfold maxLen at hcn2
        subst hvn
        by_cases h2 : (st.now.length : Int) < off + n
        · have HE : Hid (readErr st off n = 11) := by show _ = _; unfold readErr; rw [HD.out, if_neg (by simp), if_neg h0, if_neg h1, if_pos h2]
          have HL : Hid (readL st off n = []) := by show _ = _; unfold readL; rw [HE.out]; rfl
          have HBY := hide (beyond_yes off n st.now.length w (by omega) (by omega) (by omega) h2)
          clear h2
          go_enter Try.func37, Try.ntmps37
          go_wp2_with fail
          refine hrd.out.mono ?_
          rintro e w ⟨rfl, rfl⟩
          go_wp2_with fail
          refine HBY.out.mono ?_
          rintro e w ⟨rfl, rfl⟩
          go_wp2
          go_ret2
          rw [HE.out, HL.out]
          exact ⟨none, 0, rfl, obNil _ _, Below.refl _ _⟩
        · have HE : Hid (readErr st off n = 0) := by show _ = _; unfold readErr; rw [HD.out, if_neg (by simp), if_neg h0, if_neg h1, if_neg h2]
          have HL : Hid (readL st off n = (st.now.drop off.toNat).take n.toNat) := by show _ = _; unfold readL; rw [HE.out]; rfl
          obtain ⟨o, rfl⟩ := Int.eq_ofNat_of_zero_le (show 0 ≤ off by omega)
          obtain ⟨q, rfl⟩ := Int.eq_ofNat_of_zero_le (show 0 ≤ n by omega)
          have HBN := hide (beyond_no o q st.now.length w (by omega) (by omega) (by omega) (by omega))
          have hoq : o + q ≤ st.now.length := by omega
          have hlen : ((st.now.drop o).take q).length = q := by simp; omega
          have HLEN := hide hlen
          rw [show (o : Int).toNat = o by omega, show (q : Int).toNat = q by omega] at HL
          clear h0 h1 h2 hlen
          have s1 : (o : Int) ≤ (o : Int) + (q : Int) := by omega
          have s2 : (o : Int) + (q : Int) ≤ (cn : Int) := by omega
          have s3 : (o : Int) + (q : Int) - (o : Int) = (q : Int) := by omega
          rcases HV.out.hn.2 with ⟨e1, e2⟩ | ⟨gg, cap, cur, e1, _⟩
          · simp only [Value.slice.injEq] at e1
            obtain ⟨rfl, e1, rfl⟩ := e1
            have ho : o = 0 := by omega
            have hq : q = 0 := by omega
            subst ho hq
            have c1' : w.cell? ⟨g, 1, none⟩ = some (.slice none 0 0) := by rw [c1, e1]
            rw [e2] at HBN
            clear s1 s2 s3 hoq hcn1 hcn2 e2 e1 c1
            have HSB : Hid (SB w (.slice none 0 0) ((st.now.drop 0).take 0)) := ⟨none, 0, rfl, Nat.le_refl _, Nat.zero_le _, fun _ => rfl, fun x hx => by cases hx⟩
            go_enter Try.func37, Try.ntmps37
            go_wp2_with fail
            refine hrd.out.mono ?_
            rintro e w ⟨rfl, rfl⟩
            go_wp2_with fail
            refine HBN.out.mono ?_
            rintro e w ⟨rfl, rfl⟩
            go_wp2_with fail
            refine (slicesClone_any _ _ _ HSB.out (by simp)).mono ?_
            rintro e w1 ⟨a1, k1, rfl, hn, hb1⟩
            go_wp2
            go_ret2
            rw [HE.out, HL.out]
            exact ⟨_, _, rfl, hn, hb1⟩
          · simp only [Value.slice.injEq] at e1
            obtain ⟨rfl, -, rfl⟩ := e1
            have HSB : Hid (SB w (.slice (some ⟨gg, o, none⟩) q (cn - o)) ((st.now.drop o).take q)) := by
              obtain ⟨a, c, e, k1, k2, k3, k4⟩ := HV.out.hn.sb
              simp only [Value.slice.injEq] at e
              obtain ⟨rfl, -, rfl⟩ := e
              refine ⟨some ⟨gg, o, none⟩, cn - o, by rw [HLEN.out], by rw [HLEN.out]; omega, by unfold maxLen; omega, (fun e => by cases e), fun x hx i hi => ?_⟩
              cases hx
              rw [HLEN.out] at hi
              have := k4 _ rfl (o + i) (by omega)
              rw [Addr.add_lit, Nat.zero_add] at this
              rw [Addr.add_lit, this]
              simp [List.getD, hi]
            have HSZ : Hid (q = 0 → SB w (.slice (some ⟨gg, 0, none⟩) q 0) ((st.now.drop o).take q)) := by
              intro hq
              subst hq
              exact ⟨some ⟨gg, 0, none⟩, 0, by simp, by simp, Nat.zero_le _, (fun _ => rfl), fun x hx i hi => by simp at hi⟩
            go_enter Try.func37, Try.ntmps37
            go_wp2_with fail
            refine hrd.out.mono ?_
            rintro e w ⟨rfl, rfl⟩
            go_wp2_with fail
            refine HBN.out.mono ?_
            rintro e w ⟨rfl, rfl⟩
            go_wp2_with fail
            all_goals
              refine (slicesClone_any _ ((st.now.drop o).take q) _ (by first | exact HSB.out | exact HSZ.out (by omega)) (by rw [HLEN.out]; omega)).mono ?_
              rintro e w1 ⟨a1, k1, rfl, hn, hb1⟩
              rw [HLEN.out] at hn ⊢
              go_wp2
              go_ret2
              rw [HE.out, HL.out, HLEN.out]
              exact ⟨_, _, rfl, hn, hb1⟩
end Go.Proofs.Yteiajeeincapoac
