import Derived.Test.YthjgabncifghaabRBNum2
namespace Go.Proofs.Ythjgabncifghaab
open Go.RowKit Go.Maps
set_option maxRecDepth 20000

def patchL (l : List Int) (A : Nat) (v : Int) : Nat → List Int
  | 0 => l
  | k + 1 => (patchL l A v k).set (A + k) (v / 256 ^ k % 256)

theorem length_patchL (l : List Int) (A : Nat) (v : Int) (k : Nat) : (patchL l A v k).length = l.length := by
  induction k with
  | zero => rfl
  | succ k ih => simp [patchL, ih]

def patchSt (st : BSt) (A v : Int) : BSt :=
  if st.e ≠ 0 then st else if A < 0 ∨ (st.l.length : Int) - 4 < A then { st with e := 1 } else if wide v 4 then { st with e := 21 } else { st with l := patchL st.l A.toNat v 4 }

theorem two_pow8 (k : Nat) : (2 : Int) ^ (8 * k) = 256 ^ k := by rw [Int.pow_mul]; rfl

theorem OB.setAt {w : World} {base b p j : Nat} {l : List Int} (c : Int) (h : OB w base (.slice (some ⟨b, 0, none⟩) l.length p) l) :
    OB (w.setCell ⟨b, j, none⟩ (.int .u8 c)) base (.slice (some ⟨b, 0, none⟩) l.length p) (l.set j c) := by
  rcases h.2 with ⟨hx, _⟩ | ⟨g, cap, cur, he, h1, h2, h3, h4, h5, h6⟩
  · simp at hx
  · simp only [Value.slice.injEq, Option.some.injEq, Addr.mk.injEq] at he
    obtain ⟨⟨rfl, -, -⟩, -, rfl⟩ := he
    refine ⟨by simp, .inr ⟨b, p, cur.setIfInBounds j (.int .u8 c), by simp, h1, heap_setCell_at _ h2, by simpa using h3, h4, by simpa using h5, ?_⟩⟩
    rw [Nat.mul_one, List.length_set, Array.toList_setIfInBounds, List.map_set]
    rw [Nat.mul_one] at h6
    rw [List.take_set, h6]

theorem OB.cellAt {w : World} {base b p j : Nat} {l : List Int} (h : OB w base (.slice (some ⟨b, 0, none⟩) l.length p) l) (hj : j < l.length) : w.cell? ⟨b, j, none⟩ = some (.int .u8 (l.getD j 0)) ∧ w.frozen? ⟨b, j, none⟩ = false := by
  refine ⟨?_, ?_⟩
  · have := World.ownsRow.cells h (g := b) rfl j (.int .u8 (l.getD j 0)) (by simp [hj])
    rw [Addr.add_lit] at this
    simpa using this
  · rcases h.2 with ⟨hx, _⟩ | ⟨g, cap, cur, he, h1, h2, h3, h4, h5, h6⟩
    · simp at hx
    · simp only [Value.slice.injEq, Option.some.injEq, Addr.mk.injEq] at he
      obtain ⟨⟨rfl, -, -⟩, -, rfl⟩ := he
      simp [World.frozen?, h2]

theorem OB.some {w : World} {base : Nat} {v : Value} {l : List Int} (h : OB w base v l) (hl : 0 < l.length) : ∃ b p, v = .slice (.some ⟨b, 0, none⟩) l.length p ∧ l.length ≤ p ∧ p ≤ 9223372036854775807 := by
  rcases h.2 with ⟨rfl, h0⟩ | ⟨g, cap, cur, rfl, h1, h2, h3, h4, h5, h6⟩
  · omega
  · unfold maxLen at h4
    exact ⟨g, cap, rfl, h3, by omega⟩

set_option maxHeartbeats 4000000 in
theorem bpatch_any {w : World} {K : Nat → Nat} {g : Nat} {u : Value} {st : BSt} (h : BuV true w K g u st) (A v : Int) (hv0 : -9223372036854775808 ≤ v) (hv1 : v ≤ 9223372036854775807) :
    Calls Try.prog 24 #[.pointer (some ⟨g, 0, none⟩), .int .i64 A, .int .i64 v] w fun e w' => e = .returned (.tuple #[]) ∧ ∃ K', Bu true w' K' g (patchSt st A v) ∧ Fr K K' w w' := by
  have H := hide h
  obtain ⟨c0, c1, c2⟩ := S3.at h.s
  have hfz := S3.free h.s
  obtain ⟨a, p, rfl⟩ := h.o.shape
  have hlm : st.l.length ≤ 9223372036854775807 := by
    obtain ⟨_, _, e, h1, h2, _⟩ := h.o.sb
    simp only [Value.slice.injEq] at e
    unfold maxLen at h2
    omega
  clear h
  by_cases he : st.e = 0
  case neg =>
    have HS : Hid (patchSt st A v = st) := by show _ = _; unfold patchSt; rw [if_pos he]
    have he' : (st.e != 0) = true := by simpa using he
    clear c0 c1 c2
    go_enter Try.func24, Try.ntmps24
    go_wp2_with fail
    refine (berr_any H.out).mono ?_
    rintro e w ⟨rfl, rfl⟩
    go_wp2
    (try simp only [Exit.inBlock, Exit.then]); refine bodyPost_ret (results_none rfl _ _ _) rfl ?_
    rw [HS.out]
    exact ⟨rfl, K, ⟨_, H.out⟩, Fr.refl _ _⟩
  case pos =>
  have HE := hide he
  by_cases hA : A < 0
  case pos =>
    have HS : Hid (patchSt st A v = { st with e := 1 }) := by show _ = _; unfold patchSt; rw [if_neg (by simp [he]), if_pos (.inl hA)]
    have HR := hide (H.out.err 1 (by omega))
    clear he c0 c1
    go_enter Try.func24, Try.ntmps24
    go_wp2_with fail
    refine (berr_any H.out).mono ?_
    rintro e w ⟨rfl, rfl⟩
    rw [HE.out]
    go_wp2
    (try simp only [Exit.inBlock, Exit.then]); refine bodyPost_ret (results_none rfl _ _ _) rfl ?_
    rw [HS.out]
    exact ⟨rfl, K, ⟨_, HR.out.1⟩, HR.out.2⟩
  case neg =>
  by_cases hB : (st.l.length : Int) - 4 < A
  case pos =>
    have HS : Hid (patchSt st A v = { st with e := 1 }) := by show _ = _; unfold patchSt; rw [if_neg (by simp [he]), if_pos (.inr hB)]
    have HR := hide (H.out.err 1 (by omega))
    clear he c1
    go_enter Try.func24, Try.ntmps24
    go_wp2_with fail
    refine (berr_any H.out).mono ?_
    rintro e w ⟨rfl, rfl⟩
    rw [HE.out]
    go_wp2
    (try simp only [Exit.inBlock, Exit.then]); refine bodyPost_ret (results_none rfl _ _ _) rfl ?_
    rw [HS.out]
    exact ⟨rfl, K, ⟨_, HR.out.1⟩, HR.out.2⟩
  case neg =>
  by_cases hw : wide v 4
  case pos =>
    have HS : Hid (patchSt st A v = { st with e := 21 }) := by show _ = _; unfold patchSt; rw [if_neg (by simp [he]), if_neg (by omega), if_pos hw]
    have HW := hide hw
    clear he c1 hw
    go_enter Try.func24, Try.ntmps24
    go_wp2_with fail
    refine (berr_any H.out).mono ?_
    rintro e w ⟨rfl, rfl⟩
    rw [HE.out]
    go_wp2_with fail
    refine (fits_no H.out v 4 (by omega) hv0 hv1 HW.out).mono ?_
    rintro e w1 ⟨rfl, hb, hf⟩
    have HF := hide (And.intro hb hf)
    clear hb hf
    go_wp2
    (try simp only [Exit.inBlock, Exit.then]); refine bodyPost_end (results_none rfl _ _ _) rfl ?_
    rw [HS.out]
    exact ⟨rfl, K, ⟨_, HF.out.1⟩, HF.out.2⟩
  case neg =>
    obtain ⟨M, rfl⟩ : ∃ M : Nat, A = M := ⟨A.toNat, by omega⟩
    have HS : Hid (patchSt st M v = { st with l := patchL st.l M v 4 }) := by show _ = _; unfold patchSt; rw [if_neg (by simp [he]), if_neg (by omega), if_neg hw]; rfl
    have HW := hide hw
    have hfit : M + 4 ≤ st.l.length := by omega
    obtain ⟨b, p', hv', hp1, hp2⟩ := H.out.o.some (by omega)
    simp only [Value.slice.injEq] at hv'
    obtain ⟨rfl, -, rfl⟩ := hv'
    clear he c1 hw
    go_enter Try.func24, Try.ntmps24
    go_wp2_with fail
    refine (berr_any H.out).mono ?_
    rintro e w ⟨rfl, rfl⟩
    rw [HE.out]
    go_wp2_with fail
    refine (fits_yes H.out v 4 (by omega) HW.out).mono ?_
    rintro e w1 ⟨rfl, hw1⟩
    subst hw1
    go_wp2
    go_loopw [28] (fun i wr => ∃ k : Nat, k ≤ 4 ∧ i = .int .i64 k ∧ Hid (BuV true wr K g (.slice (some ⟨b, 0, none⟩) st.l.length p) { st with l := patchL st.l M v k } ∧ Fr K K w1 wr)) (fun i _ => 4 - (intOf i).toNat)
    case atStart => exact ⟨0, Nat.zero_le _, rfl, H.out, Fr.refl _ _⟩
    case round =>
      clear c0 c2 hfz
      obtain ⟨k, hk, rfl, HQ⟩ := hrel
      by_cases hlt : k < 4
      · obtain ⟨l1, HL1⟩ : ∃ l1, Hid (l1 = patchL st.l M v k) := ⟨_, rfl⟩
        have hq := HQ.out.1
        have HF1 := hide HQ.out.2
        have hll : l1.length = st.l.length := by rw [HL1.out, length_patchL]
        rw [← HL1.out, ← hll] at hq
        have HB1 := hide hq
        obtain ⟨c0, c1, c2⟩ := S3.at hq.s
        rw [hll] at c0
        obtain ⟨d0, df⟩ := hq.o.cellAt (j := M + k) (by show M + k < l1.length; omega)
        have hin : M + k < st.l.length := by omega
        have HN : Hid (∀ c : Int, c = v / 256 ^ k % 256 → BuV true (wr.setCell ⟨b, M + k, none⟩ (.int .u8 c)).drew K g (.slice (some ⟨b, 0, none⟩) st.l.length p) { st with l := patchL st.l M v (k + 1) } ∧ Fr K K w1 (wr.setCell ⟨b, M + k, none⟩ (.int .u8 c)).drew) := by
          intro c hc
          have hs := hq.o.setAt (j := M + k) c
          obtain ⟨h1, h2⟩ := hq.over (b := b) (o := M + k) (u := .int .u8 c) rfl hs
          have e : patchL st.l M v (k + 1) = l1.set (M + k) c := by rw [patchL, ← HL1.out, hc]
          rw [e, ← hll]
          exact ⟨h1.far (Nat.le_refl _) (fun _ _ => rfl), (HF1.out.trans h2).drewN 1⟩
        clear hq HQ c1 c2 hll
        go_wp2
        go_region
        go_wp2
        go_roundw
        case rel => exact ⟨k + 1, by omega, by go_num, HN.out _ (by rw [two_pow8])⟩
        case measure => simp [intOf]; omega
      · have hkn : k = 4 := by omega
        subst hkn
        go_wp2
        (try simp only [Exit.inBlock, Exit.then]); refine bodyPost_end (results_none rfl _ _ _) rfl ?_
        rw [HS.out]
        exact ⟨rfl, K, ⟨_, HQ.out.1⟩, HQ.out.2⟩
end Go.Proofs.Ythjgabncifghaab
