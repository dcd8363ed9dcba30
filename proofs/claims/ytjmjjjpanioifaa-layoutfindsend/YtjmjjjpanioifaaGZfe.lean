import Derived.Test.YtjmjjjpanioifaaGEnf
namespace Go.Proofs.Ytjmjjjpanioifaa
open Go.RowKit Go.Maps
set_option maxRecDepth 20000
set_option linter.unusedVariables false
set_option linter.unusedSimpArgs false

set_option maxHeartbeats 8000000 in
theorem zfindEnd_any (v : Value) (d : List Int) (w : World) (h : SB w v d) (hB : Byt d) (hd : d.length ≤ 140737488351232) :
    Calls Try.prog 18 #[v] w fun e w' => ∃ P E, e = .returned (.tuple #[.int .i64 P, .int .i64 E]) ∧ IsEnd d P E ∧ Below w.heap.size w w' := by
  have HS := hide h
  obtain ⟨ao, cap, rfl, q1, q2, q3⟩ := h.open11
  have HQ3 := hide q3
  have HBy := hide hB
  clear h q3 hB
  by_cases hbig : (16777216 : Int) < (d.length : Int)
  · go_enter Try.func18, Try.ntmps18
    go_wp2
    go_ret2
    exact ⟨0, 1, rfl, .inl ⟨by omega, rfl, rfl⟩, Below.refl _ _⟩
  have hl : d.length ≤ 16777216 := by omega
  go_enter Try.func18, Try.ntmps18
  go_wp2
  go_loopw [4, 5, 6, 7] (fun i _ _ _ wr => ∃ p : Int, i = .int .i64 p ∧ -23 ≤ p ∧ p ≤ (d.length : Int) - 22 ∧ Hid (∀ q : Int, p < q → 0 ≤ q → q ≤ (d.length : Int) - 22 → ¬ okEnd d q) ∧ Hid (Below w.heap.size w wr)) (fun i _ _ _ _ => (intOf i + 100).toNat)
  case atStart => exact ⟨(d.length : Int) - 22, by go_num, by omega, by omega, fun q h1 h2 h3 => absurd h1 (by omega), Below.refl _ _⟩
  case round =>
    obtain ⟨p, rfl, hp0, hp1, HI, HBr⟩ := hrel
    by_cases h0 : 0 ≤ p
    case neg =>
      go_wp2
      go_ret2
      exact ⟨0, 130, rfl, .inr (.inr ⟨hl, rfl, rfl, fun q k0 k1 k2 => HI.out q (by omega) k0 k2⟩), HBr.out⟩
    by_cases h1 : (d.length : Int) - 22 - 65535 ≤ p
    case neg =>
      go_wp2
      go_ret2
      exact ⟨0, 130, rfl, .inr (.inr ⟨hl, rfl, rfl, fun q k0 k1 k2 => HI.out q (by omega) k0 k2⟩), HBr.out⟩
    obtain ⟨n, rfl⟩ : ∃ n : Nat, p = n := ⟨p.toNat, by omega⟩
    obtain ⟨b, o, hao⟩ := HQ3.out (by omega)
    subst hao
    have HNX : Hid (¬ okEnd d n → ∃ r : Int, Value.int .i64 ((n : Int) - 1) = .int .i64 r ∧ -23 ≤ r ∧ r ≤ (d.length : Int) - 22 ∧ Hid (∀ q : Int, r < q → 0 ≤ q → q ≤ (d.length : Int) - 22 → ¬ okEnd d q)) := fun hk =>
      ⟨(n : Int) - 1, rfl, by omega, by omega, fun q k1 k2 k3 => by
        by_cases hq : q = n
        · rw [hq]; exact hk
        · exact HI.out q (by omega) k2 k3⟩
    have HSIG := hide (sig_four HBy.out (p := n) (show n + 4 ≤ d.length by omega))
    obtain ⟨y0, hy0⟩ : ∃ y, y = d.getD (n + 0) 0 := ⟨_, rfl⟩
    obtain ⟨j0, hj0⟩ : ∃ j, j = n + 0 := ⟨_, rfl⟩
    have c0 : wr.cell? ⟨b, o + j0, none⟩ = some (.int .u8 y0) := by
      obtain ⟨b', o', he, hc⟩ := SB.byte HS.out HBr.out (k := n + 0) (show n + 0 < d.length by omega)
      cases he
      rw [hj0, hy0]
      exact hc
    have e0 : (n : Int) + 0 = (j0 : Int) := by omega
    have l0 : (j0 : Int) < (d.length : Int) := by omega
    obtain ⟨y1, hy1⟩ : ∃ y, y = d.getD (n + 1) 0 := ⟨_, rfl⟩
    obtain ⟨j1, hj1⟩ : ∃ j, j = n + 1 := ⟨_, rfl⟩
    have c1 : wr.cell? ⟨b, o + j1, none⟩ = some (.int .u8 y1) := by
      obtain ⟨b', o', he, hc⟩ := SB.byte HS.out HBr.out (k := n + 1) (show n + 1 < d.length by omega)
      cases he
      rw [hj1, hy1]
      exact hc
    have e1 : (n : Int) + 1 = (j1 : Int) := by omega
    have l1 : (j1 : Int) < (d.length : Int) := by omega
    obtain ⟨y2, hy2⟩ : ∃ y, y = d.getD (n + 2) 0 := ⟨_, rfl⟩
    obtain ⟨j2, hj2⟩ : ∃ j, j = n + 2 := ⟨_, rfl⟩
    have c2 : wr.cell? ⟨b, o + j2, none⟩ = some (.int .u8 y2) := by
      obtain ⟨b', o', he, hc⟩ := SB.byte HS.out HBr.out (k := n + 2) (show n + 2 < d.length by omega)
      cases he
      rw [hj2, hy2]
      exact hc
    have e2 : (n : Int) + 2 = (j2 : Int) := by omega
    have l2 : (j2 : Int) < (d.length : Int) := by omega
    obtain ⟨y3, hy3⟩ : ∃ y, y = d.getD (n + 3) 0 := ⟨_, rfl⟩
    obtain ⟨j3, hj3⟩ : ∃ j, j = n + 3 := ⟨_, rfl⟩
    have c3 : wr.cell? ⟨b, o + j3, none⟩ = some (.int .u8 y3) := by
      obtain ⟨b', o', he, hc⟩ := SB.byte HS.out HBr.out (k := n + 3) (show n + 3 < d.length by omega)
      cases he
      rw [hj3, hy3]
      exact hc
    have e3 : (n : Int) + 3 = (j3 : Int) := by omega
    have l3 : (j3 : Int) < (d.length : Int) := by omega
    have HY : Hid (fld d n 4 = 101010256 ↔ y0 = 80 ∧ y1 = 75 ∧ y2 = 5 ∧ y3 = 6) := by rw [hy0, hy1, hy2, hy3]; exact HSIG.out
    have hj0' : j0 = n := by omega
    subst hj0'
    have HNK : Hid (¬ (y0 = 80 ∧ y1 = 75 ∧ y2 = 5 ∧ y3 = 6) → ¬ okEnd d j0) := fun hn hk => hn (HY.out.1 (okEnd_at hk).2.1)
    clear hy0 hy1 hy2 hy3 hj0 hj1 hj2 hj3 HSIG
    by_cases s0 : y0 = 80
    case neg =>
      have t0 : (y0 != 80) = true := by simpa using s0
      have HN := hide (HNX.out (HNK.out (fun hh => s0 hh.1)))
      clear s0
      go_wp2
      go_roundw
      case rel =>
        obtain ⟨r, e1, e2, e3, e4⟩ := HN.out
        exact ⟨r, by first | (rw [← e1]; done) | (rw [← e1]; go_num), e2, e3, e4, HBr.out⟩
      case measure => simp [intOf]; omega
    have t0 : (y0 != 80) = false := by simpa using s0
    by_cases s1 : y1 = 75
    case neg =>
      have t1 : (y1 != 75) = true := by simpa using s1
      have HN := hide (HNX.out (HNK.out (fun hh => s1 hh.2.1)))
      clear s1
      go_wp2
      go_roundw
      case rel =>
        obtain ⟨r, e1, e2, e3, e4⟩ := HN.out
        exact ⟨r, by first | (rw [← e1]; done) | (rw [← e1]; go_num), e2, e3, e4, HBr.out⟩
      case measure => simp [intOf]; omega
    have t1 : (y1 != 75) = false := by simpa using s1
    by_cases s2 : y2 = 5
    case neg =>
      have t2 : (y2 != 5) = true := by simpa using s2
      have HN := hide (HNX.out (HNK.out (fun hh => s2 hh.2.2.1)))
      clear s2
      go_wp2
      go_roundw
      case rel =>
        obtain ⟨r, e1, e2, e3, e4⟩ := HN.out
        exact ⟨r, by first | (rw [← e1]; done) | (rw [← e1]; go_num), e2, e3, e4, HBr.out⟩
      case measure => simp [intOf]; omega
    have t2 : (y2 != 5) = false := by simpa using s2
    by_cases s3 : y3 = 6
    case neg =>
      have t3 : (y3 != 6) = true := by simpa using s3
      have HN := hide (HNX.out (HNK.out (fun hh => s3 hh.2.2.2)))
      clear s3
      go_wp2
      go_roundw
      case rel =>
        obtain ⟨r, e1, e2, e3, e4⟩ := HN.out
        exact ⟨r, by first | (rw [← e1]; done) | (rw [← e1]; go_num), e2, e3, e4, HBr.out⟩
      case measure => simp [intOf]; omega
    have t3 : (y3 != 6) = false := by simpa using s3
    have HSG : Hid (fld d j0 4 = 101010256) := HY.out.2 ⟨s0, s1, s2, s3⟩
    clear s0 s1 s2 s3
    obtain ⟨GE, hGE⟩ : ∃ G, G = enE d j0 := ⟨_, rfl⟩
    have HGE := hide hGE
    obtain ⟨GP, hGP⟩ : ∃ G, G = enP d j0 := ⟨_, rfl⟩
    have HGP := hide hGP
    obtain ⟨A, hA⟩ : ∃ A, A = (enA d j0).cs := ⟨_, rfl⟩
    have HAV : Hid ((enA d j0).v = .agg A) := by show _ = _; rw [hA]; rfl
    have HSA : Hid (A.size = 7) := by rw [hA]; exact rsE _
    have HOA : Hid (A.all (·.oneCell') = true) := by rw [hA]; exact roE _
    clear hGE hGP hA
    go_wp2_with fail
    refine (vgetEnd_any _ d (j0 : Int) _ (SB.below HS.out HBr.out) HBy.out (by unfold Ok64; omega) (by omega)).mono ?_
    rintro e w1 ⟨rfl, hb⟩
    rw [HAV.out, ← HGE.out, ← HGP.out]
    have HB1 := hide (HBr.out.trans (hb.mono HBr.out.size))
    have HZ : Hid ((w1.alloc (.cells #[.int .i64 0, .int .i64 0, .int .i64 0, .int .i64 0, .int .i64 0, .int .i64 0, .string ⟨#[]⟩] 68)).heap[w1.heap.size]? = some (.cells #[.int .i64 0, .int .i64 0, .int .i64 0, .int .i64 0, .int .i64 0, .int .i64 0, .string ⟨#[]⟩] 68 (0, 0))) := heap_alloc_new _ _
    have HB2 : Hid (Below w.heap.size w (w1.alloc (.cells A 68))) := HB1.out.alloc HB1.out.size _
    clear hb c0 c1 c2 c3 t0 t1 t2 t3
    by_cases hk : okEnd d j0
    · have HK := hide hk
      have g1 : GE = 0 := by rw [HGE.out]; exact hk.1
      have g2 : GP = (d.length : Int) := by rw [HGP.out]; exact hk.2
      clear hk
      go_wp2_with ((with_reducible refine wpList_stE w1.heap.size A #[.int .i64 0, .int .i64 0, .int .i64 0, .int .i64 0, .int .i64 0, .int .i64 0, .string ⟨#[]⟩] HSA.out rfl HOA.out ?hx ?hy HZ.out ?_); (case hx => rfl); (case hy => rfl); rw [World.setRow_alloc_new])
      go_ret2
      exact ⟨j0, 0, rfl, .inr (.inl ⟨hl, rfl, HK.out, by omega, by omega, by omega, fun q k1 k2 => HI.out q k1 (by omega) k2⟩), HB2.out⟩
    · have HN := hide (HNX.out hk)
      have HK := hide hk
      clear hk
      by_cases g1 : GE = 0
      · have g2 : (GP == (d.length : Int)) = false := by
          have : ¬ GP = (d.length : Int) := fun hh => HK.out ⟨by rw [← HGE.out]; exact g1, by rw [← HGP.out]; exact hh⟩
          simpa using this
        go_wp2_with ((with_reducible refine wpList_stE w1.heap.size A #[.int .i64 0, .int .i64 0, .int .i64 0, .int .i64 0, .int .i64 0, .int .i64 0, .string ⟨#[]⟩] HSA.out rfl HOA.out ?hx ?hy HZ.out ?_); (case hx => rfl); (case hy => rfl); rw [World.setRow_alloc_new])
        go_roundw
        case rel =>
          obtain ⟨r, e1, e2, e3, e4⟩ := HN.out
          exact ⟨r, by first | (rw [← e1]; done) | (rw [← e1]; go_num), e2, e3, e4, HB2.out⟩
        case measure => simp [intOf]; omega
      · have g2 : (GE == 0) = false := by simpa using g1
        clear g1
        go_wp2_with ((with_reducible refine wpList_stE w1.heap.size A #[.int .i64 0, .int .i64 0, .int .i64 0, .int .i64 0, .int .i64 0, .int .i64 0, .string ⟨#[]⟩] HSA.out rfl HOA.out ?hx ?hy HZ.out ?_); (case hx => rfl); (case hy => rfl); rw [World.setRow_alloc_new])
        go_roundw
        case rel =>
          obtain ⟨r, e1, e2, e3, e4⟩ := HN.out
          exact ⟨r, by first | (rw [← e1]; done) | (rw [← e1]; go_num), e2, e3, e4, HB2.out⟩
        case measure => simp [intOf]; omega
end Go.Proofs.Ytjmjjjpanioifaa

