import Derived.Test.YtogplagiheoaiaaG15Jdw
namespace Go.Proofs.Ytogplagiheoaiaa
open Go.RowKit Go.Maps
set_option maxRecDepth 20000
set_option linter.unusedVariables false

def hB (N : Nat) (l : List Int) (k : Nat) : Int := ((List.range k).map fun i => l.getD i 0 * ((N : Int) - i)).sum

theorem hB_succ (N : Nat) (l : List Int) (k : Nat) : hB N l (k + 1) = hB N l k + l.getD k 0 * ((N : Int) - k) := by
  unfold hB; rw [List.range_succ, List.map_append, List.sum_append]; simp

theorem sA_take (l : List Int) (k : Nat) (hk : k < l.length) : sA (l.take (k + 1)) = sA (l.take k) + l.getD k 0 := by
  rw [take_snocI l k hk, sA_snoc]

theorem sB_take (l : List Int) (k : Nat) (hk : k < l.length) : sB (l.take (k + 1)) = sB (l.take k) + (sA (l.take k) + l.getD k 0) := by
  rw [take_snocI l k hk, sB_snoc]

theorem hB_sB (l : List Int) (N : Nat) : ∀ k, k ≤ l.length → hB N l k = sB (l.take k) + ((N : Int) - k) * (sA (l.take k) - 1) - k
  | 0, _ => by simp [hB, sB_nil, sA_nil]
  | k + 1, h => by
    rw [hB_succ, hB_sB l N k (by omega), sA_take l k (by omega), sB_take l k (by omega)]
    generalize l.getD k 0 = v
    generalize sA (l.take k) = a
    generalize sB (l.take k) = b
    have e1 : ((N : Int) - ((k + 1 : Nat) : Int)) = ((N : Int) - k) - 1 := by omega
    rw [e1]
    generalize (N : Int) - k = m
    have e2 : (m - 1) * (a + v - 1) = m * (a - 1) + v * m - (a + v - 1) := by
      rw [Int.sub_mul, Int.one_mul, show a + v - 1 = (a - 1) + v by omega, Int.mul_add, Int.mul_comm m v]
    rw [e2]
    omega

theorem hB_all (l : List Int) : hB l.length l l.length = sB l - l.length := by
  have := hB_sB l l.length l.length (Nat.le_refl _)
  rw [List.take_length] at this
  rw [this, Int.sub_self, Int.zero_mul]
  omega

set_option maxHeartbeats 2000000 in
theorem wrapSums_walk (v0 v1 v2 : Value) (x y z : List Int) (w : World) (h0 : SB w v0 x) (h1 : SB w v1 y) (h2 : SB w v2 z) (y0 : Byt x) (y1 : Byt y) (y2 : Byt z) (r0 : x.length ≤ 140737488351232) (r1 : y.length ≤ 140737488351232) (r2 : z.length ≤ 140737488351232) :
    Calls Try.prog 3 #[v0, v1, v2] w fun e w' => e = .returned (.bool true) ∧ Below w.heap.size w w' := by
  have H0 := hide h0
  have H1 := hide h1
  have H2 := hide h2
  have HY := hide (And.intro y0 (And.intro y1 y2))
  obtain ⟨a0, c0, rfl⟩ : ∃ a c, v0 = .slice a x.length c := by obtain ⟨a, c, h, _⟩ := h0; exact ⟨a, c, h⟩
  obtain ⟨a1, c1, rfl⟩ : ∃ a c, v1 = .slice a y.length c := by obtain ⟨a, c, h, _⟩ := h1; exact ⟨a, c, h⟩
  obtain ⟨a2, c2, rfl⟩ : ∃ a c, v2 = .slice a z.length c := by obtain ⟨a, c, h, _⟩ := h2; exact ⟨a, c, h⟩
  clear h0 h1 h2 y0 y1 y2
  by_cases hn : 16777216 < x.length + y.length + z.length
  · have hn' : (16777216 : Int) < (x.length : Int) + (y.length : Int) + (z.length : Int) := by omega
    go_enter Try.func3, Try.ntmps3
    go_wp2
    go_ret
    exact ⟨rfl, Below.refl _ _⟩
  have hn' : ¬ (16777216 : Int) < (x.length : Int) + (y.length : Int) + (z.length : Int) := by omega
  have HJ := hide (joinedL_any _ _ x y w H0.out H1.out (by omega))
  obtain ⟨XY, hXY⟩ : ∃ l, x ++ y = l := ⟨_, rfl⟩
  have hXYl : XY.length = x.length + y.length := by rw [← hXY, List.length_append]
  have HXYl := hide hXYl
  rw [hXY] at HJ
  go_enter Try.func3, Try.ntmps3
  clear hXYl
  go_wp2_with fail
  refine HJ.out.mono ?_
  rintro e w1 ⟨b1, d1, rfl, ho1, hb1⟩
  have HB1 := hide hb1
  have HJ2 := hide (joinedL_any _ _ XY z w1 ho1.sb (H2.out.below hb1) (by rw [HXYl.out]; omega))
  obtain ⟨L, hL⟩ : ∃ l, XY ++ z = l := ⟨_, rfl⟩
  have HLl : Hid (L.length = x.length + y.length + z.length) := by show _ = _; rw [← hL, List.length_append, HXYl.out]
  rw [hL] at HJ2
  clear ho1 hb1 HJ
  go_wp2_with fail
  refine HJ2.out.mono ?_
  rintro e w2 ⟨b2, d2, rfl, ho2, hb2⟩
  have HS := hide ho2.sb
  have HB2 := hide (HB1.out.trans (hb2.mono HB1.out.size))
  have HYL : Hid (Byt L) := by show Byt L; rw [← hL, ← hXY]; exact byt_append (byt_append HY.out.1 HY.out.2.1) HY.out.2.2
  have HE1 : Hid (jn (adl x) (adl y) y.length = adl XY) := by show _ = _; rw [← hXY]; exact jn_app x y
  have HE2 : Hid (jn (adl XY) (adl z) z.length = adl L) := by show _ = _; rw [← hL]; exact jn_app XY z
  have HE3 : Hid (jn (adl y) (adl z) z.length = adl (y ++ z)) := jn_app y z
  have HE4 : Hid (jn (adl x) (adl (y ++ z)) ((y.length : Int) + z.length) = adl L) := by
    show _ = _
    have := jn_app x (y ++ z)
    rw [List.length_append, ← List.append_assoc, hXY, hL] at this
    exact_mod_cast this
  clear ho2 hb2 HJ2 hXY hL
  have hLn : L.length ≤ 16777216 := by have := HLl.out; omega
  obtain ⟨N, hN⟩ : ∃ N, L.length = N := ⟨_, rfl⟩
  have HN := hide hN
  rw [hN] at HS hLn ⊢
  clear hN
  go_wp2
  go_loop [8, 9, 10] (fun a b i => ∃ k : Nat, k ≤ N ∧ i = .int .i64 k ∧ a = .int .i64 (sA (L.take k) % 65521) ∧ b = .int .i64 ((N + hB N L k) % 65521)) (fun _ _ i => N - (intOf i).toNat)
  case atStart => exact ⟨0, Nat.zero_le _, rfl, rfl, by simp [hB]⟩
  case round =>
    obtain ⟨k, hk, rfl, rfl, rfl⟩ := hrel
    by_cases hlt : k < N
    · have hlt' : (k : Int) < (N : Int) := by omega
      obtain ⟨b, o, rfl, hcv⟩ : ∃ b o, b2 = some ⟨b, o, none⟩ ∧ w2.cell? ⟨b, o + k, none⟩ = some (.int .u8 (L.getD k 0)) := by
        obtain ⟨-, -, -, q1, q2⟩ := HS.out.cells
        have := HN.out
        obtain ⟨b, o, e⟩ := q1 (by omega)
        exact ⟨b, o, e, q2 b o e k (by omega)⟩
      have hyy := byt_mem HYL.out (L.getD k 0) (by
        have : k < L.length := by have := HN.out; omega
        simp [List.getD, this])
      have HTA := hide (sA_take L k (by have := HN.out; omega))
      have HTB := hide (hB_succ N L k)
      obtain ⟨q, hq⟩ : ∃ q, L.getD k 0 = q := ⟨_, rfl⟩
      rw [hq] at hcv hyy HTA HTB
      obtain ⟨m, hm⟩ : ∃ m : Int, (N : Int) - k = m := ⟨_, rfl⟩
      have hm1 : 0 ≤ m ∧ m ≤ 16777216 := by omega
      have hp1 : 0 ≤ q * m ∧ q * m ≤ 255 * 16777216 := ⟨Int.mul_nonneg hyy.1 hm1.1, Int.mul_le_mul hyy.2 hm1.2 hm1.1 (by omega)⟩
      have hw1 : wrap64 (q * m) = q * m := by unfold wrap64; omega
      rw [hm] at HTB
      have hx1 : 0 ≤ sA (L.take k) % 65521 ∧ sA (L.take k) % 65521 ≤ 65520 := by omega
      have hy1 : 0 ≤ (N + hB N L k) % 65521 ∧ (N + hB N L k) % 65521 ≤ 65520 := by omega
      have HNX : Hid (sA (L.take (k + 1)) % 65521 = (sA (L.take k) % 65521 + q) % 65521 ∧ (N + hB N L (k + 1)) % 65521 = ((N + hB N L k) % 65521 + q * m) % 65521) := by
        show _ ∧ _
        rw [HTA.out, HTB.out]
        generalize q * m = r
        omega
      obtain ⟨x', hx⟩ : ∃ x, sA (L.take k) % 65521 = x := ⟨_, rfl⟩
      obtain ⟨y', hy⟩ : ∃ x, (N + hB N L k) % 65521 = x := ⟨_, rfl⟩
      rw [hx] at hx1
      rw [hy] at hy1
      rw [hx, hy] at HNX ⊢
      obtain ⟨r, hr⟩ : ∃ r, q * m = r := ⟨_, rfl⟩
      rw [hr] at HNX hp1
      have HR := hide hr
      have hmul : ∀ a : Int, wrap64 (q * m) = r := fun _ => by rw [hw1, hr]
      have hmul2 := hmul 0
      obtain ⟨y1, y2⟩ := hyy
      obtain ⟨x1, x2⟩ := hx1
      obtain ⟨z1, z2⟩ := hy1
      obtain ⟨p1, p2⟩ := hp1
      clear HTA HTB hq hx hy hw1 hmul hr hm1
      go_wp2
      go_round
      case rel => exact ⟨k + 1, by omega, by go_num, by rw [HNX.out.1], by rw [HNX.out.2]⟩
      case measure => simp [intOf]; omega
    · obtain rfl : k = N := by omega
      have hlt' : ¬ (k : Int) < (k : Int) := by omega
      rw [List.take_of_length_le (by have := HN.out; omega)]
      have HBB : Hid ((k : Int) + hB k L k = sB L) := by
        have := hB_all L
        rw [HN.out] at this
        show _ = _
        omega
      rw [HBB.out]
      have HAL : Hid (sB L % 65521 * 65536 + sA L % 65521 = adl L) := rfl
      have f1 : 0 ≤ sA L % 65521 ∧ sA L % 65521 ≤ 65520 := by omega
      have f2 : 0 ≤ sB L % 65521 ∧ sB L % 65521 ≤ 65520 := by omega
      obtain ⟨p, hp⟩ : ∃ x, sA L % 65521 = x := ⟨_, rfl⟩
      obtain ⟨q, hq⟩ : ∃ y, sB L % 65521 = y := ⟨_, rfl⟩
      rw [hp] at f1
      rw [hq] at f2
      rw [hp, hq] at HAL ⊢
      obtain ⟨x1, x2⟩ := f1
      obtain ⟨z1, z2⟩ := f2
      have HA0 := hide (fun W (hW : Below w.heap.size w W) => wAdler_any _ x W (H0.out.below hW) HY.out.1 (by omega))
      have HA1 := hide (fun W (hW : Below w.heap.size w W) => wAdler_any _ y W (H1.out.below hW) HY.out.2.1 (by omega))
      have HA2 := hide (fun W (hW : Below w.heap.size w W) => wAdler_any _ z W (H2.out.below hW) HY.out.2.2 (by omega))
      have HAL0 := hide (wAdler_any _ L w2 (by have := HS.out; exact this) HYL.out (by have := HN.out; omega))
      have hin : ∀ l, 0 ≤ adl l ∧ adl l < 4294967296 := fun l => ⟨(adl_in l).1, (adl_in l).2.1⟩
      have HI := hide hin
      clear hin
      obtain ⟨A0, hA0⟩ : ∃ t, adl x = t := ⟨_, rfl⟩
      obtain ⟨A1, hA1⟩ : ∃ t, adl y = t := ⟨_, rfl⟩
      obtain ⟨A2, hA2⟩ : ∃ t, adl z = t := ⟨_, rfl⟩
      obtain ⟨A3, hA3⟩ : ∃ t, adl XY = t := ⟨_, rfl⟩
      obtain ⟨A4, hA4⟩ : ∃ t, adl (y ++ z) = t := ⟨_, rfl⟩
      obtain ⟨A5, hA5⟩ : ∃ t, adl L = t := ⟨_, rfl⟩
      have i0 := HI.out x
      have i1 := HI.out y
      have i2 := HI.out z
      have i3 := HI.out XY
      have i4 := HI.out (y ++ z)
      rw [hA0] at i0 HA0
      rw [hA1] at i1 HA1
      rw [hA2] at i2 HA2
      rw [hA3] at i3
      rw [hA4] at i4
      rw [hA5] at HAL0 HAL
      rw [hA0, hA1, hA3] at HE1
      rw [hA3, hA2, hA5] at HE2
      rw [hA1, hA2, hA4] at HE3
      rw [hA0, hA4, hA5] at HE4
      have HJ1 := hide (fun W => wJoin_any A0 A1 y.length W i0 i1 (by omega))
      have HJ2 := hide (fun W => wJoin_any A3 A2 z.length W i3 i2 (by omega))
      have HJ3 := hide (fun W => wJoin_any A1 A2 z.length W i1 i2 (by omega))
      have HJ4 := hide (fun W => wJoin_any A0 A4 ((y.length : Int) + z.length) W i0 i4 (by omega))
      have ej : ∀ (f s : Int) (n : Int), 0 ≤ n → n ≤ 16777216 → jnS f s n = jn f s n ∧ jnE n = 0 := fun f s n h1 h2 => by
        unfold jnS jnE
        rw [if_neg (by omega), if_neg (by omega)]
        exact ⟨rfl, rfl⟩
      rw [(ej _ _ _ (by omega) (by omega)).1, (ej A0 A1 _ (by omega) (by omega)).2, HE1.out] at HJ1
      rw [(ej _ _ _ (by omega) (by omega)).1, (ej A0 A1 _ (by omega) (by omega)).2, HE2.out] at HJ2
      rw [(ej _ _ _ (by omega) (by omega)).1, (ej A0 A1 _ (by omega) (by omega)).2, HE3.out] at HJ3
      rw [(ej _ _ _ (by omega) (by omega)).1, (ej A0 A1 _ (by omega) (by omega)).2, HE4.out] at HJ4
      have hAL : q * 65536 + p = A5 := HAL.out
      have ln : (y.length : Int) ≤ 16777216 ∧ (z.length : Int) ≤ 16777216 := by omega
      obtain ⟨ln1, ln2⟩ := ln
      clear hp hq hA0 hA1 hA2 hA3 hA4 hA5 i0 i1 i2 i3 i4 ej HE1 HE2 HE3 HE4 HI hAL
      go_wp2_with fail
      refine HAL0.out.mono ?_
      rintro e w3 ⟨rfl, hb3⟩
      have HB3 := hide (HB2.out.trans (hb3.mono HB2.out.size))
      clear hb3 HAL0
      obtain rfl := HAL.out
      go_wp2_with fail
      refine (HA0.out _ HB3.out).mono ?_
      rintro e w4 ⟨rfl, hb⟩
      have HB4 := hide (HB3.out.trans (hb.mono HB3.out.size))
      clear hb
      go_wp2_with fail
      refine (HA1.out _ HB4.out).mono ?_
      rintro e w5 ⟨rfl, hb⟩
      have HB5 := hide (HB4.out.trans (hb.mono HB4.out.size))
      clear hb
      go_wp2_with fail
      refine (HJ1.out _).mono ?_
      rintro e w' ⟨rfl, rfl⟩
      go_wp2_with fail
      refine (HA2.out _ HB5.out).mono ?_
      rintro e w6 ⟨rfl, hb⟩
      have HB6 := hide (HB5.out.trans (hb.mono HB5.out.size))
      clear hb
      go_wp2_with fail
      refine (HJ2.out _).mono ?_
      rintro e w' ⟨rfl, rfl⟩
      go_wp2_with fail
      refine (HA1.out _ HB6.out).mono ?_
      rintro e w7 ⟨rfl, hb⟩
      have HB7 := hide (HB6.out.trans (hb.mono HB6.out.size))
      clear hb
      go_wp2_with fail
      refine (HA2.out _ HB7.out).mono ?_
      rintro e w8 ⟨rfl, hb⟩
      have HB8 := hide (HB7.out.trans (hb.mono HB7.out.size))
      clear hb
      go_wp2_with fail
      refine (HJ3.out _).mono ?_
      rintro e w' ⟨rfl, rfl⟩
      go_wp2_with fail
      refine (HA0.out _ HB8.out).mono ?_
      rintro e w9 ⟨rfl, hb⟩
      have HB9 := hide (HB8.out.trans (hb.mono HB8.out.size))
      clear hb
      go_wp2_with fail
      refine (HJ4.out _).mono ?_
      rintro e w' ⟨rfl, rfl⟩
      go_wp2
      go_ret
      exact ⟨rfl, HB9.out⟩
end Go.Proofs.Ytogplagiheoaiaa

