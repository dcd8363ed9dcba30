import Derived.Test.YthlbmpmbbdaboaaNlc
import Derived.Test.YthlbmpmbbdaboaaLst
import Derived.Test.YthlbmpmbbdaboaaChk
namespace Go.Proofs.Ythlbmpmbbdaboaa
open Go.RowKit Go.Maps
set_option maxRecDepth 20000

theorem i64_xor (a b : Nat) (ha : a < 32768) (hb : b < 32768) : bits .xor .i64 (a : Int) (b : Int) = ((a ^^^ b : Nat) : Int) := by
  have ha' : a % 2 ^ 64 = a := Nat.mod_eq_of_lt (by omega)
  have hb' : b % 2 ^ 64 = b := Nat.mod_eq_of_lt (by omega)
  have hx : a ^^^ b < 2 ^ 15 := Nat.xor_lt_two_pow (by omega) (by omega)
  have e : IntKind.bits .i64 = 64 := rfl
  simp only [bits, e, BitVec.ofInt_natCast, BitVec.toNat_xor, BitVec.toNat_ofNat, ha', hb']
  rw [IntKind.wrap_i64]
  omega

theorem flip_lt {n b : Nat} (hn : n < 32768) (hb : b < 15) : n ^^^ 2 ^ b < 32768 := by
  have h2 : 2 ^ b < 2 ^ 15 := Nat.pow_lt_pow_right (by decide) hb
  exact Nat.xor_lt_two_pow (n := 15) (by omega) h2

theorem flip_low (n b : Nat) : (n ^^^ 2 ^ b) % 2 ^ b = n % 2 ^ b := by
  apply Nat.eq_of_testBit_eq
  intro i
  rw [Nat.testBit_mod_two_pow, Nat.testBit_mod_two_pow, Nat.testBit_xor, Nat.testBit_two_pow]
  by_cases h : i < b
  · have : decide (b = i) = false := by simp; omega
    simp [this]
  · simp [h]

theorem flip_at (n b : Nat) : (n ^^^ 2 ^ b) / 2 ^ b % 2 ≠ n / 2 ^ b % 2 := by
  intro h
  have h1 : (n ^^^ 2 ^ b).testBit b = n.testBit b := by
    rw [Nat.testBit_eq_decide_div_mod_eq, Nat.testBit_eq_decide_div_mod_eq, h]
  rw [Nat.testBit_xor, Nat.testBit_two_pow_self] at h1
  simp at h1

theorem mir_same {a b : Nat} {k : Nat} (h : a % 2 ^ k = b % 2 ^ k) : mir a k = mir b k := by
  unfold mir
  rw [← bts_mod (a : Int) k, ← bts_mod (b : Int) k]
  have : (a : Int) % 2 ^ k = (b : Int) % 2 ^ k := by exact_mod_cast h
  rw [this]

theorem mod_le {a b m k : Nat} (h : a % 2 ^ m = b % 2 ^ m) (hk : k ≤ m) : a % 2 ^ k = b % 2 ^ k := by
  have e : 2 ^ k ∣ 2 ^ m := Nat.pow_dvd_pow 2 hk
  rw [← Nat.mod_mod_of_dvd a e, ← Nat.mod_mod_of_dvd b e, h]

/-- Bits behind the word do not count. -/
theorem hit_behind {l : List Int} {n s b : Nat} (hl : Lens l) (h : Hit l (rowN n) s) (hb : ln l s ≤ b) : Hit l (rowN (n ^^^ 2 ^ b : Nat)) s := by
  rw [hit_iff] at h ⊢
  refine ⟨h.1, ?_⟩
  have h15 := (hl.ln s).2
  have e1 := mir_row (n : Int) (n := ln l s) h15
  have e2 := mir_row ((n ^^^ 2 ^ b : Nat) : Int) (n := ln l s) h15
  rw [mir_same (mod_le (flip_low n b) hb)] at e2
  have : ((rowN (n ^^^ 2 ^ b : Nat) / 2 ^ (15 - ln l s) : Nat) : Int) = ((rowN n / 2 ^ (15 - ln l s) : Nat) : Int) := e2.symm.trans e1
  have h2 : rowN (n ^^^ 2 ^ b : Nat) / 2 ^ (15 - ln l s) = rowN n / 2 ^ (15 - ln l s) := by exact_mod_cast this
  rw [h2]; exact h.2

/-- With its last bit turned it is another one. -/
theorem hit_turned {l : List Int} {n s b : Nat} (hl : Lens l) (h : Hit l (rowN n) s) (hb : ln l s = b + 1) : ¬ Hit l (rowN (n ^^^ 2 ^ b : Nat)) s := by
  intro k
  rw [hit_iff] at h k
  have h15 := (hl.ln s).2
  have e1 := mir_row (n : Int) (n := ln l s) h15
  have e2 := mir_row ((n ^^^ 2 ^ b : Nat) : Int) (n := ln l s) h15
  rw [h.2] at e1
  rw [k.2] at e2
  have e := e1.trans e2.symm
  rw [hb, mir_succ, mir_succ, mir_same (flip_low n b)] at e
  have hf := flip_at n b
  have e3 : (n : Int) / 2 ^ b % 2 = ((n ^^^ 2 ^ b : Nat) : Int) / 2 ^ b % 2 := by omega
  exact hf (by exact_mod_cast e3.symm)

theorem complete_hit {l : List Int} (hl : Lens l) (h4 : shp l = 4) (R : Nat) (hR : R < 32768) : ∃ s, Hit l R s := by
  refine hit_ex ?_
  rw [us_sum hl.2]
  unfold shp at h4
  by_cases c0 : tsum l = 0
  · rw [if_pos c0] at h4; omega
  · rw [if_neg c0] at h4
    by_cases c1 : tsum l = 1 ∧ usum l = 16384
    · rw [if_pos c1] at h4; omega
    · rw [if_neg c1] at h4
      by_cases c2 : 32768 < usum l
      · rw [if_pos c2] at h4; omega
      · rw [if_neg c2] at h4
        by_cases c3 : usum l = 32768
        · omega
        · rw [if_neg c3] at h4; omega

theorem two_bytes (n : Nat) (hn : n < 32768) : unpack [(n : Int) % 256, (n : Int) / 256] = bts n 16 ∧ Byt [(n : Int) % 256, (n : Int) / 256] := by
  constructor
  · rw [unpack_cons, unpack_one, show (16 : Nat) = 8 + 8 by omega, bts_split]
    congr 1
    exact bts_mod (n : Int) 8
  · exact byt_cons_mk (by omega) (by omega) (byt_one (by omega) (by omega))

theorem ahead_row (n : Nat) (hn : n < 32768) : ahead (bts n 16) 0 15 = n := by
  unfold ahead
  rw [List.drop_zero, show (16 : Nat) = 15 + 1 by omega, bts_split, List.take_append_of_le_length (by rw [length_bts]; omega), List.take_of_length_le (by rw [length_bts]; omega)]
  exact val_bts_in (by omega) (by omega)

theorem built_sb' (w : World) (cs : List Int) (h : cs.length ≤ 1000) : SB (w.alloc (.cells (cs.map (Value.int .u8)).toArray 5)) (.slice (some ⟨w.heap.size, 0, none⟩) cs.length cs.length) cs := by
  refine ⟨_, _, rfl, Nat.le_refl _, by unfold maxLen; omega, (fun h => by cases h), fun x hx i hi => ?_⟩
  cases hx
  rw [Addr.add_lit, cell_of_row _ _ _ _ _ _ (heap_alloc_new w _)]
  simp [hi]

set_option maxHeartbeats 1000000 in
theorem first_any {W w : World} {xs : List ((Nat → Nat) × Thing)} (H : Herd W w xs) (i : Nat) {K : Nat → Nat} {g : Nat} {l : List Int} (hi : xs[i]? = some (K, td g l)) (h4 : shp l = 4) (n : Nat) (hn : n < 32768) :
    Calls Try.prog 27 #[.pointer (some ⟨g, 0, none⟩), .int .i64 n] w fun e w' => e = .returned (.tuple #[.int .i64 (fdS l (rowN n)), .int .i64 (ln l (fdS l (rowN n))), .bool true]) ∧ Herd W w' xs := by
  have hD : Dp w K g l := H.rep i _ hi
  have hl := (dcE_zero hD.ok).1
  obtain ⟨s, hs⟩ := complete_hit hl h4 (rowN n) (row_lt n)
  obtain ⟨f1, f2⟩ := fd_hit hl hs
  rw [f1]
  have h15 := (hl.ln s).2
  obtain ⟨u1, u2⟩ := two_bytes n hn
  have hra : rowAt (bts n 16) 0 = rowN n := by unfold rowAt; rw [ahead_row n hn]
  have hnE : nxE l (bts n 16) 0 = 0 := by unfold nxE; rw [hra, if_pos f2, f1, if_pos (by rw [length_bts]; omega)]
  have HN : Hid (nxE l (bts n 16) 0 = 0 ∧ nxS l (bts n 16) 0 = s ∧ nxP l (bts n 16) 0 = ln l s) := by
    refine ⟨hnE, ?_, ?_⟩
    · unfold nxS; rw [if_pos hnE, hra, f1]
    · unfold nxP; rw [if_pos hnE, hra, f1]; omega
  have HU := hide u1
  have HBy := hide u2
  have HI := hide hi
  have HH := hide H
  obtain ⟨x, hx⟩ : ∃ x : Nat, x = n % 256 := ⟨_, rfl⟩
  obtain ⟨y, hy⟩ : ∃ y : Nat, y = n / 256 := ⟨_, rfl⟩
  have ex : (n : Int) % 256 = x := by omega
  have ey : (n : Int) / 256 = y := by omega
  rw [ex, ey] at HU HBy
  have hx1 : x < 256 := by omega
  have hy1 : y < 256 := by omega
  have hxw : IntKind.u8.wrap (x : Int) = x := by rw [IntKind.wrap_u8]; omega
  have hyw : IntKind.u8.wrap (y : Int) = y := by rw [IntKind.wrap_u8]; omega
  have tm : (n : Int).tmod 256 = x := by rw [Int.tmod_eq_emod_of_nonneg (by omega)]; exact ex
  have td' : (n : Int).tdiv 256 = y := by rw [Int.tdiv_eq_ediv_of_nonneg (by omega)]; exact ey
  have HSB : Hid (SB (w.alloc (.cells #[.int .u8 x, .int .u8 y] 5)) (.slice (some ⟨w.heap.size, 0, none⟩) 2 2) [(x : Int), (y : Int)]) := built_sb' w [(x : Int), (y : Int)] (by simp)
  have HHA : Hid (Herd W (w.alloc (.cells #[.int .u8 x, .int .u8 y] 5)) xs) := H.below ((Below.refl _ _).alloc (Nat.le_refl _) _)
  clear hD hl hs f1 f2 u1 u2 hra hnE H hi hx hy
  go_enter Try.func27, Try.ntmps27
  go_wp2_with fail
  refine (hnewR HHA.out _ _ HSB.out HBy.out (by simp)).mono ?_
  rintro e w1 ⟨r, Kr, rfl, h1⟩
  rw [HU.out] at h1
  have H1 := hide h1
  clear h1
  have HI1 : Hid ((xs ++ [(Kr, tr r (bts n 16) 0)])[i]? = some (K, td g l)) := by
    show _ = _
    rw [List.getElem?_append_left (List.getElem?_eq_some_iff.1 HI.out).1]; exact HI.out
  have HR1 : Hid ((xs ++ [(Kr, tr r (bts n 16) 0)])[xs.length]? = some (Kr, tr r (bts n 16) 0)) := by show _ = _; simp
  go_wp2_with fail
  refine (hnext H1.out i xs.length HI1.out HR1.out).mono ?_
  rintro e w2 ⟨rfl, h2⟩
  rw [HN.out.1, HN.out.2.1]
  rw [HN.out.2.2, List.set_append_right _ _ (Nat.le_refl _), Nat.sub_self, List.set_cons_zero] at h2
  have H2 := hide h2
  clear h2
  have HR2 : Hid ((xs ++ [(Kr, tr r (bts n 16) (ln l s))])[xs.length]? = some (Kr, tr r (bts n 16) (ln l s))) := by show _ = _; simp
  go_wp2_with fail
  refine (hat H2.out xs.length HR2.out).mono ?_
  rintro e w3 ⟨rfl, h3⟩
  have H3 : Hid (Herd W w3 xs) := by
    have e' : ∀ (i : Nat) (d : (Nat → Nat) × Thing), xs[i]? = some d → (xs ++ [(Kr, tr r (bts n 16) (ln l s))])[i]? = some d := fun i d hd => by
      rw [List.getElem?_append_left (List.getElem?_eq_some_iff.1 hd).1]; exact hd
    exact ⟨h3.bel, fun i d hd => h3.rep i d (e' i d hd), fun i d hd => h3.up i d (e' i d hd), fun i j d d' hd hd' => h3.sep i j d d' (e' i d hd) (e' j d' hd')⟩
  clear h3
  go_wp2_with fail
  refine (num_any _ _).mono ?_
  rintro e w4 ⟨rfl, rfl⟩
  go_wp2
  go_ret3
  exact ⟨rfl, H3.out⟩
end Go.Proofs.Ythlbmpmbbdaboaa
