import Derived.Test.YtklffkbcigehfabRd2
namespace Go.Proofs.Ytklffkbcigehfab
open Go.RowKit Go.Maps
set_option maxRecDepth 20000

theorem tmod_pos {k n : Int} (h : 0 ≤ k) : k.tmod n = k % n := Int.tmod_eq_emod_of_nonneg h

theorem tmod_neg {k n : Int} (hn : 0 < n) (h : k < 0) : (k.tmod n < 0 → k.tmod n + n = k % n) ∧ (¬ k.tmod n < 0 → k.tmod n = k % n) := by
  have h1 := Int.emod_nonneg k (show n ≠ 0 by omega)
  have h2 := Int.emod_lt_of_pos k hn
  have e : k.tmod n = -((-k) % n) := by
    have h5 := Int.tmod_eq_emod_of_nonneg (a := -k) (b := n) (by omega)
    have := Int.neg_tmod (-k) n
    rw [Int.neg_neg, h5] at this
    exact this
  have h3 := Int.emod_nonneg (-k) (show n ≠ 0 by omega)
  have h4 := Int.emod_lt_of_pos (-k) hn
  have d1 := Int.mul_ediv_add_emod k n
  have d2 := Int.mul_ediv_add_emod (-k) n
  have key : k % n = (if (-k) % n = 0 then 0 else n - (-k) % n) := by
    by_cases hz : (-k) % n = 0
    · rw [if_pos hz]
      have : k = n * (-((-k) / n)) := by rw [Int.mul_neg]; omega
      rw [this, Int.mul_emod_right]
    · rw [if_neg hz]
      have : k = (n - (-k) % n) + n * (-((-k) / n) - 1) := by rw [Int.mul_sub, Int.mul_neg]; omega
      conv => lhs; rw [this]
      rw [Int.add_mul_emod_self_left, Int.emod_eq_of_lt (by omega) (by omega)]
  rw [e, key]
  refine ⟨fun h => ?_, fun h => ?_⟩
  · rw [if_neg (by omega)]; omega
  · rw [if_pos (by omega)]; omega

theorem which_any (k n : Int) (hn : 0 < n) (hn1 : n ≤ 1000) (w : World) : Calls Try.prog 20 #[.int .i64 k, .int .i64 n] w fun e w' => e = .returned (.int .i64 (k % n)) ∧ w' = w := by
  by_cases hk : 0 ≤ k
  · have h0 := tmod_pos (n := n) hk
    have h1 := Int.emod_nonneg k (show n ≠ 0 by omega)
    have h2 : k.tmod n = k % n ∧ ¬ (k % n < 0) := ⟨h0, by omega⟩
    obtain ⟨M, HM⟩ : ∃ M, Hid (M = k % n) := ⟨_, rfl⟩
    rw [← HM.out] at h0 h1 ⊢
    clear h2
    have hn0 : n ≠ 0 := by omega
    go_enter Try.func20, Try.ntmps20
    go_wp2
    go_ret
    exact ⟨rfl, rfl⟩
  · obtain ⟨h1, h2⟩ := tmod_neg (k := k) hn (by omega)
    obtain ⟨M, HM⟩ : ∃ M, Hid (M = k.tmod n) := ⟨_, rfl⟩
    have hM : k.tmod n = M := HM.out.symm
    rw [hM] at h1 h2
    have hn0 : n ≠ 0 := by omega
    have H1 := hide h1
    have H2 := hide h2
    have h3 := Int.emod_nonneg k hn0
    have h4 := Int.emod_lt_of_pos k hn
    by_cases h0 : M < 0
    · have HX : Hid (M + n = k % n) := h1 h0
      have hw : -1000 ≤ M + n ∧ M + n ≤ 1000 := by have := HX.out; omega
      clear h1 h2 h3 h4
      go_enter Try.func20, Try.ntmps20
      go_wp2
      go_ret
      rw [← HX.out]
      exact ⟨rfl, rfl⟩
    · have HX : Hid (M = k % n) := h2 h0
      clear h1 h2 h3 h4
      go_enter Try.func20, Try.ntmps20
      go_wp2
      go_ret
      rw [← HX.out]
      exact ⟨rfl, rfl⟩

theorem width_any (n : Int) (w : World) : Calls Try.prog 21 #[.int .i64 n] w fun e w' => e = .returned (.int .i64 (n % 33)) ∧ w' = w := by
  go_enter Try.func21, Try.ntmps21
  go_wp2_with fail
  refine (which_any n 33 (by omega) (by omega) _).mono ?_
  rintro e w' ⟨rfl, rfl⟩
  go_wp2
  go_ret
  exact ⟨rfl, rfl⟩

theorem low_any (v : Int) (n : Nat) (hn : n ≤ 32) (h0 : 0 ≤ v) (h1 : v < 4294967296) (w : World) : Calls Try.prog 22 #[.int .u32 v, .int .i64 n] w fun e w' => e = .returned (.int .u32 (v % 2 ^ n)) ∧ w' = w := by
  have hmask := u64_mask (x := v) (n := n) h0 (by omega) hn
  have hp32 : (2 : Int) ^ n ≤ 2 ^ 32 := pow_le hn
  have hpn := pow_pos n
  have hwn : IntKind.u64.wrap ((2 : Int) ^ n) = 2 ^ n := by rw [IntKind.wrap_u64]; omega
  have hwn1 : IntKind.u64.wrap ((2 : Int) ^ n - 1) = 2 ^ n - 1 := by rw [IntKind.wrap_u64]; omega
  have hr0 : 0 ≤ v % 2 ^ n := Int.emod_nonneg _ (by omega)
  have hr1 : v % 2 ^ n < 2 ^ n := Int.emod_lt_of_pos _ hpn
  have hwr : IntKind.u32.wrap (v % 2 ^ n) = v % 2 ^ n := by rw [IntKind.wrap_u32]; omega
  have HM := hide hmask
  have HW := hide hwr
  clear hp32 hpn hr0 hr1 hmask hwr
  go_enter Try.func22, Try.ntmps22
  go_wp2
  go_ret
  refine ⟨?_, rfl⟩
  show Ending.returned (Value.int .u32 (IntKind.u32.wrap (bits .and .u64 v (2 ^ n - 1)))) = _
  rw [HM.out, HW.out]

/-- New memory with the same bytes. -/
theorem copied_any (v : Value) (l : List Int) (w : World) (h : SB w v l) (hr : l.length ≤ 140737488351232) :
    Calls Try.prog 10 #[v] w fun e w' => ∃ a c, e = .returned (.slice a l.length c) ∧ OB w' w.heap.size (.slice a l.length c) l ∧ Below w.heap.size w w' := by
  have H := hide h
  obtain ⟨ao, cap, rfl, hlc, hcm, hnil, hcell⟩ := h
  unfold maxLen at hcm
  clear hnil hcell
  go_enter Try.func10, Try.ntmps10
  go_wp2
  go_loopw [3, 4] (fun u i wr => ∃ k : Nat, k ≤ l.length ∧ i = .int .i64 k ∧ Hid (OB wr w.heap.size u (l.take k)) ∧ Hid (Below w.heap.size w wr)) (fun _ i _ => l.length - (intOf i).toNat)
  case atStart => exact ⟨0, Nat.zero_le _, rfl, World.ownsRow_nil _ _ _ _, Below.refl _ _⟩
  case round =>
    obtain ⟨k, hk, rfl, HO, HB⟩ := hrel
    by_cases hlt : k < l.length
    · have hlt' : (k : Int) < (l.length : Int) := by omega
      obtain ⟨ao', cap', hue, hc1, hc2, hc3, hc4⟩ := H.out
      simp only [Value.slice.injEq] at hue
      obtain ⟨rfl, -, rfl⟩ := hue
      cases ao with
      | none => have := hc3 rfl; omega
      | some x0 =>
      obtain ⟨b, o, rfl⟩ := addr_lit (hc4 x0 rfl 0 (by omega))
      obtain ⟨q, hq, HQ⟩ : ∃ q, wr.cell? ⟨b, o + k, none⟩ = some (.int .u8 q) ∧ Hid (q = l.getD k 0) := by
        have hc := hc4 _ rfl k hlt
        have hbl := World.block_lt_of_cell? _ _ hc
        rw [Addr.add_lit] at hc hbl
        exact ⟨_, (HB.out.cell hbl).trans hc, rfl⟩
      obtain ⟨a1, p1, hu⟩ := HO.out.shape
      have htl : (l.take k).length = k := by rw [List.length_take]; omega
      rw [htl] at hu
      subst hu
      have HTL := hide htl
      have hBw := HB.out.size
      have HALC : Hid (OB (wr.alloc (.cells #[.int .u8 q] 5)) w.heap.size (.slice a1 k p1) (l.take k)) := HO.out.alloc _
      have HSR : Hid (Src Try.prog 1 25 (.slice (some ⟨wr.heap.size, 0, none⟩) 1 1) ([q] : List Int).length (([q] : List Int).map (Value.int .u8)) (wr.alloc (.cells #[.int .u8 q] 5))) := (built_sb wr [q] (by unfold maxLen; simp)).src
      clear hc3 hc4 htl
      go_wp2_with (at_builtin; refine wpList_app rfl _ _ 25 rfl w.heap.size _ _ (l.take k) [q] rfl HALC.out rfl HSR.out (by rw [HTL.out]; simp; omega) (by simp; omega) ?_)
      intro v3 w3 ho3 hgr3
      have HN : Hid (OB w3 w.heap.size v3 (l.take (k + 1)) ∧ Below w.heap.size w w3) := by
        refine ⟨?_, (HB.out.alloc hBw _).grown hgr3.by (by simp; omega) (fun j hj => by have := HO.out.lt j hj; omega)⟩
        rw [List.take_succ_eq_append_getElem hlt]
        rw [HQ.out] at ho3
        have e : l.getD k 0 = l[k] := by simp [hlt]
        rw [e] at ho3
        exact ho3
      obtain ⟨a3, p3, rfl⟩ := ho3.shape
      clear ho3 hgr3 hq
      go_wp2
      go_roundw
      case rel => exact ⟨k + 1, by omega, by go_num, by show OB _ _ _ _; simpa using HN.out.1, HN.out.2⟩
      case measure => simp [intOf]; omega
    · obtain rfl : k = l.length := by omega
      have hlt' : ¬ (l.length : Int) < (l.length : Int) := by omega
      have HT : Hid (OB wr w.heap.size u3 l) := by have := HO.out; rwa [List.take_of_length_le (Nat.le_refl _)] at this
      clear HO
      obtain ⟨a1, p1, rfl⟩ := HT.out.shape
      go_wp2
      go_ret
      exact ⟨_, _, rfl, HT.out, HB.out⟩
end Go.Proofs.Ytklffkbcigehfab
