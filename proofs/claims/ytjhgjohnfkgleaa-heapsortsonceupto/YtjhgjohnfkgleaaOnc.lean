import Derived.Test.YtjhgjohnfkgleaaSti
namespace Go.Proofs.Ytjhgjohnfkgleaa
open Go.RowKit Go.Maps
set_option maxRecDepth 20000

theorem srt_get {keys vals : List Int} {i : Nat} (h : i < keys.length) : (srt keys vals).getD i 0 = vals.getD ((orderOf keys).getD i 0).toNat 0 := by
  have hk : i < (orderOf keys).length := by rw [orderOf_len]; exact h
  simp [srt, hk]

theorem srt_mono {keys : List Int} {i j : Nat} (hij : i ≤ j) (hj : j < keys.length) : (srt keys keys).getD i 0 ≤ (srt keys keys).getD j 0 := by
  rw [srt_get (by omega), srt_get hj]
  by_cases e : i = j
  · subst e; exact Int.le_refl _
  · have hk : j < (orderOf keys).length := by rw [orderOf_len]; exact hj
    have := List.pairwise_iff_getElem.1 (orderOf_sorted keys) i j (by omega) hk (by omega)
    unfold Ah at this
    have e1 : (orderOf keys).getD i 0 = (orderOf keys)[i] := by simp [show i < (orderOf keys).length by omega]
    have e2 : (orderOf keys).getD j 0 = (orderOf keys)[j] := by simp [hk]
    rw [e1, e2]
    omega

/-- What is sorted is in its own order. -/
theorem order_srt (keys : List Int) : orderOf (srt keys keys) = places 0 keys.length := by
  symm
  refine order_unique ?_ (by rw [srt_len])
  refine List.pairwise_iff_getElem.2 fun i j hi hj hij => ?_
  have hj' : j < keys.length := by simpa [places] using hj
  have m := srt_mono (keys := keys) (i := i) (j := j) (by omega) hj'
  unfold Ah
  simp only [places, List.getElem_map, List.getElem_range, Nat.zero_add, Int.toNat_natCast]
  omega

theorem places_get {n i : Nat} (h : i < n) : (places 0 n).getD i 0 = i := by simp [places, h]

theorem srt_srt (keys : List Int) : srt (srt keys keys) (srt keys keys) = srt keys keys := by
  apply List.ext_getElem
  · rw [srt_len]
  · intro i h1 h2
    have hi : i < (srt keys keys).length := h2
    have hi' : i < keys.length := by rw [srt_len] at hi; exact hi
    have e := srt_get (keys := srt keys keys) (vals := srt keys keys) (i := i) hi
    rw [order_srt, places_get hi', Int.toNat_natCast] at e
    have e1 : (srt (srt keys keys) (srt keys keys)).getD i 0 = (srt (srt keys keys) (srt keys keys))[i] := by simp [h1]
    have e2 : (srt keys keys).getD i 0 = (srt keys keys)[i] := by simp [h2]
    rw [← e1, ← e2, e]

theorem eqB_self (l : List Int) : eqB l l = true := by simp [eqB]

set_option maxHeartbeats 2000000 in
theorem heapSortsOnce_walk (v : Value) (keys : List Int) (w : World) (hs : SI w v keys) (hn : keys.length ≤ 1048576) :
    Calls Try.prog 6 #[v] w fun e w' => e = .returned (.bool true) ∧ Below w.heap.size w w' := by
  obtain ⟨ao, ac, rfl⟩ := hs.len
  have HS := hide hs
  clear hs
  go_enter Try.func6, Try.ntmps6
  go_wp2_with fail
  refine (ints_any _ keys w HS.out (by omega)).mono ?_
  rintro e w1 ⟨v1, rfl, -, o1, b1⟩
  go_wp2_with fail
  refine (ints_any _ keys w1 (HS.out.below b1) (by omega)).mono ?_
  rintro e w2 ⟨v2, rfl, -, o2, b2⟩
  go_wp2_with fail
  refine (sortI_any v1 v2 keys keys w2 (o1.sb.below b2) o2.sb rfl (by omega)).mono ?_
  rintro e w3 ⟨a3, c3, rfl, o3, b3⟩
  have HB := hide ((b1.trans (b2.mono b1.size)).trans (b3.mono (Nat.le_trans b1.size b2.size)))
  obtain ⟨s, hs⟩ : ∃ s, srt keys keys = s := ⟨_, rfl⟩
  have hsl := srt_len keys keys
  rw [hs] at o3 hsl
  have HSR := hide hs
  have HSL := hide hsl
  have HO := hide o3.sb
  clear o1 b1 o2 b2 o3 b3 hs hsl
  go_wp2
  go_loopw [5] (fun i wr => ∃ k q : Nat, i = .int .i64 k ∧ 1 ≤ k ∧ k ≤ keys.length + 1 ∧ wr = w3.drewN q) (fun i _ => keys.length + 1 - (intOf i).toNat)
  case atStart => exact ⟨1, 0, rfl, Nat.le_refl _, by omega, rfl⟩
  case round =>
    obtain ⟨k, q, rfl, hk0, hk, rfl⟩ := hrel
    by_cases hlt : k < keys.length
    · have hlt' : (k : Int) < (keys.length : Int) := by omega
      obtain ⟨j, hj⟩ : ∃ j, k = j + 1 := ⟨k - 1, by omega⟩
      have hm := srt_mono (keys := keys) (i := j) (j := k) (by omega) hlt
      rw [HSR.out] at hm
      subst hj
      obtain ⟨b, o, hab, d1⟩ := HO.out.nth (k := j) (by rw [HSL.out]; omega)
      obtain ⟨b', o', hab', d2⟩ := HO.out.nth (k := j + 1) (by rw [HSL.out]; omega)
      rw [hab] at hab'
      simp only [Option.some.injEq, Addr.mk.injEq] at hab'
      obtain ⟨rfl, rfl, -⟩ := hab'
      obtain ⟨x, hx⟩ : ∃ x, s.getD j 0 = x := ⟨_, rfl⟩
      obtain ⟨y, hy⟩ : ∃ y, s.getD (j + 1) 0 = y := ⟨_, rfl⟩
      rw [hx] at d1 hm
      rw [hy] at d2 hm
      have hm' : ¬ y < x := by omega
      subst hab
      clear hx hy hm
      go_wp2
      go_quiet (fail)
      go_wp2
      go_roundw
      case rel => exact ⟨j + 1 + 1, _, by go_num, by omega, by omega, rfl⟩
      case measure => simp [intOf]; omega
    · have hlt' : ¬ (k : Int) < (keys.length : Int) := by omega
      have HBD := hide (below_drewN HB.out q)
      have HOD := hide (HO.out.drewN q)
      obtain ⟨wd, hwd⟩ : ∃ wd, w3.drewN q = wd := ⟨_, rfl⟩
      rw [hwd] at HBD HOD ⊢
      clear hwd HB HO hlt
      go_wp2_with fail
      refine (ints_any _ s wd HOD.out (by rw [HSL.out]; omega)).mono ?_
      rintro e w4 ⟨v4, rfl, -, o4, b4⟩
      go_wp2_with fail
      refine (ints_any _ s w4 (HOD.out.below b4) (by rw [HSL.out]; omega)).mono ?_
      rintro e w5 ⟨v5, rfl, -, o5, b5⟩
      have hSo := sortI_any v4 v5 s s w5 (o4.sb.below b5) o5.sb rfl (by rw [HSL.out]; omega)
      have hss := srt_srt keys
      rw [HSR.out] at hss
      rw [hss, HSL.out] at hSo
      have HB5 := hide ((HBD.out.trans (b4.mono HBD.out.size)).trans (b5.mono (Nat.le_trans HBD.out.size b4.size)))
      have HO5 := hide ((HOD.out.below b4).below b5)
      clear o4 b4 o5 b5 hss
      go_wp2_with fail
      refine hSo.mono ?_
      rintro e w6 ⟨a6, c6, rfl, o6, b6⟩
      have hE := equal_any (.slice a6 keys.length c6) (.slice a3 keys.length c3) s s w6 o6.sb (HO5.out.below b6)
      rw [eqB_self] at hE
      have HB6 := hide (HB5.out.trans (b6.mono HB5.out.size))
      have HO6 := hide (HO5.out.below b6)
      clear o6 b6 hSo HB5 HO5 HBD HOD
      go_wp2_with fail
      refine hE.mono ?_
      rintro e w7 ⟨rfl, n7, hw7⟩
      have HB7 := hide (below_drewN HB6.out n7)
      have HO7 := hide (HO6.out.drewN n7)
      rw [← hw7] at HB7 HO7
      clear hw7 HB6 HO6 hE
      go_wp2_with fail
      refine (ints_any _ s w7 HO7.out (by rw [HSL.out]; omega)).mono ?_
      rintro e w8 ⟨v8, rfl, -, o8, b8⟩
      have hOr := order_in v8 s w8 o8.sb (by rw [HSL.out]; omega)
      have hos := order_srt keys
      rw [HSR.out] at hos
      rw [hos, HSL.out] at hOr
      have HB8 := hide (HB7.out.trans (b8.mono HB7.out.size))
      clear o8 b8 hos HB7 HO7
      go_wp2_with fail
      refine hOr.mono ?_
      rintro e w9 ⟨a9, c9, rfl, o9, b9⟩
      have HB9 := hide (HB8.out.trans (b9.mono HB8.out.size))
      have HO9 := hide o9.sb
      clear o9 b9 hOr HB8
      go_wp2
      go_loopw [9] (fun i wr => ∃ k : Nat, i = .int .i64 k ∧ k ≤ keys.length ∧ wr = w9) (fun i _ => keys.length - (intOf i).toNat)
      case atStart => exact ⟨0, rfl, Nat.zero_le _, rfl⟩
      case round =>
        obtain ⟨k, rfl, hk, rfl⟩ := hrel
        by_cases hlt : k < keys.length
        · have hlt' : (k : Int) < (keys.length : Int) := by omega
          obtain ⟨b, o, hab, d1⟩ := HO9.out.nth (k := k) (by rw [places_len]; exact hlt)
          rw [places_get hlt] at d1
          subst hab
          go_wp2
          go_roundw
          case rel => exact ⟨k + 1, by go_num, by omega, by first | rfl | trivial⟩
          case measure => simp [intOf]; omega
        · have hlt' : ¬ (k : Int) < (keys.length : Int) := by omega
          go_wp2
          go_ret
          exact ⟨rfl, HB9.out⟩

end Go.Proofs.Ytjhgjohnfkgleaa
