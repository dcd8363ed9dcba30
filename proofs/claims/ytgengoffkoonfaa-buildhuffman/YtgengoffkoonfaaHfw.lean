import Derived.Test.YtgengoffkoonfaaGud
namespace Go.Proofs.Ytgengoffkoonfaa
open Go.RowKit Go.Maps
set_option maxRecDepth 20000
set_option linter.unusedVariables false

theorem in64 {n : List Int} (h : ∀ x ∈ n, -9223372036854775808 ≤ x ∧ x ≤ 9223372036854775807) (i : Nat) : -9223372036854775808 ≤ n.getD i 0 ∧ n.getD i 0 ≤ 9223372036854775807 := by
  by_cases c : i < n.length
  · rw [show n.getD i 0 = n[i] by simp [c]]
    exact h _ (List.getElem_mem c)
  · rw [List.getD_eq_getElem?_getD, List.getElem?_eq_none (by omega)]
    exact ⟨by decide, by decide⟩

theorem Sound.ofB {f : List Int} (h : (decide (f.length ≤ 288) && bnb f 4294967296) = true) : Sound f := by
  rw [Bool.and_eq_true, decide_eq_true_eq] at h
  exact ⟨h.1, bnb_iff.1 h.2⟩

theorem Sound.dptE {f : List Int} (h : Sound f) : dptE f = 0 ∧ dptL f = dpt f := by
  have e : Go.Proofs.Ytgengoffkoonfaa.dptE f = 0 := by
    unfold Go.Proofs.Ytgengoffkoonfaa.dptE
    rw [if_neg (by have := h.len; omega), if_neg (by rw [bnb_iff.2 h.ok]; decide)]
  exact ⟨e, if_pos e⟩

/-- What Kraft's rule gives of another list. -/
theorem krV_facts {f o : List Int} {lim : Int} (hs : Sound f) (h : ¬ krV f o lim < 0) : o.length = f.length ∧ LenOk f o lim f.length ∧ kr (nn o) (us f) ≤ 2 ^ 60 := by
  unfold krV at h
  by_cases c : o.length = f.length
  · rw [if_neg (fun q => q c)] at h
    cases e : kst f o lim f.length with
    | none => rw [e] at h; simp at h
    | some s =>
      obtain ⟨a, b, d⟩ := kst_some hs.nn e
      exact ⟨c, b, by show kS f o f.length ≤ 2 ^ 60; rw [← a]; exact d⟩
  · rw [if_pos c] at h; omega

set_option maxHeartbeats 1000000 in
theorem huffman_walk (vf vn : Value) (f n : List Int) (w : World) (hf : SI w vf f) (hn : SI w vn n) (rf : f.length ≤ 17592186043904) (h64 : ∀ x ∈ n, -9223372036854775808 ≤ x ∧ x ≤ 9223372036854775807) :
    Calls Try.prog 4 #[vf, vn] w fun e w' => e = .returned (.bool true) ∧ Below w.heap.size w w' := by
  have HF := hide hf
  have HN := hide hn
  have H64 := hide h64
  obtain ⟨af, cf, rfl, hlf, hmf⟩ := hf.open
  obtain ⟨an, cn, rfl, hln, hmn⟩ := hn.open
  have HSC := hide (sound_any _ f w HF.out)
  clear hf hn h64
  cases hb : (decide (f.length ≤ 288) && bnb f 4294967296) with
  | false =>
    rw [hb] at HSC
    clear hb
    go_enter Try.func4, Try.ntmps4
    go_wp2_with fail
    refine HSC.out.mono ?_
    rintro e w1 ⟨rfl, rfl⟩
    go_wp2
    go_ret
    exact ⟨rfl, Below.refl _ _⟩
  | true =>
    rw [hb] at HSC
    have HS := hide (Sound.ofB hb)
    clear hb
    obtain ⟨hE, hL⟩ := HS.out.dptE
    have hlen := dpt_len f
    have HG := hide (gd_dpt HS.out)
    have HD : Hid (∀ v w0, SI w0 v f → Calls Try.prog 15 #[v] w0 fun e w' => ∃ a c, e = .returned (.tuple #[.slice a f.length c, .int .i64 0]) ∧ OI w' w0.heap.size (.slice a f.length c) (dpt f) ∧ Below w0.heap.size w0 w') := fun v w0 h0 => by
      have := depths_any v f w0 h0
      rw [hE, hL, hlen] at this
      exact this
    clear hE hL hlen
    go_enter Try.func4, Try.ntmps4
    go_wp2_with fail
    refine HSC.out.mono ?_
    rintro e w1 ⟨rfl, rfl⟩
    go_wp2_with fail
    refine (copied_any _ f _ HF.out rf).mono ?_
    rintro e w2 ⟨a2, c2, rfl, ho2, hb2⟩
    have HO2 := hide ho2
    have HB2 := hide hb2
    clear ho2 hb2
    go_wp2_with fail
    refine (HD.out _ _ HO2.out.sb).mono ?_
    rintro e w3 ⟨a3, c3, rfl, ho3, hb3⟩
    have HO3 := hide ho3
    have HB3 := hide (HB2.out.trans (hb3.mono HB2.out.size))
    have HF3 := hide (HF.out.below HB3.out)
    have HN3 := hide (HN.out.below HB3.out)
    clear ho3 hb3
    go_wp2_with fail
    refine (good_gd _ _ f (dpt f) 60 _ HF3.out HO3.out.sb HS.out HG.out (by omega)).mono ?_
    rintro e w4 ⟨rfl, rfl⟩
    have HK := hide (kraft_any _ _ f n 60 w4 HF3.out HN3.out HS.out.len (by omega) (in64 H64.out))
    by_cases hk : krV f n 60 < 0
    · obtain ⟨kv, HKV⟩ : ∃ kv, Hid (kv = krV f n 60) := ⟨_, rfl⟩
      rw [← HKV.out] at HK hk
      go_wp2_with fail
      refine HK.out.mono ?_
      rintro e w5 ⟨rfl, rfl⟩
      go_wp2
      go_ret
      exact ⟨rfl, HB3.out⟩
    · obtain ⟨k1, k2, k3⟩ := krV_facts HS.out hk
      have hbest := dp_best HS.out k2 k3
      have HL1 := hide (lcost_ok _ _ f (dpt f) 60 w4 HF3.out HO3.out.sb HS.out HG.out.len HG.out.ok)
      have HL2 : Hid (∀ q, Calls Try.prog 19 #[.slice af f.length cf, .slice an n.length cn] (w4.drewN q) fun e w' => e = .returned (.int .i64 ((fl (fq f) (nn n) (us f) : Nat) : Int)) ∧ ∃ q', w' = (w4.drewN q).drewN q') := fun q =>
        lcost_ok _ _ f n 60 _ (HF3.out.below (below_drewN (Below.refl _ _) q)) (HN3.out.below (below_drewN (Below.refl _ _) q)) HS.out k1 k2
      obtain ⟨x, HX⟩ : ∃ x, Hid (x = fl (fq f) (nn (dpt f)) (us f)) := ⟨_, rfl⟩
      obtain ⟨y, HY⟩ : ∃ x, Hid (x = fl (fq f) (nn n) (us f)) := ⟨_, rfl⟩
      rw [← HX.out] at hbest HL1
      rw [← HY.out] at hbest HL2
      obtain ⟨kv, HKV⟩ : ∃ kv, Hid (kv = krV f n 60) := ⟨_, rfl⟩
      rw [← HKV.out] at HK hk
      clear k1 k2 k3
      have hxy : (x : Int) ≤ (y : Int) := by omega
      go_wp2_with fail
      refine HK.out.mono ?_
      rintro e w5 ⟨rfl, rfl⟩
      go_wp2_with fail
      refine HL1.out.mono ?_
      rintro e w6 ⟨rfl, q6, rfl⟩
      go_wp2_with fail
      refine (HL2.out q6).mono ?_
      rintro e w7 ⟨rfl, q7, rfl⟩
      go_wp2
      go_ret
      exact ⟨rfl, below_drewN HB3.out _⟩
end Go.Proofs.Ytgengoffkoonfaa
