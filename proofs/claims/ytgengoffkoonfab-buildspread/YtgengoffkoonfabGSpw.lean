import Derived.Test.YtgengoffkoonfabGSpe
namespace Go.Proofs.Ytgengoffkoonfab
open Go.RowKit Go.Maps
set_option maxRecDepth 20000
set_option linter.unusedVariables false

set_option maxHeartbeats 4000000 in
theorem spread_walk (vf : Value) (f : List Int) (lim : Int) (vs : Value) (sp : List Int) (h64 : ∀ x ∈ sp, -9223372036854775808 ≤ x ∧ x ≤ 9223372036854775807) (w : World) (hf : SI w vf f) (hsp : SI w vs sp) (rf : f.length ≤ 17592186043904) (hlim : -9223372036854775808 ≤ lim ∧ lim ≤ 9223372036854775807) :
    Calls Try.prog 4 #[vf, .int .i64 lim, vs] w fun e w' => e = .returned (.bool true) ∧ Below w.heap.size w w' := by
  have HF := hide hf
  obtain ⟨af, cf, rfl, hlf, hmf⟩ := hf.open
  have HSC := hide (sound_any _ f w HF.out)
  have HSP := hide hsp
  have H64 := hide h64
  obtain ⟨asp, csp, rfl, hlsp, hmsp⟩ := hsp.open
  clear hf hsp h64
  cases hb : (decide (f.length ≤ 288) && bnb f 4294967296) with
  | false =>
    rw [hb] at HSC
    clear hb
    go_enter Try.func4, Try.ntmps4
    go_wp2_with fail
    refine HSC.out.mono ?_
    rintro e w' ⟨rfl, hw'⟩
    rw [hw']
    clear hw'
    go_wp2
    go_ret
    exact ⟨rfl, Below.refl _ _⟩
  | true =>
    rw [hb] at HSC
    have HS := hide (Sound.ofB hb)
    have h288 := HS.out.len
    clear hb
    by_cases hl1 : lim < 1
    · go_enter Try.func4, Try.ntmps4
      go_wp2_with fail
      refine HSC.out.mono ?_
      rintro e w' ⟨rfl, hw'⟩
      rw [hw']
      clear hw'
      go_wp2
      go_ret
      exact ⟨rfl, Below.refl _ _⟩
    by_cases hl2 : 15 < lim
    · go_enter Try.func4, Try.ntmps4
      go_wp2_with fail
      refine HSC.out.mono ?_
      rintro e w' ⟨rfl, hw'⟩
      rw [hw']
      clear hw'
      go_wp2
      go_ret
      exact ⟨rfl, Below.refl _ _⟩
    obtain ⟨L, rfl⟩ : ∃ L : Nat, lim = L := ⟨lim.toNat, by omega⟩
    have hL : 1 ≤ L ∧ L ≤ 15 := by omega
    have hul := us_le (l := f)
    obtain ⟨p, hp⟩ : ∃ p, p = 2 ^ L := ⟨_, rfl⟩
    obtain ⟨p1, p2, p3, p4⟩ := pow15 hL.2 hp
    have HUC := hide (uses_any _ f w HF.out HS.out.len)
    have HPP := hide hp
    clear hp
    by_cases h60 : p < (us f).length
    · obtain ⟨u, HU⟩ : ∃ u, Hid (u = (us f).length) := ⟨_, rfl⟩
      rw [← HU.out] at h60 hul HUC
      have h60' : (p : Int) < (u : Int) := by omega
      go_enter Try.func4, Try.ntmps4
      go_wp2_with fail
      refine HSC.out.mono ?_
      rintro e w' ⟨rfl, hw'⟩
      rw [hw']
      clear hw'
      go_wp2_with fail
      refine HUC.out.mono ?_
      rintro e w' ⟨rfl, hw'⟩
      rw [hw']
      clear hw'
      go_wp2
      go_ret
      exact ⟨rfl, Below.refl _ _⟩
    have HU2 : Hid ((us f).length ≤ 2 ^ L) := by rw [← HPP.out]; exact Nat.le_of_not_lt h60
    obtain ⟨u, HU⟩ : ∃ u, Hid (u = (us f).length) := ⟨_, rfl⟩
    rw [← HU.out] at h60 hul HUC
    have h60' : ¬ (p : Int) < (u : Int) := by omega
    have HG := hide (gd_lmt HS.out hL HU2.out)
    have HG0 := hide (gd_dpt HS.out)
    have hlim2 : ((L : Int) ≤ 9223372036854775807 ∧ -9223372036854775808 ≤ (L : Int)) := by omega
    go_enter Try.func4, Try.ntmps4
    go_wp2_with fail
    refine HSC.out.mono ?_
    rintro e w' ⟨rfl, hw'⟩
    rw [hw']
    clear hw'
    go_wp2_with fail
    refine HUC.out.mono ?_
    rintro e w' ⟨rfl, hw'⟩
    rw [hw']
    clear hw'
    go_wp2
    go_loopw [7, 8, 9] (fun u8 u9 i wr => ∃ (k : Nat) (P : Gps), k ≤ f.length ∧ i = .int .i64 k ∧ P.length ≤ 288 + k ∧ Hid (Gok P k) ∧ Hid (OI wr w.heap.size u8 (wid f P)) ∧ Hid (OI wr w.heap.size u9 (frm P)) ∧ Hid (∀ k, u8.ownBlock = some k → u9.ownBlock ≠ some k) ∧ Hid (Below w.heap.size w wr)) (fun _ _ i _ => f.length - (intOf i).toNat)
    case atStart => exact ⟨0, [], Nat.zero_le _, rfl, by simp, Gok.zero, hide (show OI _ _ _ [] from World.ownsRow_nil _ _ _ _), hide (show OI _ _ _ [] from World.ownsRow_nil _ _ _ _), (fun k hk => by simp [Value.ownBlock] at hk), Below.refl _ _⟩
    case round =>
      obtain ⟨k, P, hk, rfl, hPl, HGK, HOA, HOB, HAP, HB⟩ := hrel
      by_cases hlt : k < f.length
      · have hlt' : (k : Int) < (f.length : Int) := by omega
        have HFG : Hid (∀ W, Below w.heap.size w W → ∃ b o, af = some ⟨b, o, none⟩ ∧ W.cell? ⟨b, o + k, none⟩ = some (.int .i64 (f.getD k 0))) := fun W hW => HF.out.get hW hlt
        by_cases hks : k < sp.length
        · have hks' : (k : Int) < (sp.length : Int) := by omega
          obtain ⟨b1, o1, rfl, hc⟩ := HSP.out.get HB.out hks
          have hx64 := H64.out (sp.getD k 0) (by rw [show sp.getD k 0 = sp[k] by simp [hks]]; exact List.getElem_mem hks)
          obtain ⟨y, hy⟩ : ∃ y, y = sp.getD k 0 := ⟨_, rfl⟩
          rw [← hy] at hc hx64
          clear hy
          go_wp2
          go_loopw [7, 8, 10] (fun u8 u9 i wr => ∃ (z : Int) (P : Gps), z ≤ y ∧ (z ≤ 0 → z = y ∨ z = 0) ∧ i = .int .i64 z ∧ P.length ≤ 288 + k ∧ Hid (Gok P k) ∧ Hid (OI wr w.heap.size u8 (wid f P)) ∧ Hid (OI wr w.heap.size u9 (frm P)) ∧ Hid (∀ k, u8.ownBlock = some k → u9.ownBlock ≠ some k) ∧ Hid (Below w.heap.size w wr)) (fun _ _ i _ => (intOf i).toNat)
          case atStart => exact ⟨y, P, by omega, fun _ => .inl rfl, rfl, hPl, HGK, HOA, HOB, HAP, HB⟩
          case round =>
            clear HGK HOA HOB HAP HB hPl hc
            obtain ⟨z, P, hz, hz0, rfl, hPl, HGK, HOA, HOB, HAP, HB⟩ := hrel
            have hwl := wid_len f P
            have hfl := frm_len P
            have HWA := hide (wid_app f P [none])
            have HFA := hide (frm_app P [none])
            have HWS := hide (wid_app f P [some k])
            have HFS := hide (frm_app P [some k])
            obtain ⟨A, hA⟩ : ∃ A, A = wid f P := ⟨_, rfl⟩
            obtain ⟨B, hBe⟩ : ∃ A, A = frm P := ⟨_, rfl⟩
            rw [← hA] at HOA HWA HWS hwl
            rw [← hBe] at HOB HFA HFS hfl
            obtain ⟨a1, p5, hu⟩ := HOA.out.shape
            subst hu
            obtain ⟨a2, p6, hu⟩ := HOB.out.shape
            subst hu
            have hBw := HB.out.size
            have hAl : A.length ≤ 576 := by omega
            have hBl : B.length ≤ 576 := by omega
            have hA288 : A.length < 288 ↔ P.length < 288 := by omega
            clear hA hBe hwl hfl
            by_cases hz1 : 0 < z
            · by_cases hz2 : A.length < 288
              · have hz2' : (A.length : Int) < 288 := by omega
                have hP8 := hA288.1 hz2
                clear hA288
                have HALC : Hid (OI (wr.alloc (.cells #[.int .i64 0] 3)) w.heap.size (.slice a1 A.length p5) A) := HOA.out.alloc _
                have HSR : Hid (Src Try.prog 1 22 (.slice (some ⟨wr.heap.size, 0, none⟩) 1 1) ([0] : List Int).length (([0] : List Int).map (Value.int .i64)) (wr.alloc (.cells #[.int .i64 0] 3))) := built_srcI wr [0]
                go_wp2_with (at_builtin; refine wpList_appI rfl _ _ 22 rfl w.heap.size _ _ A [0] rfl HALC.out rfl HSR.out (by simp; omega) (by simp; omega) ?_)
                intro v3 w3 ho3 hgr3
                obtain ⟨hx1, hx2⟩ := grew_other (A := A) HOB.out HAP.out hgr3
                have HO3 := hide ho3
                have HB3 := hide (grow_one HB.out HOA.out hgr3)
                have HOB3 := hide hx1
                have HAP3 : Hid (∀ k, (Value.slice a2 B.length p6).ownBlock = some k → v3.ownBlock ≠ some k) := fun k hk he => hx2 k he hk
                have hB3w := HB3.out.size
                clear ho3 hgr3 hx1 hx2
                have HALC2 : Hid (OI (w3.alloc (.cells #[.int .i64 (-1)] 3)) w.heap.size (.slice a2 B.length p6) B) := HOB3.out.alloc _
                have HSR2 : Hid (Src Try.prog 1 22 (.slice (some ⟨w3.heap.size, 0, none⟩) 1 1) ([(-1)] : List Int).length (([(-1)] : List Int).map (Value.int .i64)) (w3.alloc (.cells #[.int .i64 (-1)] 3))) := built_srcI w3 [(-1)]
                go_wp2_with (at_builtin; refine wpList_appI rfl _ _ 22 rfl w.heap.size _ _ B [(-1)] rfl HALC2.out rfl HSR2.out (by simp; omega) (by simp; omega) ?_)
                intro v4 w4 ho4 hgr4
                obtain ⟨hx1, hx2⟩ := grew_other (A := B) HO3.out HAP3.out hgr4
                have HOB4 := hide ho4
                have HB4 := hide (grow_one HB3.out HOB3.out hgr4)
                have HO4 := hide hx1
                have HAP4 : Hid (∀ k, v3.ownBlock = some k → v4.ownBlock ≠ some k) := fun k hk he => hx2 k he hk
                clear ho4 hgr4 hx1 hx2
                have HR4 : Hid (OI w4 w.heap.size v3 (wid f (P ++ [none])) ∧ OI w4 w.heap.size v4 (frm (P ++ [none]))) := ⟨by rw [HWA.out]; exact HO4.out, by rw [HFA.out]; exact HOB4.out⟩
                have hw1 : IntKind.i64.wrap (z - 1) = z - 1 := by rw [IntKind.wrap_i64]; omega
                go_wp2
                go_roundw
                case rel => exact ⟨z - 1, P ++ [none], by omega, (fun q => .inr (by omega)), by go_num, by rw [List.length_append]; simp; omega, HGK.out.gap, HR4.out.1, HR4.out.2, HAP4, HB4⟩
                case measure => simp [intOf]; omega
              · have hz2' : ¬ (A.length : Int) < 288 := by omega
                clear hA288
                obtain ⟨bf, of, rfl, hcf⟩ := HFG.out _ HB.out
                obtain ⟨x, hx⟩ : ∃ x, x = f.getD k 0 := ⟨_, rfl⟩
                rw [← hx] at hcf
                have HXX := hide hx
                clear hx
                have HALC : Hid (OI (wr.alloc (.cells #[.int .i64 x] 3)) w.heap.size (.slice a1 A.length p5) A) := HOA.out.alloc _
                have HSR : Hid (Src Try.prog 1 22 (.slice (some ⟨wr.heap.size, 0, none⟩) 1 1) ([x] : List Int).length (([x] : List Int).map (Value.int .i64)) (wr.alloc (.cells #[.int .i64 x] 3))) := built_srcI wr [x]
                go_wp2_with (at_builtin; refine wpList_appI rfl _ _ 22 rfl w.heap.size _ _ A [x] rfl HALC.out rfl HSR.out (by simp; omega) (by simp; omega) ?_)
                intro v3 w3 ho3 hgr3
                obtain ⟨hx1, hx2⟩ := grew_other (A := A) HOB.out HAP.out hgr3
                have HO3 := hide ho3
                have HB3 := hide (grow_one HB.out HOA.out hgr3)
                have HOB3 := hide hx1
                have HAP3 : Hid (∀ k, (Value.slice a2 B.length p6).ownBlock = some k → v3.ownBlock ≠ some k) := fun k hk he => hx2 k he hk
                have hB3w := HB3.out.size
                clear ho3 hgr3 hx1 hx2
                have HALC2 : Hid (OI (w3.alloc (.cells #[.int .i64 (k : Int)] 3)) w.heap.size (.slice a2 B.length p6) B) := HOB3.out.alloc _
                have HSR2 : Hid (Src Try.prog 1 22 (.slice (some ⟨w3.heap.size, 0, none⟩) 1 1) ([(k : Int)] : List Int).length (([(k : Int)] : List Int).map (Value.int .i64)) (w3.alloc (.cells #[.int .i64 (k : Int)] 3))) := built_srcI w3 [(k : Int)]
                go_wp2_with (at_builtin; refine wpList_appI rfl _ _ 22 rfl w.heap.size _ _ B [(k : Int)] rfl HALC2.out rfl HSR2.out (by simp; omega) (by simp; omega) ?_)
                intro v4 w4 ho4 hgr4
                obtain ⟨hx1, hx2⟩ := grew_other (A := B) HO3.out HAP3.out hgr4
                have HOB4 := hide ho4
                have HB4 := hide (grow_one HB3.out HOB3.out hgr4)
                have HO4 := hide hx1
                have HAP4 : Hid (∀ k, v3.ownBlock = some k → v4.ownBlock ≠ some k) := fun k hk he => hx2 k he hk
                clear ho4 hgr4 hx1 hx2
                have HR4 : Hid (OI w4 w.heap.size v3 (wid f (P ++ [some k])) ∧ OI w4 w.heap.size v4 (frm (P ++ [some k]))) := ⟨by rw [HWS.out]; have := HO4.out; rw [HXX.out] at this; exact this, by rw [HFS.out]; exact HOB4.out⟩
                go_wp2
                go_roundw
                case rel => exact ⟨k + 1, P ++ [some k], by omega, by go_num, by rw [List.length_append]; simp; omega, HGK.out.sym, HR4.out.1, HR4.out.2, HAP4, HB4⟩
                case measure => simp [intOf]; omega
            · clear hA288
              obtain ⟨bf, of, rfl, hcf⟩ := HFG.out _ HB.out
              obtain ⟨x, hx⟩ : ∃ x, x = f.getD k 0 := ⟨_, rfl⟩
              rw [← hx] at hcf
              have HXX := hide hx
              clear hx
              have HALC : Hid (OI (wr.alloc (.cells #[.int .i64 x] 3)) w.heap.size (.slice a1 A.length p5) A) := HOA.out.alloc _
              have HSR : Hid (Src Try.prog 1 22 (.slice (some ⟨wr.heap.size, 0, none⟩) 1 1) ([x] : List Int).length (([x] : List Int).map (Value.int .i64)) (wr.alloc (.cells #[.int .i64 x] 3))) := built_srcI wr [x]
              go_wp2_with (at_builtin; refine wpList_appI rfl _ _ 22 rfl w.heap.size _ _ A [x] rfl HALC.out rfl HSR.out (by simp; omega) (by simp; omega) ?_)
              intro v3 w3 ho3 hgr3
              obtain ⟨hx1, hx2⟩ := grew_other (A := A) HOB.out HAP.out hgr3
              have HO3 := hide ho3
              have HB3 := hide (grow_one HB.out HOA.out hgr3)
              have HOB3 := hide hx1
              have HAP3 : Hid (∀ k, (Value.slice a2 B.length p6).ownBlock = some k → v3.ownBlock ≠ some k) := fun k hk he => hx2 k he hk
              have hB3w := HB3.out.size
              clear ho3 hgr3 hx1 hx2
              have HALC2 : Hid (OI (w3.alloc (.cells #[.int .i64 (k : Int)] 3)) w.heap.size (.slice a2 B.length p6) B) := HOB3.out.alloc _
              have HSR2 : Hid (Src Try.prog 1 22 (.slice (some ⟨w3.heap.size, 0, none⟩) 1 1) ([(k : Int)] : List Int).length (([(k : Int)] : List Int).map (Value.int .i64)) (w3.alloc (.cells #[.int .i64 (k : Int)] 3))) := built_srcI w3 [(k : Int)]
              go_wp2_with (at_builtin; refine wpList_appI rfl _ _ 22 rfl w.heap.size _ _ B [(k : Int)] rfl HALC2.out rfl HSR2.out (by simp; omega) (by simp; omega) ?_)
              intro v4 w4 ho4 hgr4
              obtain ⟨hx1, hx2⟩ := grew_other (A := B) HO3.out HAP3.out hgr4
              have HOB4 := hide ho4
              have HB4 := hide (grow_one HB3.out HOB3.out hgr4)
              have HO4 := hide hx1
              have HAP4 : Hid (∀ k, v3.ownBlock = some k → v4.ownBlock ≠ some k) := fun k hk he => hx2 k he hk
              clear ho4 hgr4 hx1 hx2
              have HR4 : Hid (OI w4 w.heap.size v3 (wid f (P ++ [some k])) ∧ OI w4 w.heap.size v4 (frm (P ++ [some k]))) := ⟨by rw [HWS.out]; have := HO4.out; rw [HXX.out] at this; exact this, by rw [HFS.out]; exact HOB4.out⟩
              go_wp2
              go_roundw
              case rel => exact ⟨k + 1, P ++ [some k], by omega, by go_num, by rw [List.length_append]; simp; omega, HGK.out.sym, HR4.out.1, HR4.out.2, HAP4, HB4⟩
              case measure => simp [intOf]; omega
        · have hks' : ¬ (k : Int) < (sp.length : Int) := by omega
          have hwl := wid_len f P
          have hfl := frm_len P
          have HWS := hide (wid_app f P [some k])
          have HFS := hide (frm_app P [some k])
          obtain ⟨A, hA⟩ : ∃ A, A = wid f P := ⟨_, rfl⟩
          obtain ⟨B, hBe⟩ : ∃ A, A = frm P := ⟨_, rfl⟩
          rw [← hA] at HOA HWS hwl
          rw [← hBe] at HOB HFS hfl
          obtain ⟨a1, p5, hu⟩ := HOA.out.shape
          subst hu
          obtain ⟨a2, p6, hu⟩ := HOB.out.shape
          subst hu
          have hBw := HB.out.size
          have hAl : A.length ≤ 576 := by omega
          have hBl : B.length ≤ 576 := by omega
          clear hA hBe hwl hfl
          obtain ⟨bf, of, rfl, hcf⟩ := HFG.out _ HB.out
          obtain ⟨x, hx⟩ : ∃ x, x = f.getD k 0 := ⟨_, rfl⟩
          rw [← hx] at hcf
          have HXX := hide hx
          clear hx
          have HALC : Hid (OI (wr.alloc (.cells #[.int .i64 x] 3)) w.heap.size (.slice a1 A.length p5) A) := HOA.out.alloc _
          have HSR : Hid (Src Try.prog 1 22 (.slice (some ⟨wr.heap.size, 0, none⟩) 1 1) ([x] : List Int).length (([x] : List Int).map (Value.int .i64)) (wr.alloc (.cells #[.int .i64 x] 3))) := built_srcI wr [x]
          go_wp2_with (at_builtin; refine wpList_appI rfl _ _ 22 rfl w.heap.size _ _ A [x] rfl HALC.out rfl HSR.out (by simp; omega) (by simp; omega) ?_)
          intro v3 w3 ho3 hgr3
          obtain ⟨hx1, hx2⟩ := grew_other (A := A) HOB.out HAP.out hgr3
          have HO3 := hide ho3
          have HB3 := hide (grow_one HB.out HOA.out hgr3)
          have HOB3 := hide hx1
          have HAP3 : Hid (∀ k, (Value.slice a2 B.length p6).ownBlock = some k → v3.ownBlock ≠ some k) := fun k hk he => hx2 k he hk
          have hB3w := HB3.out.size
          clear ho3 hgr3 hx1 hx2
          have HALC2 : Hid (OI (w3.alloc (.cells #[.int .i64 (k : Int)] 3)) w.heap.size (.slice a2 B.length p6) B) := HOB3.out.alloc _
          have HSR2 : Hid (Src Try.prog 1 22 (.slice (some ⟨w3.heap.size, 0, none⟩) 1 1) ([(k : Int)] : List Int).length (([(k : Int)] : List Int).map (Value.int .i64)) (w3.alloc (.cells #[.int .i64 (k : Int)] 3))) := built_srcI w3 [(k : Int)]
          go_wp2_with (at_builtin; refine wpList_appI rfl _ _ 22 rfl w.heap.size _ _ B [(k : Int)] rfl HALC2.out rfl HSR2.out (by simp; omega) (by simp; omega) ?_)
          intro v4 w4 ho4 hgr4
          obtain ⟨hx1, hx2⟩ := grew_other (A := B) HO3.out HAP3.out hgr4
          have HOB4 := hide ho4
          have HB4 := hide (grow_one HB3.out HOB3.out hgr4)
          have HO4 := hide hx1
          have HAP4 : Hid (∀ k, v3.ownBlock = some k → v4.ownBlock ≠ some k) := fun k hk he => hx2 k he hk
          clear ho4 hgr4 hx1 hx2
          have HR4 : Hid (OI w4 w.heap.size v3 (wid f (P ++ [some k])) ∧ OI w4 w.heap.size v4 (frm (P ++ [some k]))) := ⟨by rw [HWS.out]; have := HO4.out; rw [HXX.out] at this; exact this, by rw [HFS.out]; exact HOB4.out⟩
          go_wp2
          go_roundw
          case rel => exact ⟨k + 1, P ++ [some k], by omega, by go_num, by rw [List.length_append]; simp; omega, HGK.out.sym, HR4.out.1, HR4.out.2, HAP4, HB4⟩
          case measure => simp [intOf]; omega
      · obtain rfl : k = f.length := by omega
        have hlt' : ¬ (f.length : Int) < (f.length : Int) := by omega
        obtain ⟨a1, p5, hu⟩ := HOA.out.shape
        rw [wid_len] at hu
        subst hu
        obtain ⟨a2, p6, hu⟩ := HOB.out.shape
        rw [frm_len] at hu
        subst hu
        by_cases hP : 288 < P.length
        · have hP' : (288 : Int) < (P.length : Int) := by omega
          go_wp2
          go_ret
          exact ⟨rfl, HB.out⟩
        have hP' : ¬ (288 : Int) < (P.length : Int) := by omega
        obtain ⟨t1, t2, t3⟩ := wide_facts HS.out HGK.out (by omega)
        have HSC2 := hide t1
        have HUU : Hid ((us (wid f P)).length ≤ 2 ^ L) := by rw [t2]; exact HU2.out
        have HT3 := hide t3
        have HWL := hide (wid_len f P)
        have HFL2 := hide (frm_len P)
        have HGI : Hid (∀ W, Below wr.heap.size wr W → SI W (.slice a1 P.length p5) (wid f P)) := fun W hW => HOA.out.sb.below hW
        have HFI : Hid (∀ W, Below wr.heap.size wr W → SI W (.slice a2 (frm P).length p6) (frm P)) := fun W hW => by rw [frm_len]; exact HOB.out.sb.below hW
        have HFR := hide (HF.out.below HB.out)
        have rg : (wid f P).length ≤ 17592186043904 := by rw [HWL.out]; omega
        clear t1 t2 t3 HOA HOB HAP
        go_wp2_with fail
        refine (copied_any _ f _ HFR.out rf).mono ?_
        rintro e w2 ⟨a2, c2, rfl, ho2, hb2⟩
        have HO2 := hide ho2
        have HB2 := hide hb2
        clear ho2 hb2
        go_wp2_with fail
        refine (depths_ok HS.out _ _ HO2.out.sb).mono ?_
        rintro e w3 ⟨a3, c3, rfl, ho3, hb3⟩
        have HO3 := hide ho3
        have HB3 := hide (HB2.out.trans (hb3.mono HB2.out.size))
        have HF3 := hide (HFR.out.below HB3.out)
        clear ho3 hb3
        go_wp2_with fail
        refine (copied_any _ f _ HF3.out rf).mono ?_
        rintro e w4 ⟨a4, c4, rfl, ho4, hb4⟩
        have HO4 := hide ho4
        have HB4 := hide (HB3.out.trans (hb4.mono HB3.out.size))
        have HO34 := hide (HO3.out.below hb4 (Nat.le_refl _))
        clear ho4 hb4
        go_wp2_with fail
        refine (limited_ok HS.out hL HU2.out _ _ HO4.out.sb HO4.out.blk).mono ?_
        rintro e w5 ⟨a5, c5, rfl, ho5, hb5⟩
        have HO5 := hide ho5
        have HB5 := hide (HB4.out.trans (hb5.mono HB4.out.size))
        have HO35 := hide (HO34.out.below hb5 (Nat.le_refl _))
        have HF5 := hide (HFR.out.below HB5.out)
        clear ho5 hb5
        go_wp2_with fail
        refine (good_gd _ _ f (dpt f) 60 _ HF5.out HO35.out.sb HS.out HG0.out (by omega)).mono ?_
        rintro e w6 ⟨rfl, hw6⟩
        rw [hw6]
        clear hw6
        go_wp2_with fail
        refine (good_gd _ _ f (lmt f L) L _ HF5.out HO5.out.sb HS.out HG.out hlim2).mono ?_
        rintro e w6 ⟨rfl, hw6⟩
        rw [hw6]
        clear hw6

        have HCM := hide (copied_any (.slice a1 P.length p5) (wid f P) w5 (HGI.out _ HB5.out) rg)
        rw [HWL.out] at HCM
        go_wp2_with fail
        refine HCM.out.mono ?_
        rintro e w7 ⟨a7, c7, rfl, ho7, hb7⟩
        have HO7 := hide ho7
        have HB7 := hide (HB5.out.trans (hb7.mono HB5.out.size))
        have HO37 := hide (HO35.out.below hb7 (Nat.le_refl _))
        have HO57 := hide (HO5.out.below hb7 (Nat.le_refl _))
        have HDC := hide (depths_ok HSC2.out (.slice a7 P.length c7) w7 ho7.sb)
        rw [HWL.out] at HDC
        clear ho7 hb7
        go_wp2_with fail
        refine HDC.out.mono ?_
        rintro e w8 ⟨a8, c8, rfl, ho8, hb8⟩
        have HO8 := hide ho8
        have HB8 := hide (HB7.out.trans (hb8.mono HB7.out.size))
        have HO38 := hide (HO37.out.below hb8 (Nat.le_refl _))
        have HO58 := hide (HO57.out.below hb8 (Nat.le_refl _))
        have HCM2 := hide (copied_any (.slice a1 P.length p5) (wid f P) w8 (HGI.out _ HB8.out) rg)
        rw [HWL.out] at HCM2
        clear ho8 hb8
        go_wp2_with fail
        refine HCM2.out.mono ?_
        rintro e w9 ⟨a9, c9, rfl, ho9, hb9⟩
        have HO9 := hide ho9
        have HB9 := hide (HB8.out.trans (hb9.mono HB8.out.size))
        have HO39 := hide (HO38.out.below hb9 (Nat.le_refl _))
        have HO59 := hide (HO58.out.below hb9 (Nat.le_refl _))
        have HO89 := hide (HO8.out.below hb9 (Nat.le_refl _))
        have HLC := hide (limited_ok HSC2.out hL HUU.out (.slice a9 P.length c9) w9 ho9.sb ho9.blk)
        rw [HWL.out] at HLC
        clear ho9 hb9
        go_wp2_with fail
        refine HLC.out.mono ?_
        rintro e w10 ⟨a10, c10, rfl, ho10, hb10⟩
        have HB10 := hide (HB9.out.trans (hb10.mono HB9.out.size))
        have HBF := hide (HB.out.trans (HB10.out.mono HB.out.size))
        have HI1 : Hid (SI w10 (.slice a3 (dpt f).length c3) (dpt f)) := by rw [dpt_len]; exact (HO39.out.below hb10 (Nat.le_refl _)).sb
        have HI2 : Hid (SI w10 (.slice a5 (lmt f L).length c5) (lmt f L)) := by rw [lmt_len]; exact (HO59.out.below hb10 (Nat.le_refl _)).sb
        have HI3 : Hid (SI w10 (.slice a8 (dpt (wid f P)).length c8) (dpt (wid f P))) := by rw [dpt_len, HWL.out]; exact (HO89.out.below hb10 (Nat.le_refl _)).sb
        have HI4 : Hid (SI w10 (.slice a10 (lmt (wid f P) L).length c10) (lmt (wid f P) L)) := by rw [lmt_len, HWL.out]; exact ho10.sb
        have HI5 := hide (HFI.out _ HB10.out)
        clear ho10 hb10
        have hne1 : ((P.length : Int) != (P.length : Int)) = false := by simp
        go_wp2
        go_loopw [19] (fun vi wr => ∃ i : Nat, i ≤ P.length ∧ vi = .int .i64 i ∧ Hid (∃ q, wr = w10.drewN q)) (fun vi _ => P.length - (intOf vi).toNat)
        case atStart => exact ⟨0, Nat.zero_le _, rfl, 0, rfl⟩
        case round =>
          obtain ⟨i, hi, rfl, HQ⟩ := hrel
          by_cases hil : i < P.length
          · have hil' : (i : Int) < (P.length : Int) := by omega
            obtain ⟨q, hq⟩ := HQ.out
            have hbl : Below w10.heap.size w10 wr := by rw [hq]; exact below_drewN (Below.refl _ _) q
            obtain ⟨b5, o5, rfl, y5⟩ := HI5.out.get hbl (k := i) (by rw [frm_len]; exact hil)
            obtain ⟨b3, o3, rfl, y3⟩ := HI3.out.get hbl (k := i) (by rw [dpt_len, wid_len]; exact hil)
            obtain ⟨b4, o4, rfl, y4⟩ := HI4.out.get hbl (k := i) (by rw [lmt_len, wid_len]; exact hil)
            rw [frm_get P hil] at y5
            rw [dpt_get (by rw [wid_len]; exact hil)] at y3
            rw [lmt_get (by rw [wid_len]; exact hil)] at y4
            have HQN : Hid (∀ k, ∃ q, wr.drewN k = w10.drewN q) := fun k => by obtain ⟨q, hq⟩ := HQ.out; exact ⟨q + k, by rw [hq, World.drewN_drewN]⟩
            have HBL := hide hbl
            obtain ⟨t1, t2⟩ := HT3.out i hil
            clear hq hbl HQ
            cases e : P[i] with
            | none =>
              obtain ⟨r1, r2⟩ := t1 e
              rw [e] at y5
              rw [r1] at y3
              rw [r2 L] at y4
              have y5' : wr.cell? ⟨b5, o5 + i, none⟩ = some (.int .i64 (-1)) := y5
              have y3' : wr.cell? ⟨b3, o3 + i, none⟩ = some (.int .i64 0) := y3
              have y4' : wr.cell? ⟨b4, o4 + i, none⟩ = some (.int .i64 0) := y4
              clear e t1 t2 r1 r2 y5 y3 y4
              go_wp2
              go_quiet (fail)
              go_wp2
              go_roundw
              case rel => exact ⟨i + 1, by omega, by go_num, by (try simp only [World.drewN_drewN]); exact HQN.out _⟩
              case measure => simp [intOf]; omega
            | some s =>
              obtain ⟨r0, r1, r2⟩ := t2 s e
              rw [e] at y5
              rw [r1] at y3
              rw [r2 L] at y4
              have y5' : wr.cell? ⟨b5, o5 + i, none⟩ = some (.int .i64 (s : Int)) := y5
              obtain ⟨b1, o1, rfl, x1⟩ := HI1.out.get HBL.out (k := s) (by rw [dpt_len]; exact r0)
              obtain ⟨b2, o2, rfl, x2⟩ := HI2.out.get HBL.out (k := s) (by rw [lmt_len]; exact r0)
              rw [dpt_get r0] at x1
              rw [lmt_get r0] at x2
              obtain ⟨dv, hdv⟩ : ∃ x, x = dp f s := ⟨_, rfl⟩
              obtain ⟨lv, hlv⟩ : ∃ x, x = lm f L s := ⟨_, rfl⟩
              rw [← hdv] at x1 y3
              rw [← hlv] at x2 y4
              have hs0 : ¬ (s : Int) < 0 := by omega
              have hs1 : (0 : Int) ≤ (s : Int) := by omega
              have hs2 : (s : Int) < (f.length : Int) := by omega
              have hdd : decide ((0 : Int) ≤ (s : Int)) = true := decide_eq_true hs1
              clear e t1 t2 r1 r2 y5 hdv hlv
              go_wp2
              go_quiet (fail)
              go_wp2
              go_roundw
              case rel => exact ⟨i + 1, by omega, by go_num, by (try simp only [World.drewN_drewN]); exact HQN.out _⟩
              case measure => simp [intOf]; omega
          · obtain rfl : i = P.length := by omega
            have hil' : ¬ (P.length : Int) < (P.length : Int) := by omega
            have HFB : Hid (Below w.heap.size w wr) := by obtain ⟨q, hq⟩ := HQ.out; rw [hq]; exact below_drewN HBF.out q
            go_wp2
            go_ret
            exact ⟨rfl, HFB.out⟩
end Go.Proofs.Ytgengoffkoonfab

