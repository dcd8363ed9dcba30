import Derived.Test.YtpbghgddeodabaaGAps
namespace Go.Proofs.Ytpbghgddeodabaa
open Go.RowKit Go.Maps
set_option maxRecDepth 20000
set_option linter.unusedVariables false
set_option linter.unusedSimpArgs false

theorem SB.part11 {w : World} {b o cap : Nat} {x : List Int} (h : SB w (.slice (some ⟨b, o, none⟩) x.length cap) x) {at' n : Nat} (hn : at' + n ≤ x.length) : SB w (.slice (some ⟨b, o + at', none⟩) n (cap - at')) ((x.drop at').take n) := by
  obtain ⟨ao', cap', he, a1, a2, a3, a4⟩ := h
  simp only [Value.slice.injEq] at he
  obtain ⟨rfl, -, rfl⟩ := he
  have hl : ((x.drop at').take n).length = n := by rw [List.length_take, List.length_drop]; omega
  refine ⟨some ⟨b, o + at', none⟩, cap - at', by rw [hl], by rw [hl]; omega, Nat.le_trans (Nat.sub_le _ _) a2, (fun q => by cases q), fun y hy i hi => ?_⟩
  cases hy
  rw [hl] at hi
  have := a4 ⟨b, o, none⟩ rfl (at' + i) (by omega)
  rw [Addr.add_lit] at this
  rw [Addr.add_lit, Nat.add_assoc, this]
  congr 2
  simp only [List.getD, List.getElem?_take_of_lt hi, List.getElem?_drop]

def bnd (n : Int) : Int := n + 5 * max ((n + 65534) / 65535) 1

theorem fbound_any (n : Int) (w : World) (h0 : 0 ≤ n) (h1 : n ≤ 16777216) : Calls Try.prog 14 #[.int .i64 n] w fun e w' => e = .returned (.int .i64 (bnd n)) ∧ w' = w := by
  have g0 : wrap64 (n + 65535) = n + 65535 := by unfold wrap64; omega
  have g1 : wrap64 (n + 65535 - 1) = n + 65534 := by unfold wrap64; omega
  have g2 : n + 65535 - 1 = n + 65534 := by omega
  have g3 : Int.tdiv (n + 65534) 65535 = (n + 65534) / 65535 := Int.tdiv_eq_ediv_of_nonneg (by omega)
  unfold bnd
  obtain ⟨q, hq⟩ : ∃ q, (n + 65534) / 65535 = q := ⟨_, rfl⟩
  have q0 : 0 ≤ q := by omega
  have q1 : q ≤ 258 := by omega
  rw [hq] at g3 ⊢
  have g4 : wrap64 q = q := by unfold wrap64; omega
  by_cases hc : q < 1
  · obtain rfl : q = 0 := by omega
    have e : max (0 : Int) 1 = 1 := by omega
    have g5 : wrap64 (n + 5) = n + 5 := by unfold wrap64; omega
    rw [e]
    clear hq
    go_enter Try.func14, Try.ntmps14
    go_wp2
    go_ret
    exact ⟨by simp, rfl⟩
  · have e : max q 1 = q := by omega
    have g5 : wrap64 (5 * q) = 5 * q := by unfold wrap64; omega
    have g6 : wrap64 (n + 5 * q) = n + 5 * q := by unfold wrap64; omega
    rw [e]
    clear hq
    go_enter Try.func14, Try.ntmps14
    go_wp2
    go_ret
    exact ⟨rfl, rfl⟩

theorem fBound_any (n : Int) (w : World) : Calls Try.prog 7 #[.int .i64 n] w fun e w' => e = .returned (.tuple #[.int .i64 (if 0 ≤ n ∧ n ≤ 16777216 then bnd n else 0), .int .i64 (if 0 ≤ n ∧ n ≤ 16777216 then 0 else 1)]) ∧ w' = w := by
  by_cases h : 0 ≤ n ∧ n ≤ 16777216
  · rw [if_pos h, if_pos h]
    have HF := hide (fbound_any n w h.1 h.2)
    have g1 : ¬ n < 0 := by omega
    have g2 : ¬ (16777216 : Int) < n := by omega
    clear h
    go_enter Try.func7, Try.ntmps7
    go_wp2_with fail
    refine HF.out.mono ?_
    rintro e w2 ⟨rfl, rfl⟩
    go_wp2
    refine bodyPost_ret (results_tmp2 rfl _ _ _) rfl ?_
    exact ⟨rfl, rfl⟩
  · rw [if_neg h, if_neg h]
    by_cases g1 : n < 0
    · go_enter Try.func7, Try.ntmps7
      go_wp2
      refine bodyPost_ret (results_tmp2 rfl _ _ _) rfl ?_
      exact ⟨rfl, rfl⟩
    · have g2 : (16777216 : Int) < n := by omega
      go_enter Try.func7, Try.ntmps7
      go_wp2
      refine bodyPost_ret (results_tmp2 rfl _ _ _) rfl ?_
      exact ⟨rfl, rfl⟩

theorem fStored_any (u : Value) (x : List Int) (w : World) (hB : Byt x) (hS : SB w u x) (hu : ∀ k, u.ownBlock = some k → k < w.heap.size) :
    Calls Try.prog 5 #[u] w fun e w' => ∃ v', e = .returned (.tuple #[v', .int .i64 (if 16777216 < x.length then 1 else 0)]) ∧ OB w' w.heap.size v' (if 16777216 < x.length then [] else stB x) ∧ Below w.heap.size w w' := by
  by_cases h : 16777216 < x.length
  · rw [if_pos h, if_pos h]
    obtain ⟨ao, cap, rfl, h1, h2, -, -⟩ := hS
    unfold maxLen at h2
    have h' : (16777216 : Int) < (x.length : Int) := by omega
    go_enter Try.func5, Try.ntmps5
    go_wp2
    go_ret2
    exact ⟨_, rfl, World.ownsRow_nil _ _ _ _, Below.refl _ _⟩
  · rw [if_neg h, if_neg h]
    have HF := hide (fstored_any u x w hB hS hu (by omega))
    obtain ⟨ao, cap, rfl, h1, h2, -, -⟩ := hS
    unfold maxLen at h2
    have h' : ¬ (16777216 : Int) < (x.length : Int) := by omega
    go_enter Try.func5, Try.ntmps5
    go_wp2_with fail
    refine HF.out.mono ?_
    rintro e w2 ⟨a, c, rfl, ho, hb⟩
    have HO := hide ho
    have HB := hide hb
    clear ho hb
    go_wp2
    go_ret2
    exact ⟨_, rfl, HO.out, HB.out⟩

set_option maxRecDepth 1000000 in
set_option maxHeartbeats 8000000 in
theorem gStored_any (u : Value) (x : List Int) (w : World) (hS : SB w u x) :
    Calls Try.prog 6 #[u] w fun e w' => ∃ v', e = .returned (.tuple #[v', .int .i64 (if 16777216 < x.length then 1 else 0)]) ∧ OB w' w.heap.size v' (if 16777216 < x.length then [] else stB x) ∧ Below w.heap.size w w' := by
  have HS := hide hS
  obtain ⟨ao, cap, rfl, h1, h2, -, -⟩ := hS
  unfold maxLen at h2
  by_cases h : 16777216 < x.length
  · rw [if_pos h, if_pos h]
    have h' : (16777216 : Int) < (x.length : Int) := by omega
    go_enter Try.func6, Try.ntmps6
    go_wp2
    go_ret2
    exact ⟨_, rfl, World.ownsRow_nil _ _ _ _, Below.refl _ _⟩
  rw [if_neg h, if_neg h]
  have h' : ¬ (16777216 : Int) < (x.length : Int) := by omega
  have hSL : (stB x).length ≤ 16778700 := by rw [stB_len x.length x (Nat.le_refl _)]; omega
  have HSL := hide hSL
  clear hSL
  go_enter Try.func6, Try.ntmps6
  go_wp2
  go_loopw [4, 5, 6, 7] (fun t i _ _ wr => ∃ (A : Nat) (L : List Int) (ta : Option Addr) (tc : Nat), t = .slice ta L.length tc ∧ i = .int .i64 (A : Int) ∧ A ≤ 16842751 ∧ Hid (OB wr w.heap.size (.slice ta L.length tc) L) ∧ Hid (((A < x.length ∨ A = 0) ∧ L ++ stB (x.drop A) = stB x) ∨ (x.length ≤ A ∧ A ≠ 0 ∧ L = stB x)) ∧ Hid (Below w.heap.size w wr)) (fun _ i _ _ _ => 16842752 - (intOf i).toNat)
  case atStart => exact ⟨0, [], none, 0, rfl, rfl, by omega, World.ownsRow_nil _ _ _ _, .inl ⟨.inr rfl, by simp⟩, Below.refl _ _⟩
  case round =>
    obtain ⟨A, L, ta, tc, rfl, rfl, hA, HO, HI, HB⟩ := hrel
    by_cases hdone : x.length ≤ A ∧ A ≠ 0
    · have HL : Hid (L = stB x) := by
        rcases HI.out with ⟨q, _⟩ | ⟨_, _, q⟩
        · omega
        · exact q
      have z1 : ¬ (A : Int) < (x.length : Int) := by omega
      have z2 : ((A : Int) == 0) = false := by simp; omega
      go_wp2
      go_ret2
      rw [← HL.out]
      exact ⟨_, rfl, HO.out, HB.out⟩
    have hact : A < x.length ∨ A = 0 := by omega
    have HAP : Hid (L ++ stB (x.drop A) = stB x) := by
      rcases HI.out with ⟨_, q⟩ | ⟨q1, q2, _⟩
      · exact q
      · omega
    have hLl : L.length ≤ 16778700 := by
      have e := congrArg List.length HAP.out
      rw [List.length_append] at e
      have := HSL.out
      omega
    clear HI hdone
    by_cases hbig : 65535 < x.length - A
    · have hAl : A < x.length := by omega
      have hA1 : (A : Int) < (x.length : Int) := by omega
      have hA2 : (65535 : Int) < (x.length : Int) - (A : Int) := by omega
      obtain ⟨b, o, rfl⟩ : ∃ b o, ao = some ⟨b, o, none⟩ := by
        obtain ⟨ao', cap', he, a1, a2, a3, a4⟩ := HS.out
        simp only [Value.slice.injEq] at he
        obtain ⟨rfl, _, rfl⟩ := he
        cases ao with
        | none => have := a3 rfl; omega
        | some y =>
          obtain ⟨b, o, rfl⟩ := addr_lit (a4 y rfl 0 (by omega))
          exact ⟨b, o, rfl⟩
      obtain ⟨y, z, HST, hpl, HSP⟩ : ∃ y z : List Int, Hid (stB (x.drop A) = sblk 0 y ++ stB z ∧ z = x.drop (A + 65535)) ∧ y.length = 65535 ∧ Hid (∀ W n', Below w.heap.size w W → n' = y.length → Src Try.prog 1 22 (.slice (some ⟨b, o + A, none⟩) n' (cap - A)) y.length (y.map (Value.int .u8)) W) := by
        have hpl : ((x.drop A).take 65535).length = 65535 := by rw [List.length_take, List.length_drop]; omega
        refine ⟨(x.drop A).take 65535, x.drop (A + 65535), ⟨?_, rfl⟩, hpl, fun W n' hb hn' => ?_⟩
        · rw [stB_long (by rw [List.length_drop]; exact hbig), List.drop_drop]
        · have := ((HS.out.below hb).part11 (at' := A) (n := 65535) (by omega)).src
          rw [hn', hpl]
          rw [hpl] at this
          exact this
      have hA3 : (A : Int) + 65535 ≤ (x.length : Int) := by omega
      have hA0 : (0 : Int) ≤ (A : Int) := by omega
      have hA4 : (A : Int) + 65535 ≤ (cap : Int) := by omega
      have HPL := hide hpl
      clear hpl hact hbig
      have HOa : Hid (OB (wr.alloc (.cells #[.int .u8 (0), .int .u8 (255), .int .u8 (255), .int .u8 (0), .int .u8 (0)] 5)) w.heap.size (.slice ta L.length tc) L) := HO.out.alloc _
      have HSR : Hid (Src Try.prog 1 22 (.slice (some ⟨wr.heap.size, 0, none⟩) 5 5) 5 ([0, 255, 255, 0, 0].map (Value.int .u8)) (wr.alloc (.cells #[.int .u8 (0), .int .u8 (255), .int .u8 (255), .int .u8 (0), .int .u8 (0)] 5))) := built_src wr [0, 255, 255, 0, 0]
      go_wp2_with (at_builtin; refine wpList_app rfl _ _ 22 rfl w.heap.size _ _ L [0, 255, 255, 0, 0] rfl HOa.out rfl HSR.out (by show _ + 5 ≤ _; omega) (by rw [size_alloc']; have := HB.out.size; omega) ?_)
      intro v3 w3 ho3 hg3
      obtain ⟨a3, c3, hv3⟩ := ho3.shape
      subst hv3
      have HO3 := hide ho3
      have HB3 : Hid (Below w.heap.size w w3) := (HB.out.alloc HB.out.size _).grown hg3.by (by rw [size_alloc']; have := HB.out.size; omega) (fun j hj => (HO.out.lt j hj).1)
      clear ho3 hg3
      have HSW := hide (fun n' => HSP.out w3 n' HB3.out)
      go_wp2_with (at_builtin; refine wpList_app rfl _ _ 22 rfl w.heap.size _ _ (L ++ [0, 255, 255, 0, 0]) y rfl HO3.out rfl (HSW.out _ (by rw [HPL.out] <;> first | rfl | omega)) (by rw [HPL.out, List.length_append]; show _ + 5 + _ ≤ _; omega) (by have := HB3.out.size; omega) ?_)
      intro v5 w5 ho5 hg5
      obtain ⟨a5, c5, hv5⟩ := ho5.shape
      subst hv5
      have HO5 := hide ho5
      have HB5 : Hid (Below w.heap.size w w5) := HB3.out.grown hg5.by HB3.out.size (fun j hj => (HO3.out.lt j (by simpa [Value.ownBlock] using hj)).1)
      clear ho5 hg5
      have HNX : Hid ((L ++ 0 :: 255 :: 255 :: 0 :: 0 :: y) ++ stB (x.drop (A + 65535)) = stB x) := by
        have e1 := HST.out.1
        rw [HST.out.2] at e1
        have e2 := HAP.out
        rw [e1] at e2
        rw [← e2, ← List.append_assoc]
        congr 2
        unfold sblk
        rw [HPL.out]
        rfl
      clear HST HAP HSW HSP HO3 HPL
      go_wp2
      go_roundw
      case rel => exact ⟨A + 65535, _, a5, c5, rfl, by go_num, by omega, HO5.out, .inl ⟨.inl (by omega), HNX.out⟩, HB5.out⟩
      case measure => simp [intOf]; omega
    · obtain ⟨N, hN⟩ : ∃ N, N = x.length - A := ⟨_, rfl⟩
      have hN1 : N ≤ 65535 := by omega
      have hA1 : (x.length : Int) - (A : Int) = (N : Int) := by omega
      have hA2 : ¬ (65535 : Int) < (N : Int) := by omega
      have hw1 : IntKind.u8.wrap ((N : Int) % 256) = (N : Int) % 256 := by rw [IntKind.wrap_u8]; omega
      have hw2 : IntKind.u8.wrap ((N : Int) / 256) = (N : Int) / 256 := by rw [IntKind.wrap_u8]; omega
      have hw3 : IntKind.u8.wrap (255 - (N : Int) % 256) = 255 - (N : Int) % 256 := by rw [IntKind.wrap_u8]; omega
      have hw4 : IntKind.u8.wrap (255 - (N : Int) / 256) = 255 - (N : Int) / 256 := by rw [IntKind.wrap_u8]; omega
      have hAN : A + N = x.length := by omega
      have HFI : Hid (stB x = (L ++ [1, (N : Int) % 256, (N : Int) / 256, 255 - (N : Int) % 256, 255 - (N : Int) / 256]) ++ x.drop A) := by
        show _ = _
        rw [← HAP.out, stB_short (by rw [List.length_drop]; omega)]
        unfold sblk
        rw [List.length_drop, ← hN, List.append_assoc]
        simp
      have hdl : (x.drop A).length = N := by rw [List.length_drop]; exact hN.symm
      have HDL := hide hdl
      have HSP : Hid (∀ W v', Below w.heap.size w W → (v' = .slice ao N cap ∧ A = 0 ∨ ∃ b o, ao = some ⟨b, o, none⟩ ∧ v' = .slice (some ⟨b, o + A, none⟩) N (cap - A)) → Src Try.prog 1 22 v' (x.drop A).length ((x.drop A).map (Value.int .u8)) W) := fun W v' hb hv => by
        have hs := HS.out.below hb
        rcases hv with ⟨rfl, h0⟩ | ⟨b, o, rfl, rfl⟩
        · subst h0
          rw [List.drop_zero]
          have e : N = x.length := by omega
          rw [e]
          exact hs.src
        · have := (hs.part11 (at' := A) (n := N) (by omega)).src
          rw [List.take_of_length_le (Nat.le_of_eq hdl)] at this
          exact this
      clear hdl hN hbig HAP
      by_cases hlen : A < x.length
      · have z1 : (A : Int) < (x.length : Int) := by omega
        obtain ⟨b, o, rfl⟩ : ∃ b o, ao = some ⟨b, o, none⟩ := by
          obtain ⟨ao', cap', he, a1, a2, a3, a4⟩ := HS.out
          simp only [Value.slice.injEq] at he
          obtain ⟨rfl, _, rfl⟩ := he
          cases ao with
          | none => have := a3 rfl; omega
          | some y =>
            obtain ⟨b, o, rfl⟩ := addr_lit (a4 y rfl 0 (by omega))
            exact ⟨b, o, rfl⟩
        have HSQ : Hid (∀ W n', Below w.heap.size w W → n' = N → Src Try.prog 1 22 (.slice (some ⟨b, o + A, none⟩) n' (cap - A)) (x.drop A).length ((x.drop A).map (Value.int .u8)) W) := fun W n' hb hn => by rw [hn]; exact HSP.out W _ hb (.inr ⟨b, o, rfl, rfl⟩)
        clear HSP
        have z2 : (A : Int) + (N : Int) ≤ (cap : Int) := by omega
        have z3 : (A : Int) ≤ (A : Int) + (N : Int) := by omega
        have HOa : Hid (OB (wr.alloc (.cells #[.int .u8 1, .int .u8 ((N : Int) % 256), .int .u8 ((N : Int) / 256), .int .u8 (255 - (N : Int) % 256), .int .u8 (255 - (N : Int) / 256)] 5)) w.heap.size (.slice ta L.length tc) L) := HO.out.alloc _
        have HSR : Hid (Src Try.prog 1 22 (.slice (some ⟨wr.heap.size, 0, none⟩) 5 5) 5 ([1, (N : Int) % 256, (N : Int) / 256, 255 - (N : Int) % 256, 255 - (N : Int) / 256].map (Value.int .u8)) (wr.alloc (.cells #[.int .u8 1, .int .u8 ((N : Int) % 256), .int .u8 ((N : Int) / 256), .int .u8 (255 - (N : Int) % 256), .int .u8 (255 - (N : Int) / 256)] 5))) := built_src wr [1, (N : Int) % 256, (N : Int) / 256, 255 - (N : Int) % 256, 255 - (N : Int) / 256]
        go_wp2_with (at_builtin; refine wpList_app rfl _ _ 22 rfl w.heap.size _ _ L [1, (N : Int) % 256, (N : Int) / 256, 255 - (N : Int) % 256, 255 - (N : Int) / 256] rfl HOa.out rfl HSR.out (by show _ + 5 ≤ _; omega) (by rw [size_alloc']; have := HB.out.size; omega) ?_)
        intro v3 w3 ho3 hg3
        obtain ⟨a3, c3, hv3⟩ := ho3.shape
        subst hv3
        have HO3 := hide ho3
        have HB3 : Hid (Below w.heap.size w w3) := (HB.out.alloc HB.out.size _).grown hg3.by (by rw [size_alloc']; have := HB.out.size; omega) (fun j hj => (HO.out.lt j hj).1)
        clear ho3 hg3
        have HSW := hide (fun n' => HSQ.out w3 n' HB3.out)
        clear HSQ
        go_wp2_with (at_builtin; refine wpList_app rfl _ _ 22 rfl w.heap.size _ _ (L ++ [1, (N : Int) % 256, (N : Int) / 256, 255 - (N : Int) % 256, 255 - (N : Int) / 256]) (x.drop A) rfl HO3.out rfl (HSW.out _ (by omega)) (by rw [HDL.out, List.length_append]; show _ + 5 + _ ≤ _; omega) (by have := HB3.out.size; omega) ?_)
        intro v5 w5 ho5 hg5
        have HB5 : Hid (Below w.heap.size w w5) := HB3.out.grown hg5.by HB3.out.size (fun j hj => (HO3.out.lt j (by simpa [Value.ownBlock] using hj)).1)
        have HO5 : Hid (OB w5 w.heap.size v5 (stB x)) := by
          show OB _ _ _ _
          rw [HFI.out]
          simpa using ho5
        obtain ⟨a5, c5, hv5⟩ := HO5.out.shape
        subst hv5
        clear ho5 hg5 HSW HO3 HFI
        go_wp2
        go_roundw
        case rel => exact ⟨A + 65535, stB x, a5, c5, rfl, by go_num, by omega, HO5.out, .inr ⟨by omega, by omega, rfl⟩, HB5.out⟩
        case measure => simp [intOf]; omega
      · have hA0 : A = 0 := by omega
        have hN0 : N = 0 := by omega
        subst hA0 hN0
        have hx0 : x.length = 0 := by omega
        obtain rfl : x = [] := List.eq_nil_of_length_eq_zero hx0
        have HF2 : Hid (stB ([] : List Int) = L ++ [1, 0, 0, 255, 255]) := by
          have := HFI.out
          show _ = _
          simpa using this
        have HSQ : Hid (∀ W, Below w.heap.size w W → Src Try.prog 1 22 (.slice ao 0 cap) 0 ([] : List Value) W) := fun W hb => HSP.out W _ hb (.inl ⟨rfl, rfl⟩)
        clear HSP HFI hw1 hw2 hw3 hw4 HDL hAN hA1 hA2 hx0 hlen hN1
        have HOa : Hid (OB (wr.alloc (.cells #[.int .u8 1, .int .u8 0, .int .u8 0, .int .u8 255, .int .u8 255] 5)) w.heap.size (.slice ta L.length tc) L) := HO.out.alloc _
        have HSR : Hid (Src Try.prog 1 22 (.slice (some ⟨wr.heap.size, 0, none⟩) 5 5) 5 ([1, 0, 0, 255, 255].map (Value.int .u8)) (wr.alloc (.cells #[.int .u8 1, .int .u8 0, .int .u8 0, .int .u8 255, .int .u8 255] 5))) := built_src wr [1, 0, 0, 255, 255]
        go_wp2_with (at_builtin; refine wpList_app rfl _ _ 22 rfl w.heap.size _ _ L [1, 0, 0, 255, 255] rfl HOa.out rfl HSR.out (by show _ + 5 ≤ _; omega) (by rw [size_alloc']; have := HB.out.size; omega) ?_)
        intro v3 w3 ho3 hg3
        obtain ⟨a3, c3, hv3⟩ := ho3.shape
        subst hv3
        have HO3 := hide ho3
        have HB3 : Hid (Below w.heap.size w w3) := (HB.out.alloc HB.out.size _).grown hg3.by (by rw [size_alloc']; have := HB.out.size; omega) (fun j hj => (HO.out.lt j hj).1)
        clear ho3 hg3
        have HSW := hide (HSQ.out w3 HB3.out)
        clear HSQ
        go_wp2_with (at_builtin; refine wpList_app rfl _ _ 22 rfl w.heap.size _ _ (L ++ [1, 0, 0, 255, 255]) [] rfl HO3.out rfl HSW.out (by rw [List.length_append]; show _ + 5 + 0 ≤ _; omega) (by have := HB3.out.size; omega) ?_)
        intro v5 w5 ho5 hg5
        have HB5 : Hid (Below w.heap.size w w5) := HB3.out.grown hg5.by HB3.out.size (fun j hj => (HO3.out.lt j (by simpa [Value.ownBlock] using hj)).1)
        have HO5 : Hid (OB w5 w.heap.size v5 (stB [])) := by
          show OB _ _ _ _
          rw [HF2.out]
          simpa using ho5
        obtain ⟨a5, c5, hv5⟩ := HO5.out.shape
        subst hv5
        clear ho5 hg5 HSW HO3 HF2
        go_wp2
        go_roundw
        case rel =>
          refine ⟨_, _, _, _, _, _, _, _, _, _, _, _, _, _, _, _, _, _, _, _, _, _, _, _, _, _, _, _, _, _, _, _, _, _, _, _, _, _, _, _, _, _, _, _, _, _, ?_, rfl⟩
          exact ⟨65535, stB [], a5, c5, rfl, by go_num, by omega, HO5.out, .inr ⟨by simp, by omega, rfl⟩, HB5.out⟩
        case measure => simp [intOf]
end Go.Proofs.Ytpbghgddeodabaa

