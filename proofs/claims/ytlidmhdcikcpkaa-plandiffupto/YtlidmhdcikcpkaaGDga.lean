import Derived.Test.YtlidmhdcikcpkaaGDfl
import Derived.Test.YtlidmhdcikcpkaaGFts
namespace Go.Proofs.Ytlidmhdcikcpkaa
open Go.RowKit Go.Maps
set_option maxRecDepth 20000
set_option linter.unusedVariables false
set_option linter.unusedSimpArgs false

theorem OB.at15 {w : World} {base : Nat} {a : Option Addr} {n c : Nat} {l : List Int} (h : OB w base (.slice a n c) l) {k : Nat} (hk : k < l.length) : ∃ g, a = some ⟨g, 0, none⟩ ∧ n = l.length ∧ l.length ≤ c ∧ c ≤ 9223372036854775807 ∧ w.cell? ⟨g, k, none⟩ = some (.int .u8 (l.getD k 0)) ∧ w.frozen? ⟨g, k, none⟩ = false ∧ g < w.heap.size ∧ base ≤ g := by
  have hlt := h.lt
  have hsb := h.sb
  rcases h.2 with ⟨he, h0⟩ | ⟨g, cap, cur, he, k1, k2, k3, k4, k5, k6⟩
  · omega
  · simp only [Value.slice.injEq] at he
    obtain ⟨rfl, rfl, rfl⟩ := he
    unfold maxLen at k4
    refine ⟨g, rfl, rfl, k3, k4, ?_, by simp [World.frozen?, k2], (hlt g rfl).2, k1⟩
    obtain ⟨ao, cap', he, h1, h2, h3, h4⟩ := hsb
    simp only [Value.slice.injEq] at he
    have := h4 ⟨g, 0, none⟩ he.1.symm k hk
    rw [Addr.add_lit, Nat.zero_add] at this
    exact this

theorem OB.put15 {w : World} {base g n c k : Nat} {l : List Int} {x : Int} (h : OB w base (.slice (some ⟨g, 0, none⟩) n c) l) (hk : k < l.length) : OB (w.setCell ⟨g, k, none⟩ (.int .u8 x)) base (.slice (some ⟨g, 0, none⟩) n c) (l.set k x) := by
  obtain ⟨h1, h2⟩ := h
  rcases h2 with ⟨he, _⟩ | ⟨g', cap, cur, he, k1, k2, k3, k4, k5, k6⟩
  · cases he
  · simp only [Value.slice.injEq, Option.some.injEq, Addr.mk.injEq] at he
    obtain ⟨⟨rfl, -, -⟩, rfl, rfl⟩ := he
    refine ⟨by simp, .inr ⟨g, c, cur.setIfInBounds k (.int .u8 x), by simp, k1, ?_, by simpa using k3, k4, by simpa using k5, ?_⟩⟩
    · simp [World.setCell, Array.getElem?_modify, k2]
    · rw [Array.toList_setIfInBounds, List.length_set, List.take_set, k6, List.map_set]

/-- Two lists of one's own, apart. -/
structure Two15 (w : World) (base : Nat) (a b : Value) (n m : Nat) : Prop where
  la : ∃ A, A.length = n ∧ OB w base a A
  lb : ∃ B, B.length = m ∧ OB w base b B
  ne : ∀ k, a.ownBlock = some k → b.ownBlock ≠ some k

theorem fit_one : fit [(0, 9)] 5 = 0 := by decide
theorem fit_two : fit [(0, 1)] 5 = -1 := by decide

theorem one_sr {w : World} {g : Nat} {s : Int × Int} (h : w.heap[g]? = some (.cells (spc s) 24)) : SR 2 w (.slice (some ⟨g, 0, none⟩) 1 1) ([s].map spc) := by
  refine ⟨_, 1, rfl, Nat.le_refl _, by decide, fun _ => ⟨g, 0, rfl, (Array.getElem?_eq_some_iff.1 h).1, fun i hi j u hu => ?_⟩⟩
  have hi0 : i = 0 := by simpa using hi
  subst hi0
  have : (([s].map spc).getD 0 #[]) = spc s := rfl
  rw [this] at hu
  rw [Nat.zero_mul, Nat.add_zero, Nat.zero_add]
  exact boxC h j (by simpa using hu)

set_option maxHeartbeats 16000000 in
theorem again_any (vo vn : Value) (O N : List Int) (w : World) (ho : SB w vo O) (hn : SB w vn N) (hO : O.length ≤ 1048576) (hl : N.length ≤ 1048576) :
    Calls Try.prog 21 #[vo, vn] w fun e w' => e = .returned (.bool true) ∧ Below w.heap.size w w' := by
  have HO := hide ho
  have HN := hide hn
  have HC1 := hide (copied_any vo O w ho (by omega))
  have HC2 := hide (fun w1 (hb : Below w.heap.size w w1) => copied_any vn N w1 (hn.below hb) (by omega))
  obtain ⟨oa, oc, rfl, o1, o2, -⟩ := ho.open11
  clear ho hn
  go_enter Try.func21, Try.ntmps21
  go_wp2_with fail
  refine HC1.out.mono ?_
  rintro e w1 ⟨a1, c1, rfl, ho1, hb1⟩
  have HA1 := hide ho1
  have HB1 := hide hb1
  clear ho1 hb1 HC1
  go_wp2_with fail
  refine (HC2.out w1 HB1.out).mono ?_
  rintro e w2 ⟨a2, c2, rfl, ho2, hb2⟩
  have HA2 := hide ho2
  have HB2 := hide (HB1.out.trans (hb2.mono HB1.out.size))
  have HA1b := hide (HA1.out.below hb2 (Nat.le_refl _))
  have HT2 : Hid (Two15 w2 w.heap.size (.slice a1 O.length c1) (.slice a2 N.length c2) O.length N.length) := ⟨⟨O, rfl, HA1b.out⟩, ⟨N, rfl, HA2.out.base HB1.out.size⟩, fun k h1 h2 => by have q1 := (HA1.out.lt k h1).2; have q2 := (HA2.out.lt k h2).1; omega⟩
  clear ho2 hb2 HC2 HA1
  go_wp2_with fail
  refine (pDiff_any _ _ O N w2 HA1b.out.sb HA2.out.sb hl).mono ?_
  rintro e w3 ⟨v3, R3, rfl, -, -, hb3⟩
  have HT3 : Hid (Two15 w3 w.heap.size (.slice a1 O.length c1) (.slice a2 N.length c2) O.length N.length) := ⟨by obtain ⟨A, q1, q2⟩ := HT2.out.la; exact ⟨A, q1, q2.below hb3 (Nat.le_refl _)⟩, by obtain ⟨A, q1, q2⟩ := HT2.out.lb; exact ⟨A, q1, q2.below hb3 (Nat.le_refl _)⟩, HT2.out.ne⟩
  have HB3 := hide (HB2.out.trans (hb3.mono HB2.out.size))
  clear hb3 HT2 HA1b HA2
  go_wp2
  go_loopw [7] (fun i wr => ∃ (j : Nat), i = .int .i64 (j : Int) ∧ j ≤ O.length ∧ Hid (Two15 wr w.heap.size (.slice a1 O.length c1) (.slice a2 N.length c2) O.length N.length) ∧ Hid (Below w.heap.size w wr)) (fun i _ => O.length - (intOf i).toNat)
  case atStart => exact ⟨0, rfl, Nat.zero_le _, HT3.out, HB3.out⟩
  case round =>
    obtain ⟨j, rfl, hj, HT, HB⟩ := hrel
    by_cases hlt : j < O.length
    · have hlt' : (j : Int) < (O.length : Int) := by omega
      obtain ⟨A, hA, hob⟩ := HT.out.la
      obtain ⟨g, rfl, -, k3, k4, k5, k6, k7, k8⟩ := hob.at15 (k := j) (by omega)
      have HOB := hide hob
      have HAL := hide hA
      rw [hA] at k3
      obtain ⟨I, hI⟩ : ∃ I, I = O.length - 1 - j := ⟨_, rfl⟩
      have hI0 : I < O.length := by omega
      have hI1 : ((O.length : Int) - 1) - (j : Int) = (I : Int) := by omega
      obtain ⟨b, o, hoa, hc⟩ := HO.out.byte HB.out hI0
      subst hoa
      obtain ⟨x, hx⟩ : ∃ x, x = O.getD I 0 := ⟨_, rfl⟩
      rw [← hx] at hc
      have hI2 : (I : Int) < (O.length : Int) := by omega
      have hI3 : (0 : Int) ≤ (I : Int) := by omega
      have HT5 : Hid (Two15 (wr.setCell ⟨g, j, none⟩ (.int .u8 x)) w.heap.size (.slice (some ⟨g, 0, none⟩) O.length c1) (.slice a2 N.length c2) O.length N.length) := by
        refine ⟨⟨A.set j x, by rw [List.length_set]; exact HAL.out, HOB.out.put15 (by rw [HAL.out]; exact hlt)⟩, ?_, HT.out.ne⟩
        obtain ⟨B, q1, q2⟩ := HT.out.lb
        exact ⟨B, q1, q2.move fun k hk => Below.heap_setCell wr _ _ k (fun e => HT.out.ne g rfl (by have e' : k = g := e; rw [← e']; exact hk))⟩
      have HB5 : Hid (Below w.heap.size w (wr.setCell ⟨g, j, none⟩ (.int .u8 x))) := HB.out.setCell k8 _
      clear hA hob hx hI
      go_wp2
      go_roundw
      case rel => exact ⟨j + 1, by go_num, by omega, HT5.out, HB5.out⟩
      case measure => simp [intOf]; omega
    · have hlt' : ¬ (j : Int) < (O.length : Int) := by omega
      clear HT3 HB3
      go_wp2
      go_loopw [8] (fun i wr => ∃ (j : Nat), i = .int .i64 (j : Int) ∧ j ≤ N.length ∧ Hid (Two15 wr w.heap.size (.slice a1 O.length c1) (.slice a2 N.length c2) O.length N.length) ∧ Hid (Below w.heap.size w wr)) (fun i _ => N.length - (intOf i).toNat)
      case atStart => exact ⟨0, rfl, Nat.zero_le _, HT.out, HB.out⟩
      case round =>
        obtain ⟨j, rfl, hj, HT, HB⟩ := hrel
        by_cases hlt : j < N.length
        · have hlt' : (j : Int) < (N.length : Int) := by omega
          obtain ⟨A, hA, hob⟩ := HT.out.lb
          obtain ⟨g, rfl, -, k3, k4, k5, k6, k7, k8⟩ := hob.at15 (k := j) (by omega)
          have HOB := hide hob
          have HAL := hide hA
          rw [hA] at k3
          obtain ⟨x, hx⟩ : ∃ x, x = A.getD j 0 := ⟨_, rfl⟩
          rw [← hx] at k5
          have HT5 : Hid (∀ y : Int, Two15 (wr.setCell ⟨g, j, none⟩ (.int .u8 y)) w.heap.size (.slice a1 O.length c1) (.slice (some ⟨g, 0, none⟩) N.length c2) O.length N.length) := fun y => by
            refine ⟨?_, ⟨A.set j y, by rw [List.length_set]; exact HAL.out, HOB.out.put15 (by rw [HAL.out]; exact hlt)⟩, HT.out.ne⟩
            obtain ⟨B, q1, q2⟩ := HT.out.la
            exact ⟨B, q1, q2.move fun k hk => Below.heap_setCell wr _ _ k (fun e => HT.out.ne k hk (by have e' : k = g := e; rw [e']; rfl))⟩
          have HB5 : Hid (∀ y : Int, Below w.heap.size w (wr.setCell ⟨g, j, none⟩ (.int .u8 y))) := fun y => HB.out.setCell k8 _
          clear hA hob hx
          go_wp2
          go_roundw
          case rel => exact ⟨j + 1, by go_num, by omega, HT5.out _, HB5.out _⟩
          case measure => simp [intOf]; omega
        · have hlt' : ¬ (j : Int) < (N.length : Int) := by omega
          obtain ⟨A, hA, hoA⟩ := HT.out.la
          obtain ⟨B, hB, hoB⟩ := HT.out.lb
          have HPD := hide (pDiff_any _ _ A B wr hoA.sb hoB.sb (by omega))
          have HOA := hide hoA
          have HOB := hide hoB
          have hAl : A.length ≤ 1048576 := by omega
          have hBl : B.length ≤ 1048576 := by omega
          clear hA hB hoA hoB
          go_wp2_with fail
          refine HPD.out.mono ?_
          rintro e w4 ⟨v4, R4, rfl, hp4, how4, hb4⟩
          have HP4 := hide hp4
          have HW4 := hide how4.sw
          have HB4 := hide (HB.out.trans (hb4.mono HB.out.size))
          have HSA := hide (HOA.out.sb.below hb4)
          have HSB := hide (HOB.out.sb.below hb4)
          clear hp4 how4 hb4 HPD
          have HQ1 := hide (copied_any _ A w4 HSA.out (by omega))
          go_wp2_with fail
          refine HQ1.out.mono ?_
          rintro e w5 ⟨a5, c5, rfl, ho5, hb5⟩
          have HS5 := hide ho5.sb
          have HB45 := hide hb5
          have HSB5 := hide (HSB.out.below hb5)
          clear ho5 hb5 HQ1
          have HQ2 := hide (copied_any _ B w5 HSB5.out (by omega))
          go_wp2_with fail
          refine HQ2.out.mono ?_
          rintro e w6 ⟨a6, c6, rfl, ho6, hb6⟩
          have HS6 := hide ho6.sb
          have HS5b := hide (HS5.out.below hb6)
          have HB46 := hide (HB45.out.trans (hb6.mono HB45.out.size))
          clear ho6 hb6 HQ2 HS5
          have HQ3 := hide (pDiff_any _ _ A B w6 HS5b.out HS6.out hBl)
          go_wp2_with fail
          refine HQ3.out.mono ?_
          rintro e w7 ⟨v7, R7, rfl, hp7, how7, hb7⟩
          have HB47 := hide (HB46.out.trans (hb7.mono HB46.out.size))
          have HPE : Hid (prs R4 = prs R7) := HP4.out.trans hp7.symm
          have HW7 := hide how7.sw
          have HW47 := hide (HW4.out.low HB47.out)
          clear hp7 how7 hb7 HQ3
          go_wp2_with fail
          refine (sameWrites_any v4 v7 R4 R7 w7 HW47.out HW7.out HPE.out).mono ?_
          rintro e w8 ⟨rfl, n8, h8⟩
          have HB8 : Hid (Below w.heap.size w w8) := by rw [h8]; exact below_drewN (HB4.out.trans (HB47.out.mono HB4.out.size)) n8
          clear h8
          have hx8 := heap_alloc_new w8 (.cells (spc (0, 9)) 24)
          have HB9 : Hid (Below w.heap.size w (w8.alloc (.cells (spc (0, 9)) 24))) := HB8.out.alloc HB8.out.size _
          obtain ⟨w9, hw9⟩ : ∃ y, w8.alloc (.cells (spc (0, 9)) 24) = y := ⟨_, rfl⟩
          rw [hw9] at hx8 HB9
          have HX9 := hide hx8
          have hw9' : w8.alloc (.cells #[.int .i64 0, .int .i64 9] 24) = w9 := hw9
          clear hw9 hx8
          have HF1 := hide (pFit_any (.slice (some ⟨w8.heap.size, 0, none⟩) 1 1) [(0, 9)] 5 w9 (one_sr HX9.out) (fun s hs => by rw [List.mem_singleton.1 hs]; decide) (by decide))
          rw [fit_one] at HF1
          go_wp2_with fail
          refine HF1.out.mono ?_
          rintro e w10 ⟨rfl, hb10⟩
          have HX10 : Hid (w10.heap[w8.heap.size]? = some (.cells #[.int .i64 0, .int .i64 9] 24)) := (hb10.block _ (Array.getElem?_eq_some_iff.1 HX9.out).1).trans HX9.out
          have HB10 := hide (HB9.out.trans (hb10.mono HB9.out.size))
          clear hb10 HF1 hw9'
          have z0 : w10.cell? ⟨w8.heap.size, 0, none⟩ = some (.int .i64 0) := boxC HX10.out 0 rfl
          have z1 : w10.cell? ⟨w8.heap.size, 1, none⟩ = some (.int .i64 9) := boxC HX10.out 1 rfl
          have z2 : ∀ o, w10.frozen? ⟨w8.heap.size, o, none⟩ = false := fun o => by simp [World.frozen?, HX10.out]
          have HX11 : Hid (((w10.setCell ⟨w8.heap.size, 0, none⟩ (.int .i64 0)).setCell ⟨w8.heap.size, 1, none⟩ (.int .i64 1)).heap[w8.heap.size]? = some (.cells (spc (0, 1)) 24)) := by
            show _ = _
            simp [World.setCell, Array.getElem?_modify, HX10.out, spc]
          have HB11 : Hid (Below w.heap.size w ((w10.setCell ⟨w8.heap.size, 0, none⟩ (.int .i64 0)).setCell ⟨w8.heap.size, 1, none⟩ (.int .i64 1))) := (HB10.out.setCell HB8.out.size _).setCell HB8.out.size _
          have HF2 := hide (pFit_any (.slice (some ⟨w8.heap.size, 0, none⟩) 1 1) [(0, 1)] 5 _ (one_sr HX11.out) (fun s hs => by rw [List.mem_singleton.1 hs]; decide) (by decide))
          rw [fit_two] at HF2
          go_wp2_with fail
          refine HF2.out.mono ?_
          rintro e w12 ⟨rfl, hb12⟩
          have HB12 := hide (HB11.out.trans (hb12.mono HB11.out.size))
          clear hb12
          go_wp2
          go_ret
          exact ⟨rfl, HB12.out⟩
end Go.Proofs.Ytlidmhdcikcpkaa

