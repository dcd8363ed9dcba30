import Derived.Test.YtlidmhdcikcpkaaGDfc
namespace Go.Proofs.Ytlidmhdcikcpkaa
open Go.RowKit Go.Maps
set_option maxRecDepth 20000
set_option linter.unusedVariables false
set_option linter.unusedSimpArgs false

theorem SB.part15 {w : World} {b o c : Nat} {l : List Int} (h : SB w (.slice (some ⟨b, o, none⟩) l.length c) l) {s e : Nat} (h1 : s ≤ e) (h2 : e ≤ l.length) : SB w (.slice (some ⟨b, o + s, none⟩) (e - s) (c - s)) ((l.drop s).take (e - s)) := by
  have hr := h.rest11 (n := s) (by omega)
  have hr2 : SB w (.slice (some ⟨b, o + s, none⟩) (l.drop s).length (c - s)) (l.drop s) := by rw [List.length_drop]; exact hr
  exact hr2.first11 (n := e - s) (by rw [List.length_drop]; omega)

def we15 (N : List Int) (s : Sp) (dv : Value) : We := ⟨(s.1 : Int), dv, (N.drop s.1).take (s.2 - s.1)⟩
theorem wrs_app (N : List Int) (S T : List Sp) : wrs N (S ++ T) = wrs N S ++ wrs N T := by simp [wrs]

set_option maxHeartbeats 8000000 in
theorem pDiff_any (vo vn : Value) (O N : List Int) (w : World) (ho : SB w vo O) (hn : SB w vn N) (hl : N.length ≤ 1048576) :
    Calls Try.prog 13 #[vo, vn] w fun e w' => ∃ v R, e = .returned v ∧ prs R = wrs N (chS O N N.length) ∧ OW w' w.heap.size v R ∧ Below w.heap.size w w' := by
  have HN := hide hn
  have HCH := hide (changed_any vo vn O N w ho hn hl)
  have HIN := hide (ch_in (O := O) (N := N) (k := N.length))
  have hsl := ch_len O N N.length
  obtain ⟨S, hS⟩ : ∃ S, S = chS O N N.length := ⟨_, rfl⟩
  rw [← hS] at HCH HIN hsl ⊢
  clear hS
  obtain ⟨oa, oc, rfl, o1, o2, -⟩ := ho.open11
  obtain ⟨na, nc, rfl, n1, n2, -⟩ := hn.open11
  clear ho hn
  go_enter Try.func13, Try.ntmps13
  go_wp2_with fail
  refine HCH.out.mono ?_
  rintro e w1 ⟨sa, sc, rfl, hor, hb1⟩
  have HS := hide hor.sr
  obtain ⟨q9, p9, he9, s1, s2⟩ := hor.shape
  rw [List.length_map] at he9 s1
  simp only [Value.slice.injEq] at he9
  obtain ⟨-, -, rfl⟩ := he9
  have HB1 := hide hb1
  clear hor hb1 HCH
  go_wp2
  go_loopw [5, 7, 12] (fun t _ i wr => ∃ (j : Nat) (R' : List We) (ta : Option Addr) (tc : Nat), t = .slice ta j tc ∧ i = .int .i64 (j : Int) ∧ j ≤ S.length ∧ Hid (R'.length = j ∧ prs R' = wrs N (S.take j)) ∧ Hid (OW wr w1.heap.size (.slice ta j tc) R') ∧ Hid (Below w1.heap.size w1 wr)) (fun _ _ i _ => S.length - (intOf i).toNat)
  case atStart => exact ⟨0, [], none, 0, rfl, rfl, Nat.zero_le _, ⟨rfl, rfl⟩, ⟨OR.nil _ _ _ _, fun e he => by simp at he⟩, Below.refl _ _⟩
  case round =>
    obtain ⟨j, R', ta, tc, rfl, rfl, hj, HR, HO, HB⟩ := hrel
    by_cases hlt : j < S.length
    · have hlt' : (j : Int) < (S.length : Int) := by omega
      obtain ⟨b0, o0, hla, hbl, hrg⟩ := (HS.out.low HB.out).row (i := j) (by rw [List.length_map]; exact hlt)
      have hin := HIN.out (S.getD j (0, 0)) (by simp [List.getD, hlt])
      have HTK := hide (take_get (0, 0) hlt)
      rw [spn_get hlt] at hrg
      obtain ⟨s, hs⟩ : ∃ s, s = S.getD j (0, 0) := ⟨_, rfl⟩
      rw [← hs] at hrg hin HTK
      obtain ⟨f0, t0⟩ := s
      have g0 := hrg 0 (.int .i64 (f0 : Int)) rfl
      have g1 := hrg 1 (.int .i64 (t0 : Int)) rfl
      rw [Nat.add_zero] at g0
      simp only at hin
      subst hla
      obtain ⟨nb, no, hna⟩ : ∃ nb no, na = some ⟨nb, no, none⟩ := by
        obtain ⟨b9, o9, h9, _⟩ := HN.out.byte (Below.refl _ _) (k := f0) (by omega)
        exact ⟨b9, o9, h9⟩
      subst hna
      have HPT := hide ((HN.out.below (HB1.out.trans (HB.out.mono HB1.out.size))).part15 (s := f0) (e := t0) (by omega) hin.2)
      have hz := HB.out.size
      obtain ⟨l0, hl0⟩ : ∃ l0, l0 = (N.drop f0).take (t0 - f0) := ⟨_, rfl⟩
      have HL0 := hide hl0
      have HLN : Hid (l0.length = t0 - f0) := by show _ = _; rw [hl0]; exact prt_len (s := (f0, t0)) (by simp only; omega) hin.2
      rw [← hl0] at HPT
      clear hl0
      have HBa : Hid (Below w1.heap.size w1 (wr.alloc (.cells #[.int .i64 (f0 : Int), .int .i64 (t0 : Int)] 24))) := HB.out.alloc HB.out.size _
      have HBr : Hid (Below wr.heap.size wr (wr.alloc (.cells #[.int .i64 (f0 : Int), .int .i64 (t0 : Int)] 24))) := (Below.refl _ _).alloc (Nat.le_refl _) _
      obtain ⟨w2, hw2⟩ : ∃ y, wr.alloc (.cells #[.int .i64 (f0 : Int), .int .i64 (t0 : Int)] 24) = y := ⟨_, rfl⟩
      have hbx : w2.heap[wr.heap.size]? = some (.cells #[.int .i64 (f0 : Int), .int .i64 (t0 : Int)] 24) := by rw [← hw2]; exact heap_alloc_new _ _
      have hz2 : w2.heap.size = wr.heap.size + 1 := by rw [← hw2]; exact size_alloc' _ _
      rw [hw2] at HBa HBr
      have HQ : Hid (w2.cell? ⟨wr.heap.size, 0, none⟩ = some (.int .i64 (f0 : Int)) ∧ w2.cell? ⟨wr.heap.size, 1, none⟩ = some (.int .i64 (t0 : Int))) := ⟨boxC hbx 0 rfl, boxC hbx 1 rfl⟩
      have HZ2 := hide hz2
      have HO2 : Hid (OW w2 w1.heap.size (.slice ta j tc) R') := ⟨HO.out.1.below HBr.out (Nat.le_refl _), fun e he => ⟨(HO.out.2 e he).1.below HBr.out (Nat.le_refl _), (HO.out.2 e he).2⟩⟩
      have HFar : Hid ((Value.slice ta j tc).ownBlock ≠ some wr.heap.size) := fun e => by have := (HO.out.1.lt _ e).2; omega
      have HCPd : Hid (Calls Try.prog 25 #[.slice (some ⟨nb, no + f0, none⟩) (t0 - f0) (nc - f0)] w2.drew fun e w' => ∃ a c, e = .returned (.slice a (t0 - f0) c) ∧ OB w' w2.heap.size (.slice a (t0 - f0) c) l0 ∧ Below w2.heap.size w2 w') := by
        have h1 := slicesClone_any _ l0 w2.drew ((HPT.out.below HBr.out).below (Below.refl _ _).drew) (by have := HLN.out; omega)
        rw [HLN.out] at h1
        exact h1.mono (fun e w' ⟨a, c, q1, q2, q3⟩ => ⟨a, c, q1, q2, (Below.refl _ _).drew.trans q3⟩)
      have i1 : (f0 : Int) ≤ (t0 : Int) := by omega
      have i2 : (t0 : Int) ≤ (nc : Int) := by omega
      have i3 : (0 : Int) ≤ (f0 : Int) := by omega
      have i4 : f0 < nc := by omega
      have i5 : f0 ≤ t0 := by omega
      have i6 : t0 ≤ nc := by omega
      have i7 : ¬ nc = f0 := by omega
      clear hs hrg hbx hz2 hz HPT
      go_wp2_with fail
      go_region_held3 (fun W => W.cell? ⟨wr.heap.size, 0, none⟩ = some (.int .i64 (f0 : Int)) ∧ W.cell? ⟨wr.heap.size, 1, none⟩ = some (.int .i64 (t0 : Int))) (first | exact HQ.out | exact HC2.out | exact HC2a.out | exact HC3.out)
        (first
          | (go_at_call 25; refine HCPd.out.mono ?_; rintro e w3 ⟨a5, c5, rfl, ho3, hb3⟩; have HO3 := hide ho3; have HB3 := hide hb3; have HL3 : Hid (wr.heap.size < w3.heap.size) := (by show _ < _; have := HB3.out.size; have := HZ2.out; omega); have HC2 := hide (And.intro ((HB3.out.cell (show (⟨wr.heap.size, 0, none⟩ : Addr).block < _ by show wr.heap.size < _; have := HZ2.out; omega)).trans HQ.out.1) ((HB3.out.cell (show (⟨wr.heap.size, 1, none⟩ : Addr).block < _ by show wr.heap.size < _; have := HZ2.out; omega)).trans HQ.out.2)); have HB3a := hide (HB3.out.alloc HB3.out.size (.cells #[.int .i64 (f0 : Int), .slice a5 (t0 - f0) c5] 41)); have HC2a := hide (And.intro ((HB3a.out.cell (show (⟨wr.heap.size, 0, none⟩ : Addr).block < _ by show wr.heap.size < _; have := HZ2.out; omega)).trans HQ.out.1) ((HB3a.out.cell (show (⟨wr.heap.size, 1, none⟩ : Addr).block < _ by show wr.heap.size < _; have := HZ2.out; omega)).trans HQ.out.2)); have HOR3 := hide ((HO2.out.1.below HB3.out (Nat.le_refl _)).alloc (.cells #[.int .i64 (f0 : Int), .slice a5 (t0 - f0) c5] 41)); clear ho3 hb3)
          | (refine stepRow (by rfl) _ _ 36 41 2 32 _ (by rfl) Try.underlying36 infoW rfl (by omega) w1.heap.size (.slice ta j tc) (R'.map We.cs) #[.int .i64 (f0 : Int), .slice a5 (t0 - f0) c5] w3.heap.size 1 (0, 0) (by simp [Act.eval, Act.put]) HOR3.out (by simp [Act.eval, Act.put]) (heap_alloc_new _ _) rfl (by simp [Value.oneCell']) (by rw [List.length_map, HR.out.1]; omega) (by rw [List.length_map, HR.out.1]; omega) (by rw [size_alloc']; have h1 := HBa.out.size; have h2 := HB3.out.size; omega) ?_; intro v4 w4 ho4 hg4 hat4; have HC3 := hide (far_two hg4 HL3.out HFar.out HC2a.out); have HO4 := hide ho4; have HG4 := hide hg4; have HA4 := hide hat4; clear ho4 hg4 hat4))
      have HOW := hide (ow_step HO2.out HB3.out HO3.out HO4.out HG4.out HA4.out HBa.out.size)
      have HB4 : Hid (Below w1.heap.size w1 w4) := ((HBa.out.trans (HB3.out.mono HBa.out.size)).alloc (Nat.le_trans HBa.out.size HB3.out.size) _).grown HG4.out (by rw [size_alloc']; have := HBa.out.size; have := HB3.out.size; omega) (fun k hk => by have := (HO.out.1.lt k hk).1; omega)
      have HSH := hide HO4.out.shape
      clear HO4 HG4 HA4 HOR3 HC2 HC2a HC3 HCPd
      obtain ⟨a3, c3, hv3, q1, q2⟩ := HSH.out
      rw [List.length_append, List.length_map, HR.out.1, List.length_singleton] at hv3
      subst hv3
      clear HSH
      go_wp2
      go_roundw
      case rel =>
        refine ⟨j + 1, R' ++ [(⟨(f0 : Int), .slice a5 (t0 - f0) c5, l0⟩ : We)], a3, c3, rfl, by go_num, by omega, ⟨by rw [List.length_append, HR.out.1]; rfl, ?_⟩, HOW.out, HB4.out⟩
        rw [HTK.out, wrs_app, ← HR.out.2, HL0.out]
        simp [prs, wrs, prt]
      case measure => simp [intOf]; omega
    · have hje : j = S.length := by omega
      subst hje
      have HB5 := hide (HB1.out.trans (HB.out.mono HB1.out.size))
      have HO5 : Hid (OW wr w.heap.size (.slice ta S.length tc) R') := ⟨HO.out.1.base HB1.out.size, fun e he => ⟨(HO.out.2 e he).1.base HB1.out.size, (HO.out.2 e he).2⟩⟩
      go_wp2
      go_ret
      have hn := HR.out
      rw [List.take_length] at hn
      exact ⟨_, R', rfl, hn.2, HO5.out, HB5.out⟩
end Go.Proofs.Ytlidmhdcikcpkaa

