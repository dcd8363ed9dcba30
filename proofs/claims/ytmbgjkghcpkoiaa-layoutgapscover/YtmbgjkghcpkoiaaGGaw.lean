import Derived.Test.YtmbgjkghcpkoiaaGGpn
import Derived.Test.YtmbgjkghcpkoiaaGExl
namespace Go.Proofs.Ytmbgjkghcpkoiaa
open Go.RowKit Go.Maps
set_option maxRecDepth 20000
set_option linter.unusedVariables false
set_option linter.unusedSimpArgs false

theorem fst_eS (R : List Ent) : (R.map eS).map Prod.fst = R.map Ent.frm := by rw [List.map_map]; rfl
theorem gpW_len (d : Int) (X : List (Int × Int)) : ∀ k, k ≤ X.length → (gpW d (X.take k)).1.length ≤ k
  | 0, _ => by simp [gpW]
  | k + 1, h => by
    have ih := gpW_len d X k (by omega)
    rw [gpW_take (by omega)]
    unfold gp1
    split
    · omega
    · simp only
      split
      · rw [List.length_append]; simp; omega
      · omega

set_option maxHeartbeats 8000000 in
theorem gaps_any (v : Value) (R : List Ent) (d s : Int) (cm : ByteArray) (w : World) (h : SR 20 w v (R.map Ent.cs)) (ho : ∀ e ∈ R, Ok64 e.frm ∧ Ok64 e.til) (hd : Ok64 d) (hn : R.length ≤ 733007751829) :
    Calls Try.prog 11 #[.agg #[v, .int .i64 d, .int .i64 s, .string cm]] w fun e w' => ∃ a c, e = .returned (.slice a (gps d (R.map eS)).length c) ∧ OR 39 2 w' w.heap.size (.slice a (gps d (R.map eS)).length c) ((gps d (R.map eS)).map spC) ∧ Below w.heap.size w w' := by
  have HL := hide h
  obtain ⟨ca, ccap, rfl, c1, c2⟩ := h.open
  rw [List.length_map] at c1
  have elc : (R.map Ent.cs).length = R.length := List.length_map ..
  rw [elc] at HL ⊢
  clear h elc ho
  have hb1 : Below w.heap.size w (w.alloc (.cells #[.slice ca R.length ccap, .int .i64 d, .int .i64 s, .string cm] 24)) := (Below.refl _ _).alloc (Nat.le_refl _) _
  have hx1 : (w.alloc (.cells #[.slice ca R.length ccap, .int .i64 d, .int .i64 s, .string cm] 24)).heap[w.heap.size]? = some (.cells #[.slice ca R.length ccap, .int .i64 d, .int .i64 s, .string cm] 24) := heap_alloc_new _ _
  obtain ⟨w1, hw1⟩ : ∃ y, w.alloc (.cells #[.slice ca R.length ccap, .int .i64 d, .int .i64 s, .string cm] 24) = y := ⟨_, rfl⟩
  rw [hw1] at hb1 hx1
  have HX1 := hide hx1
  have HSZ1 : Hid (w.heap.size < w1.heap.size) := (Array.getElem?_eq_some_iff.1 hx1).1
  have q0 : w1.cell? ⟨w.heap.size, 0, none⟩ = some (.slice ca R.length ccap) := by simp [World.cell?, hx1]
  have q1 : w1.cell? ⟨w.heap.size, 1, none⟩ = some (.int .i64 d) := by simp [World.cell?, hx1]
  have q2 : w1.cell? ⟨w.heap.size, 2, none⟩ = some (.int .i64 s) := by simp [World.cell?, hx1]
  have q3 : w1.cell? ⟨w.heap.size, 3, none⟩ = some (.string cm) := by simp [World.cell?, hx1]
  have HD : Hid (∀ W, Below w1.heap.size w1 W → W.cell? ⟨w.heap.size, 1, none⟩ = some (.int .i64 d)) := fun W hW => by
    have e := (hW.block _ HSZ1.out).trans HX1.out
    simp [World.cell?, e]
  have HB1 := hide hb1
  have hE := extents_any (.slice ca R.length ccap) R d s cm w1 (HL.out.low hb1) hn
  clear hb1 hx1
  rw [← fst_eS] at hE
  have hXl : (srtS ((R.map eS).map Prod.fst) (R.map eS)).length = R.length := by rw [srtS_len, List.length_map, List.length_map]
  have HGP : Hid (gps d (R.map eS) = gpE d (gpW d (srtS ((R.map eS).map Prod.fst) (R.map eS)))) := rfl
  obtain ⟨X, hX⟩ : ∃ X, X = srtS ((R.map eS).map Prod.fst) (R.map eS) := ⟨_, rfl⟩
  rw [← hX] at hE HGP hXl
  have HXL := hide hXl
  have HE : Hid (Calls Try.prog 7 #[.agg #[.slice ca R.length ccap, .int .i64 d, .int .i64 s, .string cm]] w1 fun e w' => ∃ a c, e = .returned (.slice a X.length c) ∧ OR 39 2 w' w1.heap.size (.slice a X.length c) (X.map spC) ∧ Below w1.heap.size w1 w') := hE.mono fun e w' ⟨a, c, h1, h2, h3⟩ => ⟨a, c, by rw [HXL.out]; exact h1, by rw [HXL.out]; exact h2, h3⟩
  clear hE
  have hXn : X.length ≤ 733007751829 := by omega
  obtain ⟨GG, hGG⟩ : ∃ GG, GG = gps d (R.map eS) := ⟨_, rfl⟩
  rw [← hGG] at HGP ⊢
  clear hX hXl hGG
  go_enter Try.func11, Try.ntmps11
  go_wp2_with fail
  refine HE.out.mono ?_
  rintro e w2 ⟨xa, xc, rfl, hox, hb2⟩
  have HXS := hide hox.sr
  obtain ⟨q9, p9, he9, s1, s2⟩ := hox.shape
  rw [List.length_map] at he9 s1
  simp only [Value.slice.injEq] at he9
  obtain ⟨-, -, rfl⟩ := he9
  have HB2 := hide hb2
  clear hox hb2 HE q0 q1 q2 q3
  go_wp2
  go_loopw [3, 4, 6, 7, 11] (fun t at' _ _ i wr => ∃ (j m : Nat) (A : Int) (ta : Option Addr) (tc : Nat) (G : List (Int × Int)) (P : List (Array Value)), t = .slice ta m tc ∧ at' = .int .i64 A ∧ i = .int .i64 (j : Int) ∧ j ≤ X.length ∧ m ≤ j ∧ Hid (gpW d (X.take j) = (G, A) ∧ G.length = m ∧ P = G.map spC) ∧ Hid (OR 39 2 wr w2.heap.size (.slice ta m tc) P) ∧ Hid (Below w2.heap.size w2 wr)) (fun _ _ _ _ i _ => X.length - (intOf i).toNat)
  case atStart => exact ⟨0, 0, 0, none, 0, [], [], rfl, rfl, rfl, Nat.zero_le _, Nat.zero_le _, ⟨rfl, rfl, rfl⟩, OR.nil _ _ _ _, Below.refl _ _⟩
  case round =>
    obtain ⟨j, m, A, ta, tc, G, P, rfl, rfl, rfl, hj, hm, HG, HO, HB⟩ := hrel
    have HPL : Hid (P.length = m) := by show _ = _; rw [HG.out.2.2, List.length_map]; exact HG.out.2.1
    have hb12 := HB2.out.trans (HB.out.mono HB2.out.size)
    by_cases hlt : j < X.length
    · have hlt' : (j : Int) < (X.length : Int) := by omega
      obtain ⟨b0, o0, hla, hbl, hrg⟩ := srLt (HXS.out.low HB.out) (i := j) (by rw [List.length_map]; exact hlt)
      have HST := hide (gpW_take (d := d) hlt)
      rw [spC_get hlt] at hrg
      obtain ⟨e, he⟩ : ∃ e, e = X.getD j (0, 0) := ⟨_, rfl⟩
      rw [← he] at hrg HST
      rw [HG.out.1] at HST
      obtain ⟨F, T⟩ := e
      have g0 := range_cell hrg (i := 0) (u := .int .i64 F) rfl
      have g1 := range_cell hrg (i := 1) (u := .int .i64 T) rfl
      rw [Nat.add_zero] at g0
      subst hla
      have HBa : Hid (Below w2.heap.size w2 (wr.alloc (.cells #[.int .i64 F, .int .i64 T] 39))) := HB.out.alloc HB.out.size _
      have HOa := hide (HO.out.alloc (.cells #[.int .i64 F, .int .i64 T] 39))
      obtain ⟨w3, hw3⟩ : ∃ y, wr.alloc (.cells #[.int .i64 F, .int .i64 T] 39) = y := ⟨_, rfl⟩
      have hbx : w3.heap[wr.heap.size]? = some (.cells #[.int .i64 F, .int .i64 T] 39) := by rw [← hw3]; exact heap_alloc_new _ _
      have hz3 : w3.heap.size = wr.heap.size + 1 := by rw [← hw3]; exact size_alloc' _ _
      rw [hw3] at HBa HOa
      have k0 : w3.cell? ⟨wr.heap.size, 0, none⟩ = some (.int .i64 F) := by simp [World.cell?, hbx]
      have k1 : w3.cell? ⟨wr.heap.size, 1, none⟩ = some (.int .i64 T) := by simp [World.cell?, hbx]
      have qd : w3.cell? ⟨w.heap.size, 1, none⟩ = some (.int .i64 d) := HD.out w3 (HB2.out.trans (HBa.out.mono HB2.out.size))
      have HXB := hide hbx
      have HZ3 := hide hz3
      clear he hrg hbx hb12 hz3
      by_cases hem : T ≤ F
      · have HS2 : Hid (gpW d (X.take (j + 1)) = (G, A)) := by show _ = _; rw [HST.out]; exact if_pos hem
        go_wp2
        go_roundw
        case rel => exact ⟨j + 1, m, A, ta, tc, G, P, rfl, rfl, by go_num, by omega, by omega, ⟨HS2.out, HG.out.2⟩, HOa.out, HBa.out⟩
        case measure => simp [intOf]; omega
      · have HS2 : Hid (gpW d (X.take (j + 1)) = (if A < min F d then G ++ [(A, min F d)] else G, max A T)) := by show _ = _; rw [HST.out]; exact if_neg hem
        obtain ⟨t, ht⟩ : ∃ t, t = min F d := ⟨_, rfl⟩
        obtain ⟨u, hu⟩ : ∃ u, u = max A T := ⟨_, rfl⟩
        rw [← ht, ← hu] at HS2
        have htc : (F < d ∧ ¬ d < F ∧ F = t) ∨ (¬ F < d ∧ d < F ∧ d = t) ∨ (d = F ∧ F = t) := by omega
        have huc : (A < T ∧ ¬ T < A ∧ T = u) ∨ (¬ A < T ∧ A = u) := by omega
        clear ht hu
        by_cases hat : A < t
        · have HS3 : Hid (gpW d (X.take (j + 1)) = (G ++ [(A, t)], u)) := by show _ = _; rw [HS2.out, if_pos hat]
          clear HS2 HST
          have HO3 := hide (HOa.out.alloc (.cells #[.int .i64 A, .int .i64 t] 39))
          have HP4 : Hid ((G ++ [(A, t)]).length = m + 1 ∧ P ++ [#[Value.int .i64 A, Value.int .i64 t]] = (G ++ [(A, t)]).map spC) := ⟨by rw [List.length_append, HG.out.2.1]; rfl, by rw [List.map_append, ← HG.out.2.2]; rfl⟩
          rcases htc with ⟨t1, t2, rfl⟩ | ⟨t1, t2, rfl⟩ | ⟨rfl, rfl⟩ <;> rcases huc with ⟨u1, u2, rfl⟩ | ⟨u1, rfl⟩
          · go_wp2_with (at_builtin; refine wpRow rfl _ _ 33 39 2 16 _ rfl Try.underlying33 infoS rfl (by omega) w2.heap.size (.slice ta m tc) P #[.int .i64 A, .int .i64 F] w3.heap.size 1 (0, 0) rfl HO3.out rfl (heap_alloc_new _ _) rfl (by simp [Value.oneCell']) (by rw [HPL.out]; omega) (by rw [HPL.out]; omega) (by rw [size_alloc']; have := HBa.out.size; omega) ?_)
            intro v4 w4 ho4 hg4 hat4
            have HB4 : Hid (Below w2.heap.size w2 w4) := (HBa.out.alloc HBa.out.size _).grown hg4 (by rw [size_alloc']; have := HBa.out.size; omega) (fun k hk => (HOa.out.lt k hk).1)
            obtain ⟨a4, c4, hv4, z1, z2⟩ := ho4.shape
            rw [List.length_append, HPL.out, List.length_singleton] at hv4
            subst hv4
            have k4 : w4.cell? ⟨wr.heap.size, 1, none⟩ = some (.int .i64 T) := by
              have e1 : w4.heap[wr.heap.size]? = w3.heap[wr.heap.size]? := (hg4.block _ (by rw [size_alloc']; have := HZ3.out; omega) (fun e => by have := (HO.out.lt _ e.symm).2; omega)).trans (Below.heap_alloc _ _ _ (by have := HZ3.out; omega))
              simp [World.cell?, e1, HXB.out]
            have HO4 := hide ho4
            clear ho4 hg4 hat4 z1 z2
            go_wp2
            go_roundw
            case rel => exact ⟨j + 1, m + 1, _, a4, c4, _, _, rfl, rfl, by go_num, by omega, by omega, ⟨HS3.out, HP4.out⟩, HO4.out, HB4.out⟩
            case measure => simp [intOf]; omega
          · exfalso; omega
          · go_wp2_with (at_builtin; refine wpRow rfl _ _ 33 39 2 16 _ rfl Try.underlying33 infoS rfl (by omega) w2.heap.size (.slice ta m tc) P #[.int .i64 A, .int .i64 d] w3.heap.size 1 (0, 0) rfl HO3.out rfl (heap_alloc_new _ _) rfl (by simp [Value.oneCell']) (by rw [HPL.out]; omega) (by rw [HPL.out]; omega) (by rw [size_alloc']; have := HBa.out.size; omega) ?_)
            intro v4 w4 ho4 hg4 hat4
            have HB4 : Hid (Below w2.heap.size w2 w4) := (HBa.out.alloc HBa.out.size _).grown hg4 (by rw [size_alloc']; have := HBa.out.size; omega) (fun k hk => (HOa.out.lt k hk).1)
            obtain ⟨a4, c4, hv4, z1, z2⟩ := ho4.shape
            rw [List.length_append, HPL.out, List.length_singleton] at hv4
            subst hv4
            have k4 : w4.cell? ⟨wr.heap.size, 1, none⟩ = some (.int .i64 T) := by
              have e1 : w4.heap[wr.heap.size]? = w3.heap[wr.heap.size]? := (hg4.block _ (by rw [size_alloc']; have := HZ3.out; omega) (fun e => by have := (HO.out.lt _ e.symm).2; omega)).trans (Below.heap_alloc _ _ _ (by have := HZ3.out; omega))
              simp [World.cell?, e1, HXB.out]
            have HO4 := hide ho4
            clear ho4 hg4 hat4 z1 z2
            go_wp2
            go_roundw
            case rel => exact ⟨j + 1, m + 1, _, a4, c4, _, _, rfl, rfl, by go_num, by omega, by omega, ⟨HS3.out, HP4.out⟩, HO4.out, HB4.out⟩
            case measure => simp [intOf]; omega
          · exfalso; omega
          · go_wp2_with (at_builtin; refine wpRow rfl _ _ 33 39 2 16 _ rfl Try.underlying33 infoS rfl (by omega) w2.heap.size (.slice ta m tc) P #[.int .i64 A, .int .i64 d] w3.heap.size 1 (0, 0) rfl HO3.out rfl (heap_alloc_new _ _) rfl (by simp [Value.oneCell']) (by rw [HPL.out]; omega) (by rw [HPL.out]; omega) (by rw [size_alloc']; have := HBa.out.size; omega) ?_)
            intro v4 w4 ho4 hg4 hat4
            have HB4 : Hid (Below w2.heap.size w2 w4) := (HBa.out.alloc HBa.out.size _).grown hg4 (by rw [size_alloc']; have := HBa.out.size; omega) (fun k hk => (HOa.out.lt k hk).1)
            obtain ⟨a4, c4, hv4, z1, z2⟩ := ho4.shape
            rw [List.length_append, HPL.out, List.length_singleton] at hv4
            subst hv4
            have k4 : w4.cell? ⟨wr.heap.size, 1, none⟩ = some (.int .i64 T) := by
              have e1 : w4.heap[wr.heap.size]? = w3.heap[wr.heap.size]? := (hg4.block _ (by rw [size_alloc']; have := HZ3.out; omega) (fun e => by have := (HO.out.lt _ e.symm).2; omega)).trans (Below.heap_alloc _ _ _ (by have := HZ3.out; omega))
              simp [World.cell?, e1, HXB.out]
            have HO4 := hide ho4
            clear ho4 hg4 hat4 z1 z2
            go_wp2
            go_roundw
            case rel => exact ⟨j + 1, m + 1, _, a4, c4, _, _, rfl, rfl, by go_num, by omega, by omega, ⟨HS3.out, HP4.out⟩, HO4.out, HB4.out⟩
            case measure => simp [intOf]; omega
          · exfalso; omega
        · have HS3 : Hid (gpW d (X.take (j + 1)) = (G, u)) := by show _ = _; rw [HS2.out, if_neg hat]
          clear HS2 HST
          rcases htc with ⟨t1, t2, rfl⟩ | ⟨t1, t2, rfl⟩ | ⟨rfl, rfl⟩ <;> rcases huc with ⟨u1, u2, rfl⟩ | ⟨u1, rfl⟩
          all_goals
            go_wp2
            go_roundw
            case rel => exact ⟨j + 1, m, _, ta, tc, G, P, rfl, rfl, by go_num, by omega, by omega, ⟨HS3.out, HG.out.2⟩, HOa.out, HBa.out⟩
            case measure => simp [intOf]; omega
    · have hlt' : ¬ (j : Int) < (X.length : Int) := by omega
      obtain rfl : j = X.length := by omega
      have qd : wr.cell? ⟨w.heap.size, 1, none⟩ = some (.int .i64 d) := HD.out wr hb12
      have HF : Hid (gpW d X = (G, A)) := by have := HG.out.1; rwa [List.take_of_length_le (Nat.le_refl _)] at this
      have HBz := hide (HB1.out.trans (hb12.mono HB1.out.size))
      have hz12 := Nat.le_trans HB1.out.size HB2.out.size
      by_cases hat : A < d
      · have HR : Hid (GG = G ++ [(A, d)]) := by show _ = _; rw [HGP.out, HF.out]; exact if_pos hat
        have HO3 := hide (HO.out.alloc (.cells #[.int .i64 A, .int .i64 d] 39))
        clear hb12
        go_wp2_with (at_builtin; refine wpRow rfl _ _ 33 39 2 16 _ rfl Try.underlying33 infoS rfl (by omega) w2.heap.size (.slice ta m tc) P #[.int .i64 A, .int .i64 d] wr.heap.size 1 (0, 0) rfl HO3.out rfl (heap_alloc_new _ _) rfl (by simp [Value.oneCell']) (by rw [HPL.out]; omega) (by rw [HPL.out]; omega) (by rw [size_alloc']; have := HB.out.size; omega) ?_)
        intro v4 w4 ho4 hg4 hat4
        have HB4 : Hid (Below w2.heap.size w2 w4) := (HB.out.alloc HB.out.size _).grown hg4 (by rw [size_alloc']; have := HB.out.size; omega) (fun k hk => (HO.out.lt k hk).1)
        obtain ⟨a4, c4, hv4, z1, z2⟩ := ho4.shape
        rw [List.length_append, HPL.out, List.length_singleton] at hv4
        subst hv4
        have HO4 : Hid (OR 39 2 w4 w.heap.size (.slice a4 (m + 1) c4) (GG.map spC)) := by
          show OR _ _ _ _ _ _
          rw [HR.out, List.map_append, ← HG.out.2.2]
          exact ho4.base hz12
        have HGL : Hid (GG.length = m + 1) := by show _ = _; rw [HR.out, List.length_append, HG.out.2.1]; rfl
        have HB5 := hide (HB1.out.trans ((HB2.out.trans (HB4.out.mono HB2.out.size)).mono HB1.out.size))
        clear ho4 hg4 hat4 z1 z2
        go_wp2
        go_ret
        rw [HGL.out]
        exact ⟨a4, c4, rfl, HO4.out, HB5.out⟩
      · have HR : Hid (GG = G) := by show _ = _; rw [HGP.out, HF.out]; exact if_neg hat
        have HO4 : Hid (OR 39 2 wr w.heap.size (.slice ta m tc) (GG.map spC)) := by
          show OR _ _ _ _ _ _
          rw [HR.out, ← HG.out.2.2]
          exact HO.out.base hz12
        have HGL : Hid (GG.length = m) := by show _ = _; rw [HR.out]; exact HG.out.2.1
        go_wp2
        go_ret
        rw [HGL.out]
        exact ⟨ta, tc, rfl, HO4.out, HBz.out⟩
end Go.Proofs.Ytmbgjkghcpkoiaa

