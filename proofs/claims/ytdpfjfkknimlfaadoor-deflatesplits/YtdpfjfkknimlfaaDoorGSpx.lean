import Derived.Test.YtdpfjfkknimlfaaDoorGSpw
namespace Go.Proofs.YtdpfjfkknimlfaaDoor
open Go.RowKit Go.Maps Go.Shelf
attribute [local go_sem] Oper.semAt_some
set_option maxRecDepth 20000
set_option linter.unusedVariables false

set_option maxHeartbeats 4000000 in
theorem split_less (b o cap : Nat) (R : List Tk) (w : World) (h : SK w (.slice (some ⟨b, o, none⟩) R.length cap) R) (hs : ∀ t ∈ R, Snd t ∧ Bt t) (hn : R.length ≤ 16777216) (hq : R.length < 128) (hq4 : ¬ cap = R.length) :
    Calls Tryd.prog 10 #[.slice (some ⟨b, o, none⟩) R.length cap] w fun e w' => ∃ u rows, e = .returned u ∧ rows.map (fun f => f 0) = (spl R).map (fun n : Nat => (n : Int)) ∧ OS w' w.heap.size u rows ∧ Below w.heap.size w w' := by
  have HS := hide h
  have HSN := hide hs
  obtain ⟨ao', cap', he, hlc, hcm, -, -⟩ := h
  simp only [Value.slice.injEq] at he
  obtain ⟨-, -, rfl⟩ := he
  unfold maxLen at hcm
  obtain ⟨N, hN⟩ : ∃ N, R.length = N := ⟨_, rfl⟩
  have HN := hide hN
  rw [hN] at HS hlc hn hq hq4 ⊢
  have hq1 : (N : Int) < 128 := by omega
  have hq2 : ¬ (128 : Int) ≤ (N : Int) := by omega
  have hq3 : ¬ 128 ≤ N := by omega
  obtain ⟨wa, hwa⟩ : ∃ wa, w.alloc (.cells #[.slice none 0 0] 36) = wa := ⟨_, rfl⟩
  have hsa : wa.heap.size = w.heap.size + 1 := by rw [← hwa]; simp
  have HBa : Hid (Below w.heap.size w wa) := by rw [← hwa]; exact (Below.refl _ _).alloc (Nat.le_refl _) _
  have HGa : Hid (wa.heap[w.heap.size]? = some (.cells #[.slice none 0 0] 36 (0, 0))) := by show _ = _; rw [← hwa]; exact heap_alloc_new w _
  have HSV := hide (survey_any (.slice (some ⟨b, o, none⟩) N cap) R wa (HS.out.below HBa.out) HSN.out (by rw [HN.out]; exact hn))
  clear hs hN
  refine (callsIn_wide (n := 3)).1 ?_
  refine callsIn_of_wp_marks Tryd.func10 rfl trivial ?_ rfl
  simp only [Tryd.ntmps10, List.size_toArray, List.length_cons, List.length_nil, Nat.reduceAdd, Nat.reduceSub, Array.replicate_succ, Array.replicate_zero, List.push_toArray, List.append_toArray, List.nil_append, List.cons_append]
  gi_wp2_with fail
  refine ⟨trivial, (callsIn_wide.2 HSV.out).mono ?_⟩
  rintro e w1 ⟨rfl, b1⟩
  have hs1 := b1.size
  have HB1 := hide (HBa.out.trans (b1.mono (by omega)))
  have HG1 := hide ((b1.block _ (by omega)).trans HGa.out)
  obtain ⟨w2, hw2⟩ : ∃ w2, (w1.alloc (.cells #[.int .i64 0, .int .i64 0, .int .i64 0, .int .i64 0, .int .i64 0, .int .i64 0, .int .i64 0, .int .i64 0, .int .i64 0, .int .i64 0] 40)).setRow w1.heap.size (a10 (sf R)) = w2 := ⟨_, rfl⟩
  obtain ⟨n1, b2, hs2⟩ := newS w1 #[.int .i64 0, .int .i64 0, .int .i64 0, .int .i64 0, .int .i64 0, .int .i64 0, .int .i64 0, .int .i64 0, .int .i64 0, .int .i64 0] (sf R)
  rw [hw2] at n1 b2 hs2
  have HL2 := hide n1
  have HG2 := hide ((b2.block _ (by omega)).trans HG1.out)
  have HB2 := hide (HB1.out.trans (b2.mono (by omega)))
  clear b1 b2 n1 HSV HBa HGa HG1 HB1 hwa
  gi_wp2_with (refine wpListIn_stO w1.heap.size (sf R) _ rfl rfl (heap_alloc_new w1 _) rfl ?_)
  refine ⟨trivial, (callsIn_wide.2 (chunk_any _ _ _ _)).mono ?_⟩
  rintro e w3 ⟨rfl, hw3⟩
  obtain ⟨B1, hB1⟩ : ∃ g, w2.heap.size = g := ⟨_, rfl⟩
  obtain ⟨gL, hgL⟩ : ∃ g, w1.heap.size = g := ⟨_, rfl⟩
  have hs3 : w3.heap.size = B1 + 2 := by rw [hw3, ← hB1]; simp
  have b3 : Below w2.heap.size w2 w3 := by rw [hw3]; exact ((Below.refl _ _).alloc (Nat.le_refl _) _).alloc (by simp) _
  have HX1 : Hid (w3.heap[B1]? = some (.cells #[.slice (some ⟨b, o + N * 3, none⟩) 0 (cap - N)] 22 (0, 0))) := by show _ = _; rw [hw3, ← hB1]; exact (heap_two w2 _ _).2
  have HX2 : Hid (w3.heap[B1 + 1]? = some (.cells #[.int .i64 128] 3 (0, 0))) := by show _ = _; rw [hw3, ← hB1]; exact (heap_two w2 _ _).1
  have HG3 := hide ((b3.block _ (by omega)).trans HG2.out)
  have HL3 := hide ((b3.block _ (by omega)).trans HL2.out)
  have HB3 := hide (HB2.out.trans (b3.mono (by omega)))
  rw [hgL] at HL3
  obtain ⟨gB, hgB⟩ : ∃ g, w.heap.size = g := ⟨_, rfl⟩
  have hGB : gB < gL ∧ gL < B1 := by omega
  have HGB := hide hgB
  have HS3 := hide (fun (W : World) (hW : ∀ k, k < gB → W.heap[k]? = w3.heap[k]?) => HS.out.keep (w' := W) fun k hk => (hW k (by omega)).trans (HB3.out.block k hk))
  rw [hgB] at HG3
  rw [hB1, hgL, hgB]
  have HST := hide (spI_start (R := R) (wb := w3) (gB := gB) (gL := gL) HG3.out (by rw [HN.out, show min 128 N = N by omega, show seg R 0 N = R by unfold seg; rw [List.drop_zero, List.take_of_length_le (by rw [HN.out]; omega)]]; exact HL3.out))
  obtain ⟨d, hd⟩ : ∃ d, w3.heap.size = d := ⟨_, rfl⟩
  have HD := hide hd
  have hdB : d = B1 + 2 := by omega
  clear hw3 b3 HG2 HL2 HB2 hs1 hs2 hs3 hw2 hsa hgB hgL hB1 hd
  gi_wp2_with fail
  refine wp_chunk b o (0) ((cap - N)) B1 (B1 + 1) (some ⟨b, o + N * 3, none⟩) rfl rfl (by omega) (by omega) (fun h => absurd h (by omega)) (SpI R w3 w3.heap.size gB gL) (spI_rec (by rw [HD.out]; omega) (by rw [HD.out]; omega)) ?hT ?hdr HST.out ?act ?assign ?body ?done
  case hT =>
    rintro k o' W ⟨_, rows, _, hJ⟩
    have hd' := HD.out
    exact ⟨cellIn1 ((hJ.blk B1 (by omega) (by omega) (by omega)).trans HX1.out) rfl, cellIn1 ((hJ.blk (B1 + 1) (by omega) (by omega) (by omega)).trans HX2.out) rfl⟩
  case hdr =>
    rintro k o' W n ⟨e1, rows, e2, hJ⟩
    exact ⟨e1, rows, e2, hJ.drewN n⟩
  case assign =>
    intro x W K hK
    gi_wp2
    exact hK
  case body =>
    intro k o' W hk
    omega
  case done =>
    rintro k o' W hk ⟨hk2, rows, hrw, hJ⟩
    have hd' := HD.out
    have hk0 : k = 0 := by have h2 := hk2; rw [HN.out] at h2; omega
    subst hk0
    have HKK : Hid (spK R = 0) := by show _ = _; unfold spK; rw [HN.out]; omega
    rw [HN.out, show min (128 * (0 + 1)) N = N by omega] at hJ
    have hfr : (spF R 0).2 ≤ N := Nat.zero_le _
    have HRW : Hid ((rows ++ [sf (seg R (spF R 0).2 N)]).map (fun f => f 0) = (spl R).map (fun n : Nat => (n : Int))) := by
      show _ = _
      unfold spl
      rw [HKK.out, List.map_append, hrw, List.map_append]
      have e : sf (seg R (spF R 0).2 N) 0 = ((N - (spF R 0).2 : Nat) : Int) := by show (((seg R (spF R 0).2 N).length : Nat) : Int) = _; rw [seg_len hfr (by rw [HN.out]; exact Nat.le_refl _)]
      rw [HN.out]
      simp [e]
    have HRL : Hid (rows.length ≤ 1000000000) := by
      have h1 : rows.length = (spF R 0).1.length := by have := congrArg List.length hrw; simpa using this
      have h2 := splLen1 R 0
      show _ ≤ _
      omega
    obtain ⟨L, hL⟩ : ∃ L, seg R (spF R 0).2 N = L := ⟨_, rfl⟩
    rw [hL] at HRW hJ
    obtain ⟨tv, e1, e2⟩ := hJ.var
    have hV1 : W.cell? ⟨gB, 0, none⟩ = some tv := cellIn1 e1 rfl
    have HV := hide (And.intro e1 e2)
    obtain ⟨ta, tc, htv, _⟩ := e2.shape
    subst htv
    have HJ := hide hJ
    have HL := hide hJ.lst
    have hsz := hJ.size
    clear e1 e2 hJ hrw hk2 hL hfr
    gi_wp2_with (first | ((with_reducible refine wpListIn_ldS gL _ ?hx HL.out ?_); case hx => rfl) | ((with_reducible refine wpListIn_bsS (sf L) ?hx ?_); case hx => rfl) | (gi_at_builtin; refine wpStrIn rfl _ _ rfl (w3.heap.size + 2) (.slice ta rows.length tc) rows (sf L) rfl HV.out.2 _ rfl HRL.out (by omega) ?_))
    intro v9 w9 ho9 hg9 hat9
    rw [show B1 + 2 + 2 = w3.heap.size + 2 by omega] at ho9
    have hb9 : Below W.heap.size W (W.alloc (.cells (a10 (sf L)) 40)) := (Below.refl _ _).alloc (Nat.le_refl _) _
    have l1 := hg9.size
    have lb := hb9.size
    have f9 : ∀ j, j < W.heap.size → (Value.slice ta rows.length tc).ownBlock ≠ some j → w9.heap[j]? = W.heap[j]? := fun j hj hne => (hg9.block j (by omega) (fun e => hne e.symm)).trans (hb9.block j hj)
    have hlow : ∀ j, j < w3.heap.size + 2 → w9.heap[j]? = W.heap[j]? := fun j hj => f9 j (by omega) (fun e => by have := (HV.out.2.lt j e).1; omega)
    have hD9 : w9.heap[w3.heap.size]? = some (.deferred (some [])) := (hlow _ (by omega)).trans HJ.out.dfr
    have hgw := HGB.out
    have HF : Hid (OS (w9.putObj w3.heap.size (.deferred none)) w.heap.size v9 (rows ++ [sf L]) ∧ Below w.heap.size w (w9.putObj w3.heap.size (.deferred none))) := by
      refine ⟨(ho9.move (w' := w9.putObj w3.heap.size (.deferred none)) fun j hj => pObj_ne _ _ (by have := (ho9.lt j hj).1; omega)).base (by omega), ?_⟩
      refine ⟨(hg9.os.trans (hb9.os.trans HJ.out.os)).trans HB3.out.os, (hg9.tape.trans (hb9.tape.trans HJ.out.tape)).trans HB3.out.tape, (hg9.output.trans (hb9.output.trans HJ.out.output)).trans HB3.out.output, by rw [pObj_size]; have := HB3.out.size; omega, fun j hj => ?_⟩
      rw [pObj_ne _ _ (by omega), hlow j (by omega), HJ.out.blk j (by omega) (by omega) (by omega)]
      exact HB3.out.block j hj
    obtain ⟨a9, c9, hv9, _⟩ := ho9.shape
    rw [List.length_append, List.length_singleton] at hv9
    subst hv9
    rw [show w3.heap.size = B1 + 2 by omega] at hD9 HF
    clear ho9 hg9 hat9 hb9 l1 lb f9 hlow hV1 hd' hdB
    gi_wp2
    refine ⟨by simp, .inl ⟨_, _, rfl, run_takeDeferred hD9, ?_⟩⟩
    exact ⟨_, results_tmp rfl _ _ _, .slice a9 (rows.length + 1) c9, rows ++ [sf L], rfl, HRW.out, HF.out.1, HF.out.2⟩
end Go.Proofs.YtdpfjfkknimlfaaDoor

