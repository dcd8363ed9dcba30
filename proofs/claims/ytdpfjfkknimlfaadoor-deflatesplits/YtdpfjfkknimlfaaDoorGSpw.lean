import Derived.Test.YtdpfjfkknimlfaaDoorGSpr
import Derived.Test.YtdpfjfkknimlfaaDoorGChw
namespace Go.Proofs.YtdpfjfkknimlfaaDoor
open Go.RowKit Go.Maps Go.Shelf
attribute [local go_sem] Oper.semAt_some
set_option maxRecDepth 20000
set_option linter.unusedVariables false

theorem sf_few {A : List Tk} (hs : ∀ t ∈ A, Snd t) (hn : A.length ≤ 16777216) : Few (sf A) ∧ Fwt (sf A) := by
  have h1 := sayS_le A hs
  constructor
  · intro i
    unfold sf
    split
    · omega
    · split
      · omega
      · have := kn_in A (i - 2); omega
  · intro i hi
    unfold sf
    split
    · omega
    · first
        | (rw [if_neg hi]; have := kn_in A (i - 2); omega)
        | (have := kn_in A (i - 2); omega)

theorem sf_join (A B : List Tk) : a10 (fun i => sf A i + sf B i) = a10 (sf (A ++ B)) := by
  refine a10_congr fun i _ => ?_
  unfold sf
  split
  · simp
  · split
    · rw [sayS_app]
    · rw [kn_app]

theorem aps_apt (B U : List Tk) (hU : U.length = 128) (k : Nat) : aps (sf B) (sf U) k = apt B U k := by
  unfold aps apt
  congr 1
  refine List.map_congr_left fun i _ => ?_
  have e1 : sf U 0 = 128 := by unfold sf; rw [if_pos rfl, hU]; rfl
  have e2 : sf B 0 = (B.length : Int) := rfl
  have e3 : ∀ A : List Tk, sf A (2 + i) = kn A i := fun A => by unfold sf; rw [if_neg (by omega), if_neg (by omega), show 2 + i - 2 = i by omega]
  rw [e1, e2, e3, e3]

theorem clf_clo (B U : List Tk) (hB : B.length ≤ 8192) : clf (sf B) (sf U) = clo B U := by
  unfold clf clo
  have e1 : decide (sf B 0 = 8192) = decide (8192 ≤ B.length) := by
    have : sf B 0 = (B.length : Int) := rfl
    rw [this]
    by_cases h : 8192 ≤ B.length
    · rw [decide_eq_true h, decide_eq_true (by omega)]
    · rw [decide_eq_false h, decide_eq_false (by omega)]
  have e2 : sf B 1 + sf U 1 = sayS B + sayS U := rfl
  have e3 : (decide (sf U 0 = 128) && decide (sf U 0 * sf B 0 ≤ 2 * aps (sf B) (sf U) 8)) = (decide (U.length = 128) && decide (128 * (B.length : Int) ≤ 2 * apt B U 8)) := by
    have a1 : sf U 0 = (U.length : Int) := rfl
    have a2 : sf B 0 = (B.length : Int) := rfl
    by_cases h : U.length = 128
    · rw [decide_eq_true h, decide_eq_true (by rw [a1]; omega), aps_apt B U h, a1, a2, h]
      rfl
    · rw [decide_eq_false h, decide_eq_false (by rw [a1]; omega)]
      rfl
  rw [e1, e2, e3]

theorem SK.at {w : World} {b o cap N : Nat} {R : List Tk} (h : SK w (.slice (some ⟨b, o, none⟩) N cap) R) (f n c : Nat) (hf : f + n ≤ R.length) (hn : n ≤ c) (hc : c ≤ maxLen) : SK w (.slice (some ⟨b, o + f * 3, none⟩) n c) ((R.drop f).take n) := by
  obtain ⟨ao', cap', he, h1, h2, h3, h4⟩ := h
  simp only [Value.slice.injEq] at he
  obtain ⟨rfl, -, rfl⟩ := he
  have hl : ((R.drop f).take n).length = n := by simp; omega
  refine ⟨_, c, by rw [hl], by omega, hc, (fun e => by cases e), fun x hx i hi => ?_⟩
  cases hx
  have hi' : i < n := by omega
  have e : ((R.drop f).take n).getD i tk0 = R.getD (f + i) tk0 := by simp [hi', List.getD]
  have hh := h4 _ rfl (f + i) (by omega)
  rw [Addr.add_lit, Addr.add_lit, Addr.add_lit] at hh ⊢
  rw [e]
  rw [show o + f * 3 + i * 3 = o + (f + i) * 3 by omega, show o + f * 3 + (i * 3 + 1) = o + ((f + i) * 3 + 1) by omega, show o + f * 3 + (i * 3 + 2) = o + ((f + i) * 3 + 2) by omega]
  exact hh

theorem SK.keep {w w' : World} {v : Value} {R : List Tk} (h : SK w v R) (hb : ∀ k, k < w.heap.size → w'.heap[k]? = w.heap[k]?) : SK w' v R := by
  obtain ⟨ao, cap, rfl, h1, h2, h3, h4⟩ := h
  refine ⟨ao, cap, rfl, h1, h2, h3, fun x hx i hi => ?_⟩
  obtain ⟨c1, c2, c3⟩ := h4 x hx i hi
  have mv : ∀ (p : Addr) (u : Value), w.cell? p = some u → w'.cell? p = some u := fun p u hp => (World.cell?_of_block (w := w) (hb p.block (World.block_lt_of_cell? w _ hp))).trans hp
  exact ⟨mv _ _ c1, mv _ _ c2, mv _ _ c3⟩

theorem splLen1 (R : List Tk) (k : Nat) : (spF R k).1.length ≤ k := by
  induction k with
  | zero => simp [spF]
  | succ k ih =>
    unfold spF
    split
    · simp; exact ih
    · omega

/-- Ahead of the unit k. -/
def SpI (R : List Tk) (wb : World) (d gB gL k : Nat) (o : Obj) (W : World) : Prop :=
  (128 * k < R.length ∨ k = 0) ∧ ∃ rows, rows.map (fun f => f 0) = (spF R k).1.map (fun n : Nat => (n : Int)) ∧ SpJ wb d gB gL rows (sf (seg R (spF R k).2 (min (128 * (k + 1)) R.length))) o W

theorem spI_rec {R : List Tk} {wb : World} {d gB gL : Nat} (h1 : gB < d) (h2 : gL < d) (k : Nat) : H4.Rec (d + 1) (SpI R wb d gB gL k) :=
  ⟨fun o W h => by obtain ⟨_, rows, _, h⟩ := h; exact h.lp, fun o o' W h => by obtain ⟨q, rows, e, h⟩ := h; exact ⟨q, rows, e, h.put h1 h2 o'⟩⟩

theorem spI_start {R : List Tk} {wb : World} {gB gL : Nat} (hgB : wb.heap[gB]? = some (.cells #[.slice none 0 0] 36 (0, 0))) (hgL : wb.heap[gL]? = some (.cells (a10 (sf (seg R 0 (min 128 R.length)))) 40 (0, 0))) (o : Obj) : SpI R wb wb.heap.size gB gL 0 o ((wb.alloc (.deferred (some []))).alloc o) := by
  have h1 := lt_of_block hgB
  have h2 := lt_of_block hgL
  have hlt : ∀ k, k < wb.heap.size → ((wb.alloc (.deferred (some []))).alloc o).heap[k]? = wb.heap[k]? := fun k hk => by rw [Below.heap_alloc _ _ _ (by simp; omega), Below.heap_alloc _ _ _ hk]
  exact ⟨.inr rfl, [], rfl, ⟨(heap_two wb _ o).2, (heap_two wb _ o).1, rfl, rfl, rfl, by simp, fun k hk _ _ => hlt k hk, (hlt _ h2).trans hgL, _, (hlt _ h1).trans hgB, OS.nil _ _⟩⟩

set_option maxHeartbeats 4000000 in
theorem split_long (b o cap : Nat) (R : List Tk) (w : World) (h : SK w (.slice (some ⟨b, o, none⟩) R.length cap) R) (hs : ∀ t ∈ R, Snd t ∧ Bt t) (hn : R.length ≤ 16777216) (hq : 128 ≤ R.length) (hq4 : ¬ cap = 128) :
    Calls Tryd.prog 10 #[.slice (some ⟨b, o, none⟩) R.length cap] w fun e w' => ∃ u rows, e = .returned u ∧ rows.map (fun f => f 0) = (spl R).map (fun n : Nat => (n : Int)) ∧ OS w' w.heap.size u rows ∧ Below w.heap.size w w' := by
  have HS := hide h
  have HSN := hide hs
  obtain ⟨ao', cap', he, hlc, hcm, -, -⟩ := h
  simp only [Value.slice.injEq] at he
  obtain ⟨-, -, rfl⟩ := he
  unfold maxLen at hcm
  have HSI := hide (fun k hk => spi_all R (fun t ht => (hs t ht).1) (by omega) k hk)
  obtain ⟨N, hN⟩ : ∃ N, R.length = N := ⟨_, rfl⟩
  have HN := hide hN
  rw [hN] at HS hlc hn hq ⊢
  have hq1 : (128 : Int) ≤ (N : Int) := by omega
  have hq2 : ¬ (N : Int) < 128 := by omega
  have hq3 : ¬ N < 128 := by omega
  obtain ⟨wa, hwa⟩ : ∃ wa, w.alloc (.cells #[.slice none 0 0] 36) = wa := ⟨_, rfl⟩
  have hsa : wa.heap.size = w.heap.size + 1 := by rw [← hwa]; simp
  have HBa : Hid (Below w.heap.size w wa) := by rw [← hwa]; exact (Below.refl _ _).alloc (Nat.le_refl _) _
  have HGa : Hid (wa.heap[w.heap.size]? = some (.cells #[.slice none 0 0] 36 (0, 0))) := by show _ = _; rw [← hwa]; exact heap_alloc_new w _
  have HSV := hide (survey_any (.slice (some ⟨b, o + 0 * 3, none⟩) 128 cap) ((R.drop 0).take 128) wa ((HS.out.below HBa.out).at 0 128 cap (by rw [HN.out]; omega) (by omega) (by unfold maxLen; omega)) (fun t ht => HSN.out t (List.mem_of_mem_drop (List.mem_of_mem_take ht))) (by simp; omega))
  have e0 : o + 0 * 3 = o := by omega
  rw [e0, List.drop_zero] at HSV
  clear hs hN e0
  refine (callsIn_wide (n := 3)).1 ?_
  refine callsIn_of_wp_marks Tryd.func10 rfl trivial ?_ rfl
  simp only [Tryd.ntmps10, List.size_toArray, List.length_cons, List.length_nil, Nat.reduceAdd, Nat.reduceSub, Array.replicate_succ, Array.replicate_zero, List.push_toArray, List.append_toArray, List.nil_append, List.cons_append]
  gi_wp2_with fail
  refine ⟨trivial, (callsIn_wide.2 HSV.out).mono ?_⟩
  rintro e w1 ⟨rfl, b1⟩
  have hs1 := b1.size
  have HB1 := hide (HBa.out.trans (b1.mono (by omega)))
  have HG1 := hide ((b1.block _ (by omega)).trans HGa.out)
  obtain ⟨w2, hw2⟩ : ∃ w2, (w1.alloc (.cells #[.int .i64 0, .int .i64 0, .int .i64 0, .int .i64 0, .int .i64 0, .int .i64 0, .int .i64 0, .int .i64 0, .int .i64 0, .int .i64 0] 40)).setRow w1.heap.size (a10 (sf (R.take 128))) = w2 := ⟨_, rfl⟩
  obtain ⟨n1, b2, hs2⟩ := newS w1 #[.int .i64 0, .int .i64 0, .int .i64 0, .int .i64 0, .int .i64 0, .int .i64 0, .int .i64 0, .int .i64 0, .int .i64 0, .int .i64 0] (sf (R.take 128))
  rw [hw2] at n1 b2 hs2
  have HL2 := hide n1
  have HG2 := hide ((b2.block _ (by omega)).trans HG1.out)
  have HB2 := hide (HB1.out.trans (b2.mono (by omega)))
  clear b1 b2 n1 HSV HBa HGa HG1 HB1 hwa
  gi_wp2_with (refine wpListIn_stO w1.heap.size (sf (R.take 128)) _ rfl rfl (heap_alloc_new w1 _) rfl ?_)
  refine ⟨trivial, (callsIn_wide.2 (chunk_any _ _ _ _)).mono ?_⟩
  rintro e w3 ⟨rfl, hw3⟩
  obtain ⟨B1, hB1⟩ : ∃ g, w2.heap.size = g := ⟨_, rfl⟩
  obtain ⟨gL, hgL⟩ : ∃ g, w1.heap.size = g := ⟨_, rfl⟩
  have hs3 : w3.heap.size = B1 + 2 := by rw [hw3, ← hB1]; simp
  have b3 : Below w2.heap.size w2 w3 := by rw [hw3]; exact ((Below.refl _ _).alloc (Nat.le_refl _) _).alloc (by simp) _
  have HX1 : Hid (w3.heap[B1]? = some (.cells #[.slice (some ⟨b, o + 384, none⟩) (N - 128) (cap - 128)] 22 (0, 0))) := by show _ = _; rw [hw3, ← hB1]; exact (heap_two w2 _ _).2
  have HX2 : Hid (w3.heap[B1 + 1]? = some (.cells #[.int .i64 128] 3 (0, 0))) := by show _ = _; rw [hw3, ← hB1]; exact (heap_two w2 _ _).1
  have HG3 := hide ((b3.block _ (by omega)).trans HG2.out)
  have HL3 := hide ((b3.block _ (by omega)).trans HL2.out)
  have HB3 := hide (HB2.out.trans (b3.mono (by omega)))
  rw [hgL] at HL3
  obtain ⟨gB, hgB⟩ : ∃ g, w.heap.size = g := ⟨_, rfl⟩
  have hGB : gB < gL ∧ gL < B1 := by omega
  have HGB := hide hgB
  have HS3 := hide (fun (W : World) (hW : ∀ k, k < gB → W.heap[k]? = w3.heap[k]?) => HS.out.keep (w' := W) fun k hk => (hW k (by omega)).trans (HB3.out.block k hk))
  rw [hgB] at HG3
  rw [hB1, hgL, hgB]
  have HST := hide (spI_start (R := R) (wb := w3) (gB := gB) (gL := gL) HG3.out (by rw [HN.out, show min 128 N = 128 by omega]; exact HL3.out))
  obtain ⟨d, hd⟩ : ∃ d, w3.heap.size = d := ⟨_, rfl⟩
  have HD := hide hd
  have hdB : d = B1 + 2 := by omega
  clear hw3 b3 HG2 HL2 HB2 hs1 hs2 hs3 hw2 hsa hgB hgL hB1 hd
  gi_wp2_with fail
  refine wp_chunk b (o + 384) (N - 128) (cap - 128) B1 (B1 + 1) _ rfl rfl (by omega) (by omega) (fun _ => rfl) (SpI R w3 w3.heap.size gB gL) (spI_rec (by rw [HD.out]; omega) (by rw [HD.out]; omega)) ?hT ?hdr HST.out ?act ?assign ?body ?done
  case hT =>
    rintro k o' W ⟨_, rows, _, hJ⟩
    have hd' := HD.out
    exact ⟨cellIn1 ((hJ.blk B1 (by omega) (by omega) (by omega)).trans HX1.out) rfl, cellIn1 ((hJ.blk (B1 + 1) (by omega) (by omega) (by omega)).trans HX2.out) rfl⟩
  case hdr =>
    rintro k o' W n ⟨e1, rows, e2, hJ⟩
    exact ⟨e1, rows, e2, hJ.drewN n⟩
  case assign =>
    intro x W K hK
    gi_wp2
    exact hK
  case body =>
    rintro k o' W hk ⟨_, rows, hrw, hJ⟩
    have hd' := HD.out
    obtain ⟨m, hm⟩ : ∃ m, 128 * (k + 1) = m := ⟨_, rfl⟩
    obtain ⟨n, hnn⟩ : ∃ n, min 128 (N - 128 - 128 * k) = n := ⟨_, rfl⟩
    have HSP := hide (HSI.out k (by rw [HN.out]; omega))
    have HFS : Hid (spF R (k + 1) = if clo (seg R (spF R k).2 m) (seg R m (m + n)) then ((spF R k).1 ++ [m - (spF R k).2], m) else spF R k) := by
      show _ = _
      rw [show m + n = min (128 * (k + 1) + 128) R.length by rw [HN.out]; omega, ← hm]
      rfl
    rw [HN.out, hm, show min m N = m by omega] at hJ
    obtain ⟨fr, hfr⟩ : ∃ f, (spF R k).2 = f := ⟨_, rfl⟩
    obtain ⟨ll, hll⟩ : ∃ f, (spF R k).1 = f := ⟨_, rfl⟩
    have hfr1 : fr ≤ 128 * k ∧ m - fr ≤ 8192 := by
      have h1 := HSP.out.le
      have h2 := HSP.out.few
      rw [hfr] at h1
      rw [hfr, HN.out, hm] at h2
      omega
    have HP : Hid (spF R k = (ll, fr)) := by show _ = _; rw [← hfr, ← hll]
    rw [hfr, hll] at HFS
    rw [hfr] at hJ
    rw [hll] at hrw
    rw [HP.out] at HFS
    have HRW := hide hrw
    have hlk : ll.length ≤ k := by rw [← hll]; exact splLen1 R k
    have hBl : (seg R fr m).length = m - fr := seg_len (by omega) (by rw [HN.out]; omega)
    have hUl : (seg R m (m + n)).length = n := by rw [seg_len (by omega) (by rw [HN.out]; omega)]; omega
    have HBU := hide (seg_app (R := R) (f := fr) (a := m) (b := m + n) (by omega) (by omega))
    have HFB := hide (sf_few (A := seg R fr m) (fun t ht => (HSN.out t (seg_mem ht)).1) (by omega))
    have HFU := hide (sf_few (A := seg R m (m + n)) (fun t ht => (HSN.out t (seg_mem ht)).1) (by omega))
    have HCC := hide (clf_clo (seg R fr m) (seg R m (m + n)) (by omega))
    have HSU : Hid (SK W (.slice (some ⟨b, o + m * 3, none⟩) n n) (seg R m (m + n))) := by
      have := (HS3.out W fun j hj => hJ.blk j (by omega) (by omega) (by omega)).at m n n (by rw [HN.out]; omega) (Nat.le_refl _) (by unfold maxLen; omega)
      unfold seg
      rw [show m + n - m = n by omega]
      exact this
    have HSV := hide (survey_any _ _ W HSU.out (fun t ht => HSN.out t (seg_mem ht)) (by omega))
    have HUT : Hid (unt b (o + 384) (N - 128) k = .slice (some ⟨b, o + m * 3, none⟩) n n) := by
      show _ = _
      unfold unt
      rw [hnn, show o + 384 + 128 * k * 3 = o + m * 3 by omega]
    rw [HUT.out]
    obtain ⟨B, hB⟩ : ∃ B, seg R fr m = B := ⟨_, rfl⟩
    obtain ⟨U, hU⟩ : ∃ U, seg R m (m + n) = U := ⟨_, rfl⟩
    rw [hB] at hJ hBl HBU HFB HCC HFS
    rw [hU] at hUl HBU HFU HCC HSV HFS
    have HJ := hide hJ
    have HUU := hide hU
    have HNX : Hid (128 * (k + 1) < R.length ∧ min (128 * (k + 1 + 1)) R.length = m + n) := by
      show _ ∧ _
      rw [HN.out]
      omega
    have hsW := hJ.size
    obtain ⟨tv, e1W, e2W⟩ := hJ.var
    have HVW := hide (And.intro e1W e2W)
    clear e1W e2W
    clear hJ HSU HUT hB hU hrw HSP hfr hll HP hlc
    gi_wp2_with fail
    refine ⟨trivial, (CallsIn.inRound _ (callsIn_wide.2 HSV.out)).mono ?_⟩
    rintro e w4 ⟨rfl, b4⟩
    have hs4 := b4.size
    have HJ4 := hide (HJ.out.low (by omega) (by omega) b4)
    have HBW4 := hide b4
    obtain ⟨w5, hw5⟩ : ∃ w2, (w4.alloc (.cells #[.int .i64 0, .int .i64 0, .int .i64 0, .int .i64 0, .int .i64 0, .int .i64 0, .int .i64 0, .int .i64 0, .int .i64 0, .int .i64 0] 40)).setRow w4.heap.size (a10 (sf U)) = w2 := ⟨_, rfl⟩
    obtain ⟨n5, b5, hs5⟩ := newS w4 #[.int .i64 0, .int .i64 0, .int .i64 0, .int .i64 0, .int .i64 0, .int .i64 0, .int .i64 0, .int .i64 0, .int .i64 0, .int .i64 0] (sf U)
    rw [hw5] at n5 b5 hs5
    have HN5 := hide n5
    have HBW5 := hide (HBW4.out.trans (b5.mono (by omega)))
    have HJ5 := hide (HJ4.out.low (by omega) (by omega) b5)
    have HL5 := hide HJ5.out.lst
    have HL6 := HL5
    have HN6 := HN5
    rw [← hw5] at HL6 HN6
    have HCL := hide (closed_any (sf B) (sf U) w5 HFB.out.1 HFU.out.1 HFB.out.2 HFU.out.2)
    rw [HCC.out] at HCL
    clear b4 n5 b5 HSV HJ HJ4
    gi_wp2_with (first | (refine wpListIn_stQ w4.heap.size (sf U) _ rfl rfl (heap_alloc_new w4 _) rfl ?_) | ((with_reducible refine wpListIn_ldR gL _ ?hx HL5.out ?_); case hx => rfl) | ((with_reducible refine wpListIn_ldR w4.heap.size _ ?hx HN5.out ?_); case hx => rfl) | ((with_reducible refine wpListIn_ldR gL _ ?hx HL6.out ?_); case hx => rfl) | ((with_reducible refine wpListIn_ldR w4.heap.size _ ?hx HN6.out ?_); case hx => rfl))
    refine ⟨trivial, (CallsIn.inRound _ (callsIn_wide.2 HCL.out)).mono ?_⟩
    rintro e w6 ⟨rfl, b6⟩
    have hs6 := b6.size
    have HBW6 := hide (HBW5.out.trans (b6.mono (by omega)))
    have HJ6 := hide (HJ5.out.low (by omega) (by omega) b6)
    have HN7 := hide ((b6.block _ (by omega)).trans HN5.out)
    have HL7 := hide HJ6.out.lst
    have hsz6 := HJ6.out.size
    clear b6 HCL HJ5 HN5 HL5 HL6 HN6 hw5
    by_cases hcl : clo B U = true
    · rw [if_pos hcl] at HFS
      rw [hcl]
      have e1 : w6.heap[gB]? = some (.cells #[tv] 36 (0, 0)) := (HBW6.out.block gB (by omega)).trans HVW.out.1
      have e2 : OS w6 (w3.heap.size + 2) tv rows := HVW.out.2.move fun j hj => HBW6.out.block j (HVW.out.2.lt j hj).2
      have HTB := hide (fun j hj => (HVW.out.2.lt j hj).2)
      have hV1 : w6.cell? ⟨gB, 0, none⟩ = some tv := cellIn1 e1 rfl
      have HV := hide (And.intro e1 e2)
      obtain ⟨ta, tc, htv, _⟩ := e2.shape
      subst htv
      have HRL : Hid (rows.length ≤ 1000000000) := by
        have h1 : rows.length = ll.length := by have := congrArg List.length HRW.out; simpa using this
        show _ ≤ _
        omega
      clear e1 e2 hcl
      gi_wp2_with (first | ((with_reducible refine wpListIn_ldR gL _ ?hx HL7.out ?_); case hx => rfl) | ((with_reducible refine wpListIn_bsR (sf B) ?hx ?_); case hx => rfl) | (gi_at_builtin; refine wpStrIn rfl _ _ rfl (w3.heap.size + 2) (.slice ta rows.length tc) rows (sf B) rfl HV.out.2 _ rfl HRL.out (by omega) ?_))
      intro v9 w9 ho9 hg9 hat9
      rw [show B1 + 2 + 2 = w3.heap.size + 2 by omega] at ho9
      have hb9 : Below w6.heap.size w6 (w6.alloc (.cells (a10 (sf B)) 40)) := (Below.refl _ _).alloc (Nat.le_refl _) _
      have HJ10 := hide (HJ6.out.next (by omega) (by omega) (by omega) HV.out.1 HV.out.2 hb9 hg9 ho9)
      have l1 := hg9.size
      have lb := hb9.size
      have f9 : ∀ j, j < w6.heap.size → (Value.slice ta rows.length tc).ownBlock ≠ some j → w9.heap[j]? = w6.heap[j]? := fun j hj hne => (hg9.block j (by omega) (fun e => hne e.symm)).trans (hb9.block j hj)
      have g9 : w9.heap[gB]? = w6.heap[gB]? := f9 gB (by omega) (fun e => by have := (HV.out.2.lt gB e).1; omega)
      have hW1 : w9.cell? ⟨gB, 0, none⟩ = some (.slice ta rows.length tc) := (World.cell?_of_block g9).trans hV1
      have hW2 : w9.frozen? ⟨gB, 0, none⟩ = false := frozen_of_row _ _ _ _ _ (g9.trans HV.out.1)
      have HN10 : Hid ((w9.setCell ⟨gB, 0, none⟩ v9).heap[w4.heap.size]? = some (.cells (a10 (sf U)) 40 (0, 0))) := by
        show _ = _
        rw [setCell_others _ _ _ _ _ (by omega), f9 _ (by omega) (fun e => by have := HTB.out _ e; omega)]
        exact HN7.out
      have HL10 := hide HJ10.out.lst
      have HJ11 := hide (HJ10.out.setL (by omega) (by omega) (by omega) (sf U))
      obtain ⟨a9, c9, hv9, _⟩ := ho9.shape
      rw [List.length_append, List.length_singleton] at hv9
      subst hv9
      have HNW : Hid (SpI R w3 w3.heap.size gB gL (k + 1) o' ((w9.setCell ⟨gB, 0, none⟩ (.slice a9 (rows.length + 1) c9)).setRow gL (a10 (sf U)))) := by
        refine ⟨.inl HNX.out.1, rows ++ [sf B], ?_, ?_⟩
        · rw [HFS.out, List.map_append, HRW.out, List.map_append]
          have e : sf B 0 = ((m - fr : Nat) : Int) := by show ((B.length : Nat) : Int) = _; rw [hBl]
          simp [e]
        · rw [HNX.out.2, HFS.out]
          show SpJ w3 w3.heap.size gB gL _ (sf (seg R m (m + n))) o' _
          rw [HUU.out]
          exact HJ11.out
      clear ho9 hg9 hat9 hb9 l1 lb f9 g9 hV1
      gi_wp2_with (first | ((with_reducible refine wpListIn_ldR w4.heap.size _ ?hx HN10.out ?_); case hx => rfl) | ((with_reducible refine wpListIn_stR gL (sf U) _ ?hx ?hy HL10.out ?_); (case hx => rfl); (case hy => rfl)))
      exact HNW.out
    · rw [if_neg hcl] at HFS
      have hcl' : clo B U = false := by simpa using hcl
      rw [hcl']
      have HJN := hide (join_any (sf B) (sf U) w6 HFB.out.1 HFU.out.1)
      rw [sf_join] at HJN
      clear hcl hcl'
      gi_wp2_with (first | ((with_reducible refine wpListIn_ldR gL _ ?hx HL7.out ?_); case hx => rfl) | ((with_reducible refine wpListIn_ldR w4.heap.size _ ?hx HN7.out ?_); case hx => rfl))
      refine ⟨trivial, (CallsIn.inRound _ (callsIn_wide.2 HJN.out)).mono ?_⟩
      rintro e w7 ⟨rfl, b7⟩
      have HJ7 := hide (HJ6.out.low (by omega) (by omega) b7)
      have HL8 := hide HJ7.out.lst
      have HJ8 := hide (HJ7.out.setL (by omega) (by omega) (by omega) (sf (B ++ U)))
      have HNW : Hid (SpI R w3 w3.heap.size gB gL (k + 1) o' (w7.setRow gL (a10 (sf (B ++ U))))) := by
        refine ⟨.inl HNX.out.1, rows, ?_, ?_⟩
        · rw [HFS.out]; exact HRW.out
        · rw [HNX.out.2, HFS.out]
          show SpJ w3 w3.heap.size gB gL rows (sf (seg R fr (m + n))) o' _
          rw [HBU.out]
          exact HJ8.out
      clear b7 HJN
      gi_wp2_with ((with_reducible refine wpListIn_stR gL (sf (B ++ U)) _ ?hx ?hy HL8.out ?_); (case hx => rfl); (case hy => rfl))
      exact HNW.out
  case done =>
    rintro k o' W hk ⟨hk2, rows, hrw, hJ⟩
    have hd' := HD.out
    have hkN : 128 * k < N := by have h2 := hk2; rw [HN.out] at h2; omega
    have HKK : Hid (spK R = k) := by show _ = _; unfold spK; rw [HN.out]; omega
    have HSP := hide (HSI.out k (by rw [HN.out]; omega))
    rw [HN.out, show min (128 * (k + 1)) N = N by omega] at hJ
    have hfr : (spF R k).2 ≤ N := by have := HSP.out.le; omega
    have HRW : Hid ((rows ++ [sf (seg R (spF R k).2 N)]).map (fun f => f 0) = (spl R).map (fun n : Nat => (n : Int))) := by
      show _ = _
      unfold spl
      rw [HKK.out, List.map_append, hrw, List.map_append]
      have e : sf (seg R (spF R k).2 N) 0 = ((N - (spF R k).2 : Nat) : Int) := by show (((seg R (spF R k).2 N).length : Nat) : Int) = _; rw [seg_len hfr (by rw [HN.out]; exact Nat.le_refl _)]
      rw [HN.out]
      simp [e]
    have HRL : Hid (rows.length ≤ 1000000000) := by
      have h1 : rows.length = (spF R k).1.length := by have := congrArg List.length hrw; simpa using this
      have h2 := splLen1 R k
      show _ ≤ _
      omega
    obtain ⟨L, hL⟩ : ∃ L, seg R (spF R k).2 N = L := ⟨_, rfl⟩
    rw [hL] at HRW hJ
    obtain ⟨tv, e1, e2⟩ := hJ.var
    have hV1 : W.cell? ⟨gB, 0, none⟩ = some tv := cellIn1 e1 rfl
    have HV := hide (And.intro e1 e2)
    obtain ⟨ta, tc, htv, _⟩ := e2.shape
    subst htv
    have HJ := hide hJ
    have HL := hide hJ.lst
    have hsz := hJ.size
    clear e1 e2 hJ hrw hk2 HSP hL hfr
    gi_wp2_with (first | ((with_reducible refine wpListIn_ldS gL _ ?hx HL.out ?_); case hx => rfl) | ((with_reducible refine wpListIn_bsS (sf L) ?hx ?_); case hx => rfl) | (gi_at_builtin; refine wpStrIn rfl _ _ rfl (w3.heap.size + 2) (.slice ta rows.length tc) rows (sf L) rfl HV.out.2 _ rfl HRL.out (by omega) ?_))
    intro v9 w9 ho9 hg9 hat9
    rw [show B1 + 2 + 2 = w3.heap.size + 2 by omega] at ho9
    have hb9 : Below W.heap.size W (W.alloc (.cells (a10 (sf L)) 40)) := (Below.refl _ _).alloc (Nat.le_refl _) _
    have l1 := hg9.size
    have lb := hb9.size
    have f9 : ∀ j, j < W.heap.size → (Value.slice ta rows.length tc).ownBlock ≠ some j → w9.heap[j]? = W.heap[j]? := fun j hj hne => (hg9.block j (by omega) (fun e => hne e.symm)).trans (hb9.block j hj)
    have hlow : ∀ j, j < w3.heap.size + 2 → w9.heap[j]? = W.heap[j]? := fun j hj => f9 j (by omega) (fun e => by have := (HV.out.2.lt j e).1; omega)
    have hD9 : w9.heap[w3.heap.size]? = some (.deferred (some [])) := (hlow _ (by omega)).trans HJ.out.dfr
    have hgw := HGB.out
    have HF : Hid (OS (w9.putObj w3.heap.size (.deferred none)) w.heap.size v9 (rows ++ [sf L]) ∧ Below w.heap.size w (w9.putObj w3.heap.size (.deferred none))) := by
      refine ⟨(ho9.move (w' := w9.putObj w3.heap.size (.deferred none)) fun j hj => pObj_ne _ _ (by have := (ho9.lt j hj).1; omega)).base (by omega), ?_⟩
      refine ⟨(hg9.os.trans (hb9.os.trans HJ.out.os)).trans HB3.out.os, (hg9.tape.trans (hb9.tape.trans HJ.out.tape)).trans HB3.out.tape, (hg9.output.trans (hb9.output.trans HJ.out.output)).trans HB3.out.output, by rw [pObj_size]; have := HB3.out.size; omega, fun j hj => ?_⟩
      rw [pObj_ne _ _ (by omega), hlow j (by omega), HJ.out.blk j (by omega) (by omega) (by omega)]
      exact HB3.out.block j hj
    obtain ⟨a9, c9, hv9, _⟩ := ho9.shape
    rw [List.length_append, List.length_singleton] at hv9
    subst hv9
    rw [show w3.heap.size = B1 + 2 by omega] at hD9 HF
    clear ho9 hg9 hat9 hb9 l1 lb f9 hlow hV1 hd' hdB
    gi_wp2
    refine ⟨by simp, .inl ⟨_, _, rfl, run_takeDeferred hD9, ?_⟩⟩
    exact ⟨_, results_tmp rfl _ _ _, .slice a9 (rows.length + 1) c9, rows ++ [sf L], rfl, HRW.out, HF.out.1, HF.out.2⟩
end Go.Proofs.YtdpfjfkknimlfaaDoor

