import Derived.Test.YtogplagiheoaiaaG09Adj
namespace Go.Proofs.Ytogplagiheoaiaa
open Go.RowKit Go.Maps Go.Shelf
attribute [local go_sem] Oper.semAt_some
set_option maxRecDepth 20000
set_option linter.unusedVariables false

theorem byt_mem {l : List Int} (h : Byt l) : ∀ v ∈ l, 0 ≤ v ∧ v ≤ 255 := by
  intro v hv
  obtain ⟨i, hi, rfl⟩ := List.getElem_of_mem hv
  have := h i
  simp only [List.getD, List.getElem?_eq_getElem hi, Option.getD_some] at this
  omega

theorem SB.cells {w : World} {a : Option Addr} {n c : Nat} {l : List Int} (h : SB w (.slice a n c) l) : n = l.length ∧ l.length ≤ c ∧ c ≤ 9223372036854775807 ∧ (0 < l.length → ∃ b o, a = some ⟨b, o, none⟩) ∧ ∀ b o, a = some ⟨b, o, none⟩ → ∀ i, i < l.length → w.cell? ⟨b, o + i, none⟩ = some (.int .u8 (l.getD i 0)) := by
  obtain ⟨ao, cap, he, h1, h2, h3, h4⟩ := h
  simp only [Value.slice.injEq] at he
  obtain ⟨rfl, rfl, rfl⟩ := he
  unfold maxLen at h2
  refine ⟨rfl, h1, by omega, fun hp => ?_, fun b o e i hi => ?_⟩
  · cases a with
    | none => have := h3 rfl; omega
    | some x =>
      obtain ⟨b, o, rfl⟩ := addr_lit (h4 x rfl 0 hp)
      exact ⟨b, o, rfl⟩
  · have := h4 _ e i hi
    rwa [Addr.add_lit] at this

theorem drop_take_get {l : List Int} {p n i : Nat} (hi : i < n) (hp : p + n ≤ l.length) : ((l.drop p).take n).getD i 0 = l.getD (p + i) 0 := by
  simp [List.getD, List.getElem?_drop, hi]

theorem wrapU {a : Int} (h0 : 0 ≤ a) (h1 : a < 4294967296) : IntKind.u32.wrap a = a := by
  have e : IntKind.u32.bits = 32 := rfl
  have e2 : IntKind.u32.signed = false := rfl
  simp [IntKind.wrap, e, e2]
  omega

set_option maxHeartbeats 2000000 in
theorem adler_any (v : Value) (l : List Int) (w : World) (h : SB w v l) (hy : Byt l) (hr : l.length ≤ 140737488351232) :
    Calls Try.prog 14 #[v] w fun e w' => e = .returned (.int .u32 (adl l)) ∧ Below w.heap.size w w' := by
  obtain ⟨a, c, rfl⟩ : ∃ a c, v = .slice a l.length c := by obtain ⟨a, c, h, _⟩ := h; exact ⟨a, c, h⟩
  obtain ⟨-, hc1, hc2, hao, hce⟩ := h.cells
  have HC := hide hce
  have HAO := hide hao
  have HY := hide (byt_mem hy)
  obtain ⟨N, hN⟩ : ∃ N, l.length = N := ⟨_, rfl⟩
  have HN := hide hN
  rw [hN] at hc1 hr HC HAO ⊢
  obtain ⟨gA, hgA⟩ : ∃ g, w.heap.size = g := ⟨_, rfl⟩
  clear hao hce h hy hN
  refine (callsIn_wide (n := 3)).1 ?_
  refine callsIn_of_wp_marks Try.func14 rfl trivial ?_ rfl
  simp only [Try.ntmps14, List.size_toArray, List.length_cons, List.length_nil, Nat.reduceAdd, Nat.reduceSub, Array.replicate_succ, Array.replicate_zero, List.push_toArray, List.append_toArray, List.nil_append, List.cons_append]
  gi_wp2_with fail
  refine ⟨trivial, (callsIn_wide.2 (chunk_any _ _ _ _)).mono ?_⟩
  rintro e w3 ⟨rfl, hw3⟩
  obtain ⟨w2, hw2⟩ : ∃ w2, (w.alloc (.cells #[.int .u32 1] 24)).alloc (.cells #[.int .u32 0] 24) = w2 := ⟨_, rfl⟩
  have hs2 : w2.heap.size = gA + 2 := by rw [← hw2, ← hgA]; simp
  have HG2 : Hid (w2.heap[gA]? = some (.cells #[.int .u32 1] 24 (0, 0))) := by show _ = _; rw [← hw2, ← hgA]; exact (heap_two w _ _).2
  have HL2 : Hid (w2.heap[gA + 1]? = some (.cells #[.int .u32 0] 24 (0, 0))) := by show _ = _; rw [← hw2, ← hgA]; exact (heap_two w _ _).1
  have HB2 : Hid (Below w.heap.size w w2) := by show Below _ _ _; rw [← hw2]; exact ((Below.refl _ _).alloc (Nat.le_refl _) _).alloc (by simp) _
  rw [hw2] at hw3
  have hs3 : w3.heap.size = gA + 4 := by rw [hw3]; simp [hs2]
  have b3 : Below w2.heap.size w2 w3 := by rw [hw3]; exact ((Below.refl _ _).alloc (Nat.le_refl _) _).alloc (by simp) _
  have HX1 : Hid (w3.heap[gA + 2]? = some (.cells #[.slice a N c] 22 (0, 0))) := by show _ = _; rw [hw3, ← hs2]; exact (heap_two w2 _ _).2
  have HX2 : Hid (w3.heap[gA + 3]? = some (.cells #[.int .i64 5552] 3 (0, 0))) := by
    show _ = _
    have := (heap_two w2 (.cells #[.slice a N c] 22) (.cells #[.int .i64 5552] 3)).1
    rw [hw3]
    rwa [hs2] at this
  have HG3 := hide ((b3.block _ (by omega)).trans HG2.out)
  have HL3 := hide ((b3.block _ (by omega)).trans HL2.out)
  have HB3 := hide (HB2.out.trans (b3.mono (by omega)))
  have HST := hide (adJ_start (wb := w3) (gA := gA) (gB := gA + 1) HG3.out HL3.out)
  have HS3 := hide hs3
  rw [hw2, hs2]
  obtain ⟨gB, hgB⟩ : ∃ g, gA + 1 = g := ⟨_, rfl⟩
  obtain ⟨gC, hgC⟩ : ∃ g, gA + 2 = g := ⟨_, rfl⟩
  obtain ⟨gD, hgD⟩ : ∃ g, gA + 3 = g := ⟨_, rfl⟩
  rw [show gA + 2 + 1 = gA + 3 by omega, hgC, hgD]
  rw [hgB] at HST HL3 ⊢
  rw [hgC] at HX1
  rw [hgD] at HX2
  have HGB := hide (And.intro hgB (And.intro hgC hgD))
  have HGA := hide hgA
  clear hw3 hw2 hs2 b3 HG2 HL2 HB2 hgA hs3 hgB hgC hgD
  gi_wp2_with fail
  refine wp_chunk ((a.getD ⟨0, 0, none⟩).block) ((a.getD ⟨0, 0, none⟩).off) N c gC gD a rfl rfl (by omega) (by omega) (fun h0 => by obtain ⟨b, o, rfl⟩ := HAO.out h0; rfl) (fun k o' W => 5552 * k ≤ N + 5552 ∧ AdJ w3 w3.heap.size gA gB (sA (l.take (5552 * k)) % 65521) (sB (l.take (5552 * k)) % 65521) o' W) (adJ_rec (by have := HS3.out; omega) (by have := HS3.out; have := HGB.out; omega) _ _ _) ?hT ?hdr ?hst ?act ?assign ?body ?done
  case hst => intro o'; exact ⟨by omega, HST.out o'⟩
  case hT =>
    rintro k o' W ⟨_, hJ⟩
    have hd' := HS3.out
    obtain ⟨q1, q2, q3⟩ := HGB.out
    exact ⟨cellIn1 ((hJ.blk gC (by omega) (by omega) (by omega)).trans HX1.out) rfl, cellIn1 ((hJ.blk gD (by omega) (by omega) (by omega)).trans HX2.out) rfl⟩
  case hdr =>
    rintro k o' W n ⟨e1, hJ⟩
    exact ⟨e1, hJ.drewN n⟩
  case assign =>
    intro x W K hK
    gi_wp2
    exact hK
  case body =>
    rintro k o' W hk ⟨_, hJ⟩
    obtain ⟨b, o, rfl⟩ := HAO.out (by omega)
    obtain ⟨p, hp⟩ : ∃ p, 5552 * k = p := ⟨_, rfl⟩
    obtain ⟨n, hn⟩ : ∃ n, min 5552 (N - p) = n := ⟨_, rfl⟩
    have HUT : Hid (unt b o N k = .slice (some ⟨b, o + p, none⟩) n n) := by show _ = _; unfold unt; rw [hp, hn]
    simp only [Option.getD_some]
    rw [HUT.out]
    rw [hp] at hJ hk
    have hnp : n ≤ 5552 ∧ p + n ≤ N := by omega
    obtain ⟨R, hR⟩ : ∃ R, (l.drop p).take n = R := ⟨_, rfl⟩
    have hRl : R.length = n := by rw [← hR]; have := HN.out; simp; omega
    have HRL := hide hRl
    have HRY : Hid (∀ v ∈ R, 0 ≤ v ∧ v ≤ 255) := fun v hv => HY.out v (List.mem_of_mem_drop (List.mem_of_mem_take (hR ▸ hv)))
    have hd' := HS3.out
    obtain ⟨q1, q2, q3⟩ := HGB.out
    have HRG : Hid (∀ i, i < n → ∀ W : World, (∀ k, k < gA → W.heap[k]? = w3.heap[k]?) → W.cell? ⟨b, o + p + i, none⟩ = some (.int .u8 (R.getD i 0))) := by
      intro i hi W hW
      rw [← hR, drop_take_get hi (by have := HN.out; omega)]
      have hc := HC.out b o rfl (p + i) (by omega)
      have hbl : b < w.heap.size := World.block_lt_of_cell? _ _ hc
      rw [← Nat.add_assoc] at hc
      have hga := HGA.out
      have hw : W.heap[b]? = w.heap[b]? := (hW b (by omega)).trans (HB3.out.block b (by omega))
      exact (World.cell?_of_block hw).trans hc
    have HTK : Hid (l.take (p + n) = l.take p ++ R) := by show _ = _; rw [← hR, List.take_add]
    obtain ⟨x0, hx0⟩ : ∃ x, sA (l.take p) % 65521 = x := ⟨_, rfl⟩
    obtain ⟨y0, hy0⟩ : ∃ x, sB (l.take p) % 65521 = x := ⟨_, rfl⟩
    have HXY : Hid ((0 ≤ x0 ∧ x0 ≤ 65520) ∧ 0 ≤ y0 ∧ y0 ≤ 65520) := by show _ ∧ _; omega
    have HMD : Hid (rA x0 R % 65521 = sA (l.take (p + n)) % 65521 ∧ rB x0 y0 R % 65521 = sB (l.take (p + n)) % 65521) := by
      rw [HTK.out, ← hx0, ← hy0]; exact run_mod _ _
    rw [hx0, hy0] at hJ
    have HJ := hide hJ
    have HPK : Hid (5552 * k = p) := hp
    have HNN : Hid (min 5552 (N - p) = n) := hn
    have HPN := hide hnp
    have hne : ¬ gA = gB := by omega
    have hne2 : ¬ gB = gA := by omega
    have HG := hide (And.intro q1 (And.intro q2 (And.intro q3 hd')))
    clear hJ HTK hx0 hy0 hR hp hn hnp HUT hRl q1 q2 q3 hd'
    gi_wp2_with fail
    gi_loopw [13] (fun i wr => ∃ j : Nat, j ≤ n ∧ i = .int .i64 j ∧ Hid (AdJ w3 w3.heap.size gA gB (rA x0 (R.take j)) (rB x0 y0 (R.take j)) o' wr)) (fun i _ => n - (intOf i).toNat)
    case atStart => exact ⟨0, by omega, rfl, by show AdJ _ _ _ _ _ _ _ _; rw [List.take_zero, rA_nil, rB_nil]; exact HJ.out⟩
    case round =>
      obtain ⟨j, hj, rfl, HJ2⟩ := hrel
      clear HJ
      obtain ⟨h1, h2, h3, h4⟩ := HG.out
      by_cases hlt : j < n
      · have hlt' : (j : Int) < (n : Int) := by omega
        have hc := HRG.out j hlt wr (fun k hk => HJ2.out.blk k (by omega) (by omega) (by omega))
        have hyy := HRY.out (R.getD j 0) (by
          have : j < R.length := by have := HRL.out; omega
          simp [List.getD, this])
        have HTS := hide (take_snocI R j (by have := HRL.out; omega))
        have hf0 := run_fits (r := R.take j) (fun v hv => HRY.out v (List.mem_of_mem_take hv)) HXY.out.1 HXY.out.2 (by have := HPN.out; simp; omega)
        have hf1 := run_fits (r := R.take (j + 1)) (fun v hv => HRY.out v (List.mem_of_mem_take hv)) HXY.out.1 HXY.out.2 (by have := HPN.out; simp; omega)
        rw [HTS.out, rB_snoc, rA_snoc] at hf1
        obtain ⟨q, hq⟩ : ∃ q, R.getD j 0 = q := ⟨_, rfl⟩
        obtain ⟨x, hx⟩ : ∃ x, rA x0 (R.take j) = x := ⟨_, rfl⟩
        obtain ⟨y, hy⟩ : ∃ y, rB x0 y0 (R.take j) = y := ⟨_, rfl⟩
        rw [hq] at hc hyy hf1 HTS
        rw [hx, hy] at hf1
        rw [hx, hy] at HJ2
        have hcA : wr.cell? ⟨gA, 0, none⟩ = some (.int .u32 x) := cellIn1 HJ2.out.ca rfl
        have hcB : wr.cell? ⟨gB, 0, none⟩ = some (.int .u32 y) := cellIn1 HJ2.out.cb rfl
        have hfA : wr.frozen? ⟨gA, 0, none⟩ = false := frozen_of_row _ _ _ _ _ HJ2.out.ca
        have hfB : wr.frozen? ⟨gB, 0, none⟩ = false := frozen_of_row _ _ _ _ _ HJ2.out.cb
        have hw1 : IntKind.u32.wrap q = q := wrapU (by omega) (by omega)
        have hw2 : IntKind.u32.wrap (x + q) = x + q := wrapU (by omega) (by omega)
        have hw3 : IntKind.u32.wrap (y + (x + q)) = y + (x + q) := wrapU (by omega) (by omega)
        have HN2 : Hid (rA x0 (R.take (j + 1)) = x + q ∧ rB x0 y0 (R.take (j + 1)) = y + (x + q)) := by
          show _ ∧ _
          rw [HTS.out, rB_snoc, rA_snoc, hx, hy]; exact ⟨rfl, rfl⟩
        have HGG := hide (And.intro h1 (And.intro h2 (And.intro h3 h4)))
        have hj5 : j ≤ 5552 := by have := HPN.out; omega
        clear hf0 hf1 hyy hq hx hy h1 h2 h3 h4 HTS
        gi_wp2
        go_roundw
        case rel =>
          obtain ⟨h1, h2, h3, h4⟩ := HGG.out
          refine ⟨j + 1, by omega, by go_num, ?_⟩
          show AdJ _ _ _ _ _ _ _ _
          rw [HN2.out.1, HN2.out.2]
          exact (HJ2.out.setA (by omega) (by omega) (by omega) _).setB (by omega) (by omega) (by omega) _
        case measure => simp [intOf]; omega
      · obtain rfl : j = n := by omega
        have hlt' : ¬ (j : Int) < (j : Int) := by omega
        have HL : Hid (R.take j = R) := by show _ = _; rw [← HRL.out]; exact List.take_length ..
        rw [HL.out] at HJ2
        have hf0 := run_fits (r := R) HRY.out HXY.out.1 HXY.out.2 (by have := HPN.out; have := HRL.out; omega)
        obtain ⟨x, hx⟩ : ∃ x, rA x0 R = x := ⟨_, rfl⟩
        obtain ⟨y, hy⟩ : ∃ y, rB x0 y0 R = y := ⟨_, rfl⟩
        rw [hx, hy] at HJ2 hf0 HMD
        have hcA : wr.cell? ⟨gA, 0, none⟩ = some (.int .u32 x) := cellIn1 HJ2.out.ca rfl
        have hcB : wr.cell? ⟨gB, 0, none⟩ = some (.int .u32 y) := cellIn1 HJ2.out.cb rfl
        have hfA : wr.frozen? ⟨gA, 0, none⟩ = false := frozen_of_row _ _ _ _ _ HJ2.out.ca
        have hfB : wr.frozen? ⟨gB, 0, none⟩ = false := frozen_of_row _ _ _ _ _ HJ2.out.cb
        obtain ⟨⟨f1, f2⟩, f3, f4⟩ := hf0
        have hw1 : IntKind.u32.wrap (x % 65521) = x % 65521 := wrapU (by omega) (by omega)
        have hw2 : IntKind.u32.wrap (y % 65521) = y % 65521 := wrapU (by omega) (by omega)
        have HGG := hide (And.intro h1 (And.intro h2 (And.intro h3 h4)))
        clear hx hy h1 h2 h3 h4
        gi_wp2
        gi_region
        all_goals
          show _ ∧ AdJ _ _ _ _ _ _ _ _
          obtain ⟨h1, h2, h3, h4⟩ := HGG.out
          have hk1 := HPK.out
          have hk2 := HNN.out
          have ek : l.take (5552 * (k + 1)) = l.take (p + j) := by
            by_cases hq : p + 5552 ≤ N
            · rw [show 5552 * (k + 1) = p + j by omega]
            · rw [List.take_of_length_le (by have := HN.out; omega), List.take_of_length_le (by have := HN.out; omega)]
          rw [ek, ← HMD.out.1, ← HMD.out.2]
          refine ⟨by omega, ?_⟩
          have ht1 : x.tmod 65521 = x % 65521 := Int.tmod_eq_emod_of_nonneg f1
          have ht2 : y.tmod 65521 = y % 65521 := Int.tmod_eq_emod_of_nonneg f3
          rw [ht1, ht2]
          exact ((HJ2.out.setA (by omega) (by omega) (by omega) _).setB (by omega) (by omega) (by omega) _).drewN 1
  case done =>
    rintro k o' W hk ⟨_, hJ⟩
    rw [List.take_of_length_le (by have := HN.out; omega)] at hJ
    have HAL : Hid (sB l % 65521 * 65536 + sA l % 65521 = adl l) := rfl
    have f1 : 0 ≤ sA l % 65521 ∧ sA l % 65521 ≤ 65520 := by omega
    have f2 : 0 ≤ sB l % 65521 ∧ sB l % 65521 ≤ 65520 := by omega
    obtain ⟨x, hx⟩ : ∃ x, sA l % 65521 = x := ⟨_, rfl⟩
    obtain ⟨y, hy⟩ : ∃ y, sB l % 65521 = y := ⟨_, rfl⟩
    rw [hx] at f1
    rw [hy] at f2
    rw [hx, hy] at hJ HAL
    have HJ := hide hJ
    have hcA : W.cell? ⟨gA, 0, none⟩ = some (.int .u32 x) := cellIn1 hJ.ca rfl
    have hcB : W.cell? ⟨gB, 0, none⟩ = some (.int .u32 y) := cellIn1 hJ.cb rfl
    have hw1 : IntKind.u32.wrap (y * 65536) = y * 65536 := wrapU (by omega) (by omega)
    have hw2 : IntKind.u32.wrap (y * 65536 + x) = y * 65536 + x := wrapU (by omega) (by omega)
    have hD9 : W.heap[w3.heap.size]? = some (.deferred (some [])) := hJ.dfr
    clear hJ hx hy f1 f2
    gi_wp2
    refine ⟨by simp, .inl ⟨_, _, rfl, run_takeDeferred hD9, ?_⟩⟩
    refine ⟨_, results_tmp rfl _ _ _, ?_⟩
    refine ⟨by rw [← HAL.out]; rfl, ?_⟩
    have hs3 := HS3.out
    have hga := HGA.out
    obtain ⟨h1, h2, h3⟩ := HGB.out
    refine ⟨HJ.out.os.trans HB3.out.os, HJ.out.tape.trans HB3.out.tape, HJ.out.output.trans HB3.out.output, by rw [pObj_size]; have := HJ.out.size; omega, fun j hj => ?_⟩
    rw [pObj_ne _ _ (by omega), HJ.out.blk j (by omega) (by omega) (by omega)]
    exact HB3.out.block j hj
end Go.Proofs.Ytogplagiheoaiaa

