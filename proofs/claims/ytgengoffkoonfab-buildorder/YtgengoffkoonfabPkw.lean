import Derived.Test.YtgengoffkoonfabPkq
namespace Go.Proofs.Ytgengoffkoonfab
open Go.RowKit Go.Maps Go.Shelf
attribute [local go_sem] Oper.semAt_some
set_option maxRecDepth 20000
set_option linter.unusedVariables false

theorem wpListIn_mkI {F : Fence} {q : Nat} {w : World} {ops : Array Oper} {rest : List Oper} {o : Oper} {a : Act} {Q : Exit → Act → World → Prop} (hg : o.guard = none) (l c : Operand) (hop : o.op = Op.makeSlice 22 l c)
    (kl kc : IntKind) (L C : Int) (n m : Nat) (hl : a.eval l = .int kl L) (hc : a.eval c = .int kc C) (hL : L = (n : Int)) (hC : C = (m : Int)) (hnm : n ≤ m) (b2 : m ≤ 17592186044416)
    (hK : wpListIn F q Try.prog ops Q rest (a.put o.dst (.slice (some ⟨w.heap.size, 0, none⟩) n m)) (w.alloc (.cells (Array.replicate m (Value.int .i64 0)) 3))) :
    wpListIn F q Try.prog ops Q (o :: rest) a w := by
  obtain ⟨i0, hi, hz0, hz1, hz2⟩ := info_parts infoInt
  refine wpListIn_plain hg fun K hK' => ?_
  have hr := run_make (P := Try.prog) w 22 3 i0 (.int .i64 0) Try.underlying22 hi hz0 kl kc (n : Int) (m : Int) (by omega) (by omega) (by rw [hz2]; omega) (by omega)
  subst hL hC
  unfold Oper.wpIn
  refine ⟨?_, ?_⟩
  · simp [Oper.about, hop]
  · rw [Oper.semAt_plain F _ _ (by rw [hop]; intro c hc'; cases hc')]
    simp [execOp, hop, hl, hc, hr, Result.andThen]
    have e : (madeCells (Value.int .i64 0).cells m) = Array.replicate m (Value.int .i64 0) := by
      apply Array.ext'
      rw [show (Value.int IntKind.i64 0).cells = #[Value.int IntKind.i64 0] from rfl, madeInts m]
      simp
    rw [hz1, Nat.mul_one, e]
    exact hK' _ _ hK

theorem oc_ne {w : World} {b0 g h : Nat} {c n : Nat} {R : List (Nat × Bool)} {cur : Array Value} {fz : Nat × Nat} (ho : OC w b0 (.slice (some ⟨g, 0, none⟩) n c) R) (hh : w.heap[h]? = some (.cells cur 3 fz)) : g ≠ h := by
  intro e
  subst e
  rcases ho.2 with ⟨q, _⟩ | ⟨g', cap, cur', he, _, hg, _⟩
  · cases q
  · simp only [Value.slice.injEq, Option.some.injEq, Addr.mk.injEq, and_true] at he
    rw [← he.1, hh] at hg
    simp at hg

set_option maxHeartbeats 4000000 in
theorem pack_any (v : Value) (ws : List Nat) (L : Nat) (w : World) (h : SI w v (ci ws)) (h1 : ws.length ≤ 288) (h2 : 2 ≤ ws.length) (hL : 1 ≤ L ∧ L ≤ 15) (hw : ∀ x ∈ ws, x ≤ 4294967296) (hroom : 2 * ws.length - 2 ≤ (row ws L).length) :
    Calls Try.prog 30 #[v, .int .i64 L] w fun e w' => ∃ a c, e = .returned (.slice a ws.length c) ∧ OI w' w.heap.size (.slice a ws.length c) (hls ws.length (ct (sel ws L (2 * ws.length - 2)))) ∧ Below w.heap.size w w' := by
  have HS := hide h
  obtain ⟨ao, cap, rfl, hlc, hcm⟩ := h.open
  have hcl := ci_len ws
  rw [hcl] at hlc HS ⊢
  have HRO := hide hroom
  have HW := hide hw
  obtain ⟨n, HNN⟩ : ∃ n, Hid (n = ws.length) := ⟨_, rfl⟩
  have HSI : Hid (SI w (.slice ao (ci ws).length cap) (ci ws)) := by rw [hcl]; exact HS.out
  rw [← HNN.out] at hlc HS HRO h1 h2 ⊢
  obtain ⟨F, HF⟩ : ∃ F, Hid (F = ct (sel ws L (2 * n - 2))) := ⟨_, rfl⟩
  rw [← HF.out]
  have e1 : IntKind.i64.wrap (2 * (n : Int)) = 2 * (n : Int) := by rw [IntKind.wrap_i64]; omega
  have e2 : IntKind.i64.wrap (2 * (n : Int) - 2) = ((2 * n - 2 : Nat) : Int) := by rw [IntKind.wrap_i64]; omega
  have e3 : 2 * (n : Int) - 2 = ((2 * n - 2 : Nat) : Int) := by omega
  obtain ⟨M0, hM0⟩ : ∃ M0, M0 = 2 * n - 2 := ⟨_, rfl⟩
  rw [← hM0] at e2 e3 HF HRO
  have HM0 := hide hM0
  clear h hroom hw hcl hM0
  refine (callsIn_wide (n := 3)).1 ?_
  refine callsIn_of_wp_marks Try.func30 rfl trivial ?_ rfl
  simp only [Try.ntmps30, List.size_toArray, List.length_cons, List.length_nil, Nat.reduceAdd, Nat.reduceSub, Array.replicate_succ, Array.replicate_zero, List.push_toArray, List.append_toArray, List.nil_append, List.cons_append]
  gi_wp2_with (gi_at_make; refine wpListIn_mkI rfl _ _ rfl _ _ _ _ n n rfl rfl (by first | rfl | omega) (by first | rfl | omega) (Nat.le_refl _) (by omega) ?_)
  obtain ⟨w3, hw3⟩ : ∃ w3, ((w.alloc (.cells (Array.replicate n (Value.int .i64 0)) 3)).alloc (.cells #[.slice (some ⟨w.heap.size, 0, none⟩) n n] 22)).alloc (.cells #[.int .i64 (M0 : Int)] 3) = w3 := ⟨_, rfl⟩
  rw [hw3]
  have hs3 : w3.heap.size = w.heap.size + 3 := by rw [← hw3]; simp
  have hl3 : w3.heap[w.heap.size]? = some (.cells ((hls n fun _ => 0).map (Value.int .i64)).toArray 3 (0, 0)) := by
    rw [← hw3, Below.heap_alloc _ _ _ (by simp; omega), Below.heap_alloc _ _ _ (by simp), heap_alloc_new, hls_zero, List.map_replicate]
    simp
  have hg3 : w3.heap[w.heap.size + 1]? = some (.cells #[.slice (some ⟨w.heap.size, 0, none⟩) n n] 22 (0, 0)) := by
    rw [← hw3, Below.heap_alloc _ _ _ (by simp)]
    have := heap_alloc_new (w.alloc (.cells (Array.replicate n (Value.int .i64 0)) 3)) (.cells #[.slice (some ⟨w.heap.size, 0, none⟩) n n] 22)
    rwa [size_alloc'] at this
  have hn3 : w3.heap[w.heap.size + 1 + 1]? = some (.cells #[.int .i64 (M0 : Int)] 3 (0, 0)) := by
    rw [← hw3]
    have := heap_alloc_new ((w.alloc (.cells (Array.replicate n (Value.int .i64 0)) 3)).alloc (.cells #[.slice (some ⟨w.heap.size, 0, none⟩) n n] 22)) (.cells #[.int .i64 (M0 : Int)] 3)
    rwa [size_alloc', size_alloc'] at this
  have hb3 : Below w.heap.size w w3 := by rw [← hw3]; exact (((Below.refl _ _).alloc (Nat.le_refl _) _).alloc (by simp) _).alloc (by simp; omega) _
  have HR3 := hide (rows_any _ ws L w3 (HSI.out.below hb3) (by rw [← HNN.out]; exact h1) hL HW.out)
  have e0 : (ci ws).length = n := by rw [ci_len, ← HNN.out]
  rw [e0] at HR3
  have HFX := hide (And.intro hs3 (And.intro hl3 (And.intro hg3 (And.intro hn3 hb3))))
  clear hs3 hl3 hg3 hn3 hb3 hw3 e0 e1 e2 e3
  refine ⟨trivial, (callsIn_wide.2 HR3.out).mono ?_⟩
  rintro e w4 ⟨v4, rfl, ho4, hb4⟩
  obtain ⟨gA, cA, hv4, q1, q2, q3, q4, q5⟩ := ho4.shape hL.1
  subst hv4
  have HB4 := hide hb4
  have HQ5 := hide q5
  clear ho4 hb4 HR3 q5
  gi_wp2_with fail
  refine ⟨trivial, (callsIn_wide.2 (bwd_any _ _ _ _)).mono ?_⟩
  rintro e w5 ⟨rfl, hw5⟩
  obtain ⟨hL0, hhL⟩ : ∃ hL0, w.heap.size = hL0 := ⟨_, rfl⟩
  have HHL := hide hhL
  obtain ⟨gL, hgL⟩ : ∃ g, hL0 + 1 = g := ⟨_, rfl⟩
  obtain ⟨gN, hgN⟩ : ∃ g, gL + 1 = g := ⟨_, rfl⟩
  obtain ⟨Bx, hBx⟩ : ∃ g, w4.heap.size = g := ⟨_, rfl⟩
  have hFX := HFX.out
  rw [hhL, hgL, hgN] at hFX ⊢
  rw [hBx]
  obtain ⟨hs3, hl3, hg3, hn3, hb3⟩ := hFX
  have hsz4 := HB4.out.size
  have hs5 : w5.heap.size = Bx + 1 := by rw [hw5, size_alloc', hBx]
  have hb5 : Below w4.heap.size w4 w5 := by rw [hw5]; exact (Below.refl _ _).alloc (Nat.le_refl _) _
  have hl5 : w5.heap[hL0]? = some (.cells ((hls n fun _ => 0).map (Value.int .i64)).toArray 3 (0, 0)) := by rw [hb5.block _ (by omega), HB4.out.block _ (by omega)]; exact hl3
  have hg5 : w5.heap[gL]? = some (.cells #[.slice (some ⟨hL0, 0, none⟩) n n] 22 (0, 0)) := by rw [hb5.block _ (by omega), HB4.out.block _ (by omega)]; exact hg3
  have hn5 : w5.heap[gN]? = some (.cells #[.int .i64 (M0 : Int)] 3 (0, 0)) := by rw [hb5.block _ (by omega), HB4.out.block _ (by omega)]; exact hn3
  have hbx5 : w5.heap[Bx]? = some (.cells #[.slice (some ⟨gA, 0, none⟩) L cA] 71 (0, 0)) := by rw [hw5, ← hBx]; exact heap_alloc_new w4 _
  have hbw5 : Below hL0 w w5 := (hb3.trans (HB4.out.mono (by omega))).trans (hb5.mono (by omega))
  have HRW : Hid (∀ k, k < L → ∃ a n' c', w5.cell? ⟨gA, k, none⟩ = some (.slice a n' c') ∧ OC w5 0 (.slice a n' c') (crw ws k)) := fun k hk => by
    obtain ⟨u, u1, u2⟩ := HQ5.out k hk
    obtain ⟨a, c', rfl, _⟩ := u2.shape
    exact ⟨a, _, c', by rw [hb5.cell (by show gA < _; omega)]; exact u1, u2.below hb5 (Nat.le_refl _)⟩
  have hgA : gA < Bx ∧ hL0 + 3 ≤ gA := by omega
  have HL5 := hide (And.intro hl5 (And.intro hg5 (And.intro hn5 (And.intro hbx5 hbw5))))
  have hd1 : hL0 < Bx ∧ gN < Bx ∧ gL < Bx ∧ hL0 + 2 ≤ gN ∧ gN ≤ hL0 + 2 ∧ hL0 + 1 ≤ gL ∧ gL ≤ hL0 + 1 := by omega
  obtain ⟨d, hd⟩ : ∃ d, w5.heap.size = d := ⟨_, rfl⟩
  have hdB : Bx + 1 ≤ d ∧ d ≤ Bx + 1 := by omega
  have HD := hide hd
  clear hs3 hl3 hg3 hn3 hb3 hw5 hb5 hl5 hg5 hn5 hbx5 hbw5 HFX HB4 HQ5 hsz4 hs5 hhL hgL hgN hBx hd q3 q4
  gi_wp2_with fail
  refine wp_range2 (α := Nat × Value) L rfl (by decide) (gf := 65) (lb := #[.pointer (some ⟨Bx, 0, none⟩)]) rfl trivial (enters_of Try.func65 (by kernel_rfl) rfl)
    (encs := fun x => #[.int .i64 (x.1 : Int), x.2]) (fun _ => rfl) (PkI L w5 w5.heap.size hL0 gN n ws F) (PkY L w5 w5.heap.size hL0 gN n ws F) (PkI L w5 w5.heap.size hL0 gN n ws F 0) (fun _ _ _ => False)
    (fun m => pkI_rec m (by rw [HD.out]; omega) (by rw [HD.out]; omega)) (fun m x => pkY_rec m x (by rw [HD.out]; omega) (by rw [HD.out]; omega)) (pkI_rec 0 (by rw [HD.out]; omega) (by rw [HD.out]; omega)) (fun _ => ⟨fun _ _ h => h.elim, fun _ _ _ h => h.elim⟩) ?start ?seq ?a1 ?assign ?body ?done ?stop
  case start =>
    intro o
    obtain ⟨p1, p2, p3, p4, p5⟩ := HL5.out
    have hlt : ∀ k, k < d → ((w5.alloc (.deferred (some []))).alloc o).heap[k]? = w5.heap[k]? := fun k hk => by
      rw [Below.heap_alloc _ _ _ (by simp; rw [HD.out]; omega), Below.heap_alloc _ _ _ (by rw [HD.out]; exact hk)]
    refine ⟨M0, fun _ => 0, ⟨?_, ?_, rfl, rfl, rfl, by simp, fun k hk _ _ => hlt k (by rw [← HD.out]; exact hk), by rw [hlt _ (by omega)]; exact p1, by rw [hlt _ (by omega)]; exact p3⟩, Nat.le_refl _, HRO.out, fun i _ => by rw [HF.out]; simp⟩
    · exact (heap_two w5 _ o).2
    · exact (heap_two w5 _ o).1
  case seq =>
    intro o Jx hY W hW
    refine bwd_in (w5.heap.size + 1) Bx gA cA L (by omega) (fun m W => PkI L w5 w5.heap.size hL0 gN n ws F m o W) (fun m x W => PkY L w5 w5.heap.size hL0 gN n ws F m x o W) (PkI L w5 w5.heap.size hL0 gN n ws F 0 o) Jx (fun m W hm => ?_) hY W hW Fence.wide rfl
    obtain ⟨M, cur, hp, hmL, hM, hf⟩ := hm
    obtain ⟨p1, p2, p3, p4, p5⟩ := HL5.out
    have hd' := HD.out
    refine ⟨hmL, ?_, fun e => by subst e; exact ⟨M, cur, hp, hmL, hM, hf⟩, fun k hk => ?_⟩
    · rw [hp.cell (by show Bx < _; omega) (by show Bx ≠ _; omega) (by show Bx ≠ _; omega)]
      exact cellOf' p4 rfl
    · obtain ⟨a, n', c', r1, r2⟩ := HRW.out k (by omega)
      exact ⟨a, n', c', by rw [hp.cell (by show gA < _; omega) (by show gA ≠ _; omega) (by show gA ≠ _; omega)]; exact r1, hk, r2, M, cur, hp, hmL, hM, hf⟩
  case assign =>
    intro x W K hK
    gi_wp2
    exact hK
  case body =>
    rintro m ⟨k, u⟩ o W ⟨hm, hou, M, cur, hp, hmL, hM, hf⟩
    obtain rfl : m = k + 1 := hm
    have hRl : (crw ws k).length = (row ws (k + 1)).length := by rw [← crw_row]; simp [wts]
    have hR2 : 2 ≤ (crw ws k).length := by rw [crw_eq, cmr_len, ← HNN.out]; omega
    have hRM : M ≤ (crw ws k).length := by rw [hRl]; exact hM
    have hR6 : (crw ws k).length ≤ 576 := by have := crw_len ws k; rw [← HNN.out] at this; omega
    have HNX := hide (pk_next (n := n) hM hf)
    have HLV : Hid (∀ j, j ≤ (crw ws k).length → lvs (crw ws k) j ≤ n ∧ lvs (crw ws k) j ≤ j) := fun j hj => by
      have := lvs_le ws k j hj
      rw [← HNN.out] at this
      exact ⟨this.1, this.2.1⟩
    obtain ⟨R, HRR⟩ : ∃ R, Hid (R = crw ws k) := ⟨_, rfl⟩
    have hou' : OC w5 0 u (crw ws k) := hou
    rw [← HRR.out] at hou' hR2 hRM hR6 HNX HLV
    obtain ⟨p1, p2, p3, p4, p5⟩ := HL5.out
    have hd' := HD.out
    obtain ⟨gr, cr, hu, _⟩ := hou'.get (i := 0) (by omega)
    have hu' : u = .slice (some ⟨gr, 0, none⟩) R.length cr := hu
    subst hu'
    have hgr1 : gr < w5.heap.size := (hou'.lt gr rfl).2
    have hgr2 : gr ≠ hL0 := oc_ne hou' p1
    have hgr3 : gr ≠ gN := oc_ne hou' p3
    have HOC : Hid (∀ (cur' : Nat → Nat) (W' : World), Pst w5 w5.heap.size hL0 gN n M cur' o W' → OC W' 0 (.slice (some ⟨gr, 0, none⟩) R.length cr) R) := fun cur' W' hp' => hp'.oc hou' fun j hj => by
      simp only [Value.ownBlock, Option.some.injEq] at hj
      subst hj
      exact ⟨hgr1, hgr2, hgr3⟩
    obtain ⟨_, _, hsh, hcr, hcr2⟩ := hou'.shape
    simp only [Value.slice.injEq] at hsh
    obtain ⟨-, -, rfl⟩ := hsh
    have HGL : Hid (∀ (M' : Nat) (cur' : Nat → Nat) (W' : World), Pst w5 w5.heap.size hL0 gN n M' cur' o W' → W'.cell? ⟨gL, 0, none⟩ = some (.slice (some ⟨hL0, 0, none⟩) n n) ∧ W'.cell? ⟨gN, 0, none⟩ = some (.int .i64 (M' : Int)) ∧ W'.frozen? ⟨gN, 0, none⟩ = false) := fun M' cur' W' hp' =>
      ⟨by rw [hp'.cell (by show gL < _; omega) (by show gL ≠ _; omega) (by show gL ≠ _; omega)]; exact cellOf' p2 rfl, cellOf' hp'.need rfl, frozenOf' hp'.need⟩
    have c0 := (HGL.out M cur W hp).2.1
    have HP := hide hp
    have HCB : Hid (∀ i, i < n → cur i ≤ 1000) := fun i hi => by
      have := hf i hi
      have h2 : F i ≤ 15 := by
        rw [HF.out]
        have := ct_le (sel ws L M0) i
        rw [sel_len] at this
        omega
      omega
    have HCUR : Hid (Pst w5 w5.heap.size hL0 gN n M (upto cur (lvs R 0)) o W) := by
      have e : lvs R 0 = 0 := by simp [lvs]
      rw [e, upto_zero]
      exact hp
    have hMc : M ≤ cr := by omega
    have hMm : (M : Int) ≤ (cr : Int) := by omega
    have hd2 : hL0 < w5.heap.size ∧ gN < w5.heap.size ∧ hL0 ≠ gN := by omega
    obtain ⟨dd, hdd⟩ : ∃ dd, dd = w5.heap.size := ⟨_, rfl⟩
    rw [← hdd] at HOC HGL HP HCUR hd2 ⊢
    clear hou hou' hp p1 p2 p3 p4 p5 hu hgr1 hgr2 hgr3 hdd hd' hRl hM hf
    gi_wp2
    gi_loopw [9, 29] (fun vl vi wr => ∃ j : Nat, j ≤ M ∧ vi = .int .i64 j ∧ vl = .int .i64 (lvs R j) ∧ Hid (Pst w5 dd hL0 gN n M (upto cur (lvs R j)) o wr)) (fun _ vi _ => M - (intOf vi).toNat)
    case atStart => exact ⟨0, Nat.zero_le _, rfl, by simp [lvs], HCUR⟩
    case round =>
      obtain ⟨j, hj, rfl, rfl, HPJ⟩ := hrel
      by_cases hlt : j < M
      · have hlt' : (j : Int) < (M : Int) := by omega
        obtain ⟨gr', cr', hsh, k1, k2⟩ := (HOC.out _ _ HPJ.out).get (i := j) (by omega)
        simp only [Value.slice.injEq, Option.some.injEq, Addr.mk.injEq, and_true] at hsh
        obtain ⟨rfl, -, rfl⟩ := hsh
        have hls := lvs_succ (R := R) (k := j) (by omega)
        have hl1 := HLV.out j (by omega)
        have hl2 := HLV.out (j + 1) (by omega)
        have HLS := hide hls
        rw [hls] at hl2
        obtain ⟨x, hx⟩ : ∃ x, x = (R.getD j (0, false)).1 := ⟨_, rfl⟩
        obtain ⟨bb, hbb⟩ : ∃ x, x = (R.getD j (0, false)).2 := ⟨_, rfl⟩
        rw [← hx] at k1
        rw [← hbb] at k2 hl2 HLS
        obtain ⟨lv, hlv⟩ : ∃ lv, lv = lvs R j := ⟨_, rfl⟩
        rw [← hlv] at hl1 hl2 HLS HPJ ⊢
        obtain ⟨sz, hsz⟩ : ∃ sz, sz = wr.heap.size := ⟨_, rfl⟩
        have HSZ := hide HPJ.out.size
        clear hls hx hbb hlv
        cases bb with
        | false =>
          have HNJ : Hid (lvs R (j + 1) = lv) := by show _ = _; rw [HLS.out]; rfl
          have HPN := hide (HPJ.out.alloc hd2.1 hd2.2.1 (.cells #[.int .i64 (x : Int), .bool false] 75))
          gi_wp2
          go_roundw
          case rel => exact ⟨j + 1, by omega, by go_num, by rw [HNJ.out], by rw [HNJ.out]; exact HPN⟩
          case measure => simp [intOf]; omega
        | true =>
          have HNJ : Hid (lvs R (j + 1) = lv + 1) := by show _ = _; rw [HLS.out]; rfl
          have hlvn : lv < n := by simp at hl2; omega
          have HPA := hide (HPJ.out.alloc hd2.1 hd2.2.1 (.cells #[.int .i64 (x : Int), .bool true] 75))
          have c1 := (HGL.out _ _ _ HPA.out).1
          have hoi := HPA.out.oi (by omega)
          have c2 := OI.get hoi (b := hL0) rfl (i := lv) (by rw [hls_len]; exact hlvn)
          rw [hls_gt _ hlvn] at c2
          have f2 := (OI.putg hoi (k := lv) (by rw [hls_len]; exact hlvn) 0).2.1
          have HPN := hide (HPA.out.inc hd2.1 hd2.2.2 hlvn)
          have hup : upto cur lv lv = cur lv := by simp [upto]
          rw [hup] at c2
          obtain ⟨cu, hcu⟩ : ∃ cu, cu = cur lv := ⟨_, rfl⟩
          rw [← hcu] at c2 HPN
          have hcub : cu ≤ 1000 := by rw [hcu]; exact HCB.out lv hlvn
          have hwc : IntKind.i64.wrap ((cu : Int) + 1) = (cu : Int) + 1 := by rw [IntKind.wrap_i64]; omega
          have hln : (lv : Int) < (n : Int) := by omega
          clear hoi hup hcu
          gi_wp2
          go_roundw
          case rel => exact ⟨j + 1, by omega, by go_num, by rw [HNJ.out]; go_num, by rw [HNJ.out]; exact HPN⟩
          case measure => simp [intOf]; omega
      · obtain rfl : j = M := by omega
        have hlt' : ¬ (j : Int) < (j : Int) := by omega
        obtain ⟨_, c1, f1⟩ := HGL.out _ _ _ HPJ.out
        obtain ⟨x1, x2⟩ := HNX.out
        have hl1 := HLV.out j (by omega)
        obtain ⟨lv, hlv⟩ : ∃ lv, lv = lvs R j := ⟨_, rfl⟩
        rw [← hlv] at hl1 x1 x2 HPJ ⊢
        have HPN := hide (HPJ.out.setN hd2.2.1 hd2.2.2 (2 * (j - lv)))
        have HX := hide (And.intro x1 x2)
        have w1 : IntKind.i64.wrap ((j : Int) - (lv : Int)) = (j : Int) - lv := by rw [IntKind.wrap_i64]; omega
        have w2 : IntKind.i64.wrap (2 * ((j : Int) - (lv : Int))) = ((2 * (j - lv) : Nat) : Int) := by rw [IntKind.wrap_i64]; omega
        have w3 : 2 * ((j : Int) - (lv : Int)) = ((2 * (j - lv) : Nat) : Int) := by omega
        obtain ⟨z, hz⟩ : ∃ z, z = 2 * (j - lv) := ⟨_, rfl⟩
        rw [← hz] at HPN w2 w3 HX
        clear hlv x1 x2 hz
        gi_wp2
        refine ⟨k, rfl, z, _, HPN.out, by omega, HX.out.1, HX.out.2⟩
  case done =>
    rintro o W ⟨M, cur, hp, hmL, hM, hf⟩
    obtain ⟨p1, p2, p3, p4, p5⟩ := HL5.out
    have hd' := HD.out
    have c0 : W.cell? ⟨gL, 0, none⟩ = some (.slice (some ⟨hL0, 0, none⟩) n n) := by
      rw [hp.cell (by show gL < _; omega) (by show gL ≠ _; omega) (by show gL ≠ _; omega)]
      exact cellOf' p2 rfl
    have hD := hp.dfr
    have hoi := hp.oi (by omega)
    have e : hls n cur = hls n F := by
      unfold hls
      refine List.map_congr_left fun i hi => ?_
      have := hf i (List.mem_range.1 hi)
      simp [sel, ct] at this
      rw [this]
    rw [e] at hoi
    have hpo : ∀ j, j ≠ w5.heap.size → (W.putObj w5.heap.size (.deferred none)).heap[j]? = W.heap[j]? := fun j hj => by
      show (W.heap.setIfInBounds w5.heap.size (.deferred none))[j]? = _
      rw [Array.getElem?_setIfInBounds_ne (fun e => hj e.symm)]
    have HFIN : Hid (OI (W.putObj w5.heap.size (.deferred none)) w.heap.size (.slice (some ⟨hL0, 0, none⟩) n n) (hls n F) ∧ Below w.heap.size w (W.putObj w5.heap.size (.deferred none))) := by
      have hLw : hL0 = w.heap.size := HHL.out.symm
      refine ⟨?_, ?_⟩
      · have h1 := hoi.move (w' := W.putObj w5.heap.size (.deferred none)) fun j hj => hpo j (by simp only [Value.ownBlock, Option.some.injEq] at hj; omega)
        refine ⟨h1.1, ?_⟩
        rcases h1.2 with q | ⟨g, cc, cc2, he, _, r⟩
        · simp at q
        · simp only [Value.slice.injEq, Option.some.injEq, Addr.mk.injEq, and_true] at he
          exact .inr ⟨g, cc, cc2, by simp only [Value.slice.injEq, Option.some.injEq, Addr.mk.injEq, and_true]; exact he, by omega, r⟩
      · refine ⟨hp.os.trans p5.os, hp.tape.trans p5.tape, hp.output.trans p5.output, ?_, fun j hj => ?_⟩
        · show w.heap.size ≤ (W.heap.setIfInBounds w5.heap.size (.deferred none)).size
          have := hp.size
          simp
          omega
        · rw [hpo j (by omega), hp.blk j (by omega) (by omega) (by omega), p5.block j (by omega)]
    clear hf hM hp e hoi hpo p1 p2 p3 p4 p5 hd'
    gi_wp2
    refine ⟨by simp, .inl ⟨_, _, rfl, run_takeDeferred hD, ?_⟩⟩
    exact ⟨_, results_tmp rfl _ _ _, _, _, rfl, HFIN.out.1, HFIN.out.2⟩
  case stop =>
    rintro c o W h
    exact h.elim
end Go.Proofs.Ytgengoffkoonfab
