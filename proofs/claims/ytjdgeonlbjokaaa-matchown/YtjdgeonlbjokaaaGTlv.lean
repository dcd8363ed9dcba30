import Derived.Test.YtjdgeonlbjokaaaGTen
namespace Go.Proofs.Ytjdgeonlbjokaaa
open Go.RowKit Go.Maps
set_option maxRecDepth 20000
set_option linter.unusedVariables false

/-- One place less. -/
theorem Tlr.leftOut {w w3 w7 : World} {base g m N N' W C a n nx : Nat} {v u : Value} {D : List Int} {z : Bool} {f : Int × Int × Int → Value} (h : Tlr w base g m N v D W C z f a (n + 1) nx) (hk : Key3 (thk D a)) (hbw : base ≤ w.heap.size)
    (h3 : Below w.heap.size w w3) (ho : OX w3 base u (ins (plc D (thk D a) (a + 1) n))) (hub : ∀ b, u.ownBlock = some b → (f (thk D a)).ownBlock = some b) (h7 : MP w7 m N' (fup f (thk D a) u)) (hgr : w3.grownBy w7 (some m)) :
    Tlr w7 base g m N' v D W C z (fup f (thk D a) u) (a + 1) n nx ∧ Below base w w7 ∧ FT g m f (fup f (thk D a) u) w w7 := by
  have hs3 := h3.size
  have hs7 := hgr.size
  have hrow := h.rows _ hk
  have hfr : ∀ b, b < w.heap.size → b ≠ m → w7.heap[b]? = w.heap[b]? := fun b hb hbm => (hgr.block b (by omega) (fun e => hbm (by injection e))).trans (h3.block b hb)
  have ho7 : OX w7 base u (ins (plc D (thk D a) (a + 1) n)) := ho.move fun b hb => hgr.block b (ho.lt b hb).2 fun e => by
    injection e with e
    exact (h.off _ b hk (hub b hb)).2 e
  refine ⟨h.turn hk hbw (fun b h1 h2 _ => hfr b h1 h2) ho7 (fun b hb => .inl (hub b hb)) h7 fun q hq hne => (plc_leave_ne (fun e => hne e.symm)).symm, ⟨hgr.os.trans h3.os, hgr.tape.trans h3.tape, hgr.output.trans h3.output, by omega, fun b hb => ?_⟩, FT.turn hk (by omega) (fun b h1 h2 _ => hfr b h1 h2) (fun b hb => .inl (hub b hb))⟩
  exact hfr b (by omega) (by have := h.bm; omega)

set_option maxHeartbeats 4000000 in
theorem leave_any (w : World) (base g m N W C a n nx : Nat) (v : Value) (D : List Int) (z : Bool) (f : Int × Int × Int → Value) (h : Tlr w base g m N v D W C z f a (n + 1) nx) (hB : Byt D) (hp : a + 3 ≤ D.length) (hn : D.length ≤ 1000000000) (hN : N ≤ 1000000000) (hnn : n ≤ 1000000000) (hbw : base ≤ w.heap.size) :
    Calls Try.prog 40 #[.pointer (some ⟨g, 0, none⟩), .int .i64 (a : Int)] w fun e w' => e = .returned (.tuple #[]) ∧ ∃ f', Tlr w' base g m (N + 1) v D W C z f' (a + 1) n nx ∧ Below base w w' ∧ FT g m f f' w w' := by
  have HT := hide h
  have HKY := hide (Tlr.key hB a)
  obtain ⟨hgl, hml⟩ := h.lt
  have hgm := h.gm
  have c0 := h.box.cells.1
  have HTH := hide (three_any v D a w h.dat hp hn)
  rw [thr_kv] at HTH
  have HLV := hide (plc_leave D a n)
  obtain ⟨k, HK⟩ : ∃ k, Hid (k = thk D a) := ⟨_, rfl⟩
  rw [← HK.out] at HTH HKY HLV
  have hrl : (plc D k (a + 1) n).length ≤ n := plc_len D k (a + 1) n
  clear h hB
  go_enter Try.func40, Try.ntmps40
  go_wp2_with fail
  refine HTH.out.mono ?_
  rintro e w2 ⟨rfl, b2⟩
  obtain ⟨k0, k1, k2⟩ := k
  unfold kv
  simp only
  have HW3 : Hid (Below w.heap.size w (w2.alloc (.cells #[.int .u8 k0, .int .u8 k1, .int .u8 k2] 69))) := b2.alloc b2.size _
  obtain ⟨w3, hw3⟩ : ∃ w3, w2.alloc (.cells #[.int .u8 k0, .int .u8 k1, .int .u8 k2] 69) = w3 := ⟨_, rfl⟩
  have kb : w3.heap[w2.heap.size]? = some (.cells #[.int .u8 k0, .int .u8 k1, .int .u8 k2] 69 (0, 0)) := by rw [← hw3]; exact heap_alloc_new w2 _
  have hz3 : w2.heap.size < w3.heap.size := by rw [← hw3]; simp
  have hz2 := b2.size
  rw [hw3] at HW3
  obtain ⟨q, hq⟩ : ∃ q, q = w2.heap.size := ⟨_, rfl⟩
  rw [← hq] at kb hz3 hz2
  have HT3 := hide (HT.out.far HW3.out)
  clear HTH b2
  have HMP : Hid (∀ W : World, W.heap[m]? = w3.heap[m]? → MP W m N f) := fun W hW => HT3.out.map.move hW
  have l4 : w3.cell? ⟨g, 4, none⟩ = some (.map (some m)) := HT3.out.box.cells.2.2.2.2.1
  have q0 : w3.cell? ⟨q, 0, none⟩ = some (.int .u8 k0) := cellIn kb rfl
  have q1 : w3.cell? ⟨q, 1, none⟩ = some (.int .u8 k1) := cellIn kb rfl
  have q2 : w3.cell? ⟨q, 2, none⟩ = some (.int .u8 k2) := cellIn kb rfl
  have l4d : w3.drew.cell? ⟨g, 4, none⟩ = some (.map (some m)) := l4
  have q0d : w3.drew.cell? ⟨q, 0, none⟩ = some (.int .u8 k0) := q0
  have q1d : w3.drew.cell? ⟨q, 1, none⟩ = some (.int .u8 k1) := q1
  have q2d : w3.drew.cell? ⟨q, 2, none⟩ = some (.int .u8 k2) := q2
  have HROW := hide (HT3.out.rows _ HKY.out)
  rw [HLV.out] at HROW
  obtain ⟨L, HL⟩ : ∃ L, Hid (L = plc D (k0, k1, k2) (a + 1) n) := ⟨_, hide rfl⟩
  rw [← HL.out] at HROW hrl
  obtain ⟨b, o, cap, HFK, hlc, hcm⟩ : ∃ b o cap : Nat, Hid (f (k0, k1, k2) = .slice (some ⟨b, o, none⟩) (L.length + 1) cap) ∧ L.length + 1 ≤ cap ∧ cap ≤ 9223372036854775807 := by
    rcases HROW.out with ⟨_, e⟩ | ⟨gg, ff, cap, cur, e, h1, h2, h3, h4, h5, h6⟩
    · simp [ins] at e
    · refine ⟨gg, ff, cap, by show _ = _; rw [e]; simp [ins], by simp [ins] at h3; exact h3, by unfold maxLen at h4; omega⟩
  have hlk : (Instr.lookup 59 (.map (some m)) (kv (k0, k1, k2)) false).run Try.prog w3 = .ok (f (k0, k1, k2)) w3 := (HMP.out w3 rfl).look HKY.out
  have hlkd : (Instr.lookup 59 (.map (some m)) (kv (k0, k1, k2)) false).run Try.prog w3.drew = .ok (f (k0, k1, k2)) w3.drew := (HMP.out w3.drew rfl).look HKY.out
  rw [HFK.out] at hlk hlkd
  unfold kv at hlk hlkd
  have hcap1 : (1 : Int) ≤ (cap : Int) := by omega
  have hLn : L.length ≤ 1000000000 := by omega
  by_cases h0 : 0 < L.length
  · have HOX : Hid (OX w3 base (.slice (some ⟨b, o + 1, none⟩) L.length (cap - 1)) (ins L)) := by
      have hr := HROW.out
      rw [HFK.out] at hr
      have e : (ins (a :: L)) = (a : Int) :: ins L := rfl
      rw [e] at hr
      have := OX.tail (w := w3) (base := base) (g := b) (f := o) (cap := cap) (x := (a : Int)) (l := ins L) (by rw [List.length_cons, ins_len]; exact hr)
      rw [ins_len] at this
      exact this
    obtain ⟨d6, hd6⟩ := HOX.out.tok
    obtain ⟨w7, hS7, hM7, hG7⟩ := (HMP.out w3.drew.drew rfl).store hN HKY.out hd6
    unfold kv at hS7
    have HM7 := hide hM7
    have HG7 := hide hG7
    have hcn : ¬ cap = 1 := by omega
    have hl0 : (0 : Int) < (L.length : Int) := by omega
    clear hM7 hG7 kb
    go_wp2
    rw [← hq]
    clear hw3 hq
    go_region
    all_goals
      go_wp2
      go_region
      all_goals
        go_wp2
        (try simp only [Exit.inBlock, Exit.then]); refine bodyPost_ret (results_none rfl _ _ _) rfl ?_
        have hm7 := HM7.out
        have hky := HKY.out
        have hox := HOX.out
        have hfk := HFK.out
        rw [HK.out] at hm7 hky hfk
        rw [HL.out, HK.out] at hox
        rw [HL.out, HK.out] at hm7 hfk
        exact ⟨rfl, _, HT.out.leftOut hky hbw (HW3.out.drew.drew) hox (fun x hx => by rw [hfk]; exact hx) hm7 HG7.out⟩
  · obtain ⟨w7, hS7, hM7, hG7⟩ := (HMP.out w3.drew.drew rfl).drop HKY.out 0
    unfold kv at hS7
    have HM7 := hide hM7
    have HG7 := hide hG7
    have hl0 : ¬ (0 : Int) < (L.length : Int) := by omega
    have HL0 : Hid (L.length = 0) := by show _ = _; omega
    clear hM7 hG7 kb
    by_cases hc1 : cap = 1
    · subst hc1
      go_wp2
      rw [← hq]
      clear hw3 hq
      go_region
      all_goals
        go_wp2
        go_region
        all_goals
          go_wp2
          go_end0
          have hm7 := HM7.out
          have hky := HKY.out
          rw [HK.out] at hm7 hky
          have hl := HL.out
          rw [HK.out] at hl
          exact ⟨rfl, _, HT.out.leftOut (N' := N + 1) hky hbw (HW3.out.drew.drew) (by rw [← hl, List.length_eq_zero_iff.1 HL0.out]; exact OX.nil _ _) (fun x hx => by cases hx) (hm7.mono (by omega)) HG7.out⟩
    · have hcn : ¬ cap = 1 := hc1
      go_wp2
      rw [← hq]
      clear hw3 hq
      go_region
      all_goals
        go_wp2
        go_region
        all_goals
          go_wp2
          go_end0
          have hm7 := HM7.out
          have hky := HKY.out
          rw [HK.out] at hm7 hky
          have hl := HL.out
          rw [HK.out] at hl
          exact ⟨rfl, _, HT.out.leftOut (N' := N + 1) hky hbw (HW3.out.drew.drew) (by rw [← hl, List.length_eq_zero_iff.1 HL0.out]; exact OX.nil _ _) (fun x hx => by cases hx) (hm7.mono (by omega)) HG7.out⟩
end Go.Proofs.Ytjdgeonlbjokaaa

