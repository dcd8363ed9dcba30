import Derived.Test.YteiajeeincapoacSettle
namespace Go.Proofs.Yteiajeeincapoac
open Go.RowKit Go.Maps

theorem invSl (v : Value) (y : DataW Unit × List MemPlace) (h : tokR v = some y) : ∃ c : Option Nat × Nat × Nat, v = .slice (c.1.map fun b => ⟨b, 0, none⟩) c.2.1 c.2.2 := by
  unfold tokR at h
  split at h
  · exact ⟨(none, 0, 0), rfl⟩
  · rename_i b n c
    exact ⟨(some b, n, c), rfl⟩
  · cases h

theorem wpList_next_tok (w : World) {ops : Array Oper} {rest : List Oper} {o : Oper} {a : Act} {Q : Exit → Act → World → Prop} (hg : o.guard = none) (it : Operand) (hop : o.op = Op.next it false) (b r n : Nat) (D : DataW Unit) (left : Lit → Bool) (cnt : Nat)
    (hit : a.eval it = .pointer (some ⟨r, 0, none⟩)) (h : w.ranges Try.prog 3 tokR b r n D left cnt)
    (hDone : Hid (∀ kl, left kl = false) → wpList Try.prog ops Q rest (a.put o.dst (.tuple #[.bool false])) w)
    (hMore : ∀ (x : Int) (ao : Option Addr) (k c : Nat) (w' : World), Hid (left (.int .i64 x) = true ∧ ∃ cnt', w'.ranges Try.prog 3 tokR b r n D (fun z => left z && !z.sameKey (.int .i64 x)) cnt' ∧ cnt' < cnt ∧ w.grownBy w' (some r) ∧ w'.heap.size = w.heap.size) →
      (Instr.entry (.pointer (some ⟨r, 0, none⟩))).run Try.prog w' = .ok (.tuple #[.int .i64 x, .slice ao k c]) w' → wpList Try.prog ops Q rest (a.put o.dst (.tuple #[.bool true, .int .i64 x, .slice ao k c])) w') :
    wpList Try.prog ops Q (o :: rest) a w :=
  wpList_next_ranges w hg it hop 3 lawK tokR (Value.int .i64) (fun c : Option Nat × Nat × Nat => .slice (c.1.map fun b => ⟨b, 0, none⟩) c.2.1 c.2.2) (fun key kl hk => by obtain ⟨x, rfl, _⟩ := Maps.keyOf_int_inv Try.underlying3 hk; exact ⟨x, rfl⟩) invSl b r n D left cnt hit h
    (fun _ hl => hDone hl) (fun x c kl y w' cnt' hkey hlk hv hat hrg hlt hgr hsz hen => by
      obtain ⟨x', ex, rfl, _⟩ := Maps.keyOf_int_inv Try.underlying3 hkey
      cases ex
      exact hMore x _ _ _ w' ⟨hlk, cnt', hrg, hlt, hgr, hsz⟩ hen)

theorem copy_mid {W : World} {a' an : Option Addr} {N c' cn fr to : Nat} {cur now : List Int} (h1 : OB W 0 (.slice a' N c') cur) (h2 : OB W 0 (.slice an N cn) now) (hl : cur.length = N) (hl2 : now.length = N) (h3 : fr ≤ to) (h4 : to ≤ N)
    (hne : ∀ k, (Value.slice a' N c').ownBlock = some k → (Value.slice an N cn).ownBlock ≠ some k) :
    ∃ W', (Builtin.copy_ #[22, 22] 3 #[.slice (if c' = fr then a' else Option.map (fun x => x.add fr) a') (to - fr) (c' - fr), .slice (if cn = fr then an else Option.map (fun x => x.add fr) an) (to - fr) (cn - fr)]).run Try.prog W = .ok (goInt (to - fr : Nat)) W' ∧
      OB W' 0 (.slice a' N c') (splice cur fr ((now.drop fr).take (to - fr))) ∧ W.grownBy W' (Value.slice a' N c').ownBlock := by
  by_cases h0 : to - fr = 0
  · rw [h0]
    refine ⟨W, run_copy_none (P := Try.prog) W 22 22 3 5 _ _ 0 _ 0 _ Try.underlying22 sizeByte (by simp), ?_, World.grownBy.refl _ _⟩
    rw [List.take_zero]
    have : splice cur fr [] = cur := by simp [splice]
    rw [this]
    exact h1
  · obtain ⟨gd, cc, sp, e1, k1, k2, k3⟩ := h1.row (by omega)
    rw [hl] at e1
    simp only [Value.slice.injEq] at e1
    obtain ⟨rfl, -, rfl⟩ := e1
    obtain ⟨ao, cap, e2, q1, q2, q3, q4⟩ := h2.sb
    rw [hl2] at e2 q1 q4
    simp only [Value.slice.injEq] at e2
    obtain ⟨rfl, -, rfl⟩ := e2
    cases an with
    | none => have := q3 rfl; omega
    | some y =>
    obtain ⟨bn, on, rfl⟩ := addr_lit (q4 y rfl 0 (by omega))
    have i1 : ¬ c' = fr := by omega
    have i2 : ¬ cn = fr := by omega
    rw [if_neg i1, if_neg i2]
    simp only [Option.map_some, Addr.add_lit, Nat.zero_add]
    obtain ⟨cs, hcs⟩ : ∃ cs, cs = ((now.drop fr).take (to - fr)).map (Value.int .u8) := ⟨_, rfl⟩
    have hlen : cs.length = to - fr := by rw [hcs]; simp; omega
    obtain ⟨W', r1, r2, r3⟩ := run_copy_gr (P := Try.prog) W 22 22 3 5 Try.underlying22 sizeByte (some ⟨gd, fr, none⟩) (some ⟨bn, on + fr, none⟩) (to - fr) (c' - fr) (to - fr) (cn - fr) gd fr _ 5 k3 cs (by rw [hlen]; show _ = min _ _; omega)
      (fun _ => ⟨rfl, _, rfl, fun j u hj => by
        rw [hcs] at hj
        obtain ⟨hjl, rfl⟩ := List.getElem?_eq_some_iff.1 hj
        have hjl' : j < to - fr := by simp at hjl; omega
        have := q4 _ rfl (fr + j) (by omega)
        rw [Addr.add_lit] at this
        rw [Addr.add_lit, Nat.add_assoc, this]
        simp [List.getD, show fr + j < now.length by omega]⟩) (by rw [hlen]; simp; omega) (fun u hu => by rw [hcs] at hu; obtain ⟨n, _, rfl⟩ := List.mem_map.1 hu; rfl)
    rw [hlen] at r1
    refine ⟨W', r1, ?_, r3⟩
    have e3 : splice (cur.map (Value.int .u8) ++ sp) fr cs = (splice cur fr ((now.drop fr).take (to - fr))).map (Value.int .u8) ++ sp := by
      rw [map_splice, splice_append _ _ _ _ (by rw [hlen]; simp; omega), hcs]
    rw [e3] at r2
    have hls : (splice cur fr ((now.drop fr).take (to - fr))).length = N := by rw [length_splice _ _ _ (by simp; omega), hl]
    have := OB.of_row (l := splice cur fr ((now.drop fr).take (to - fr))) k1 (by rw [hls, ← hl]; exact k2) r2
    rw [hls] at this
    exact this

set_option maxHeartbeats 2000000 in
theorem settle_any {w : World} {K : Nat → Nat} {g : Nat} {st : St} (h : Rep w K g st) (hP : PInv st) (hD : DInv st) :
    Calls Try.prog 50 #[.pointer (some ⟨g, 0, none⟩)] w fun e w' => e = .returned (.tuple #[]) ∧ ∃ K', Rep w' K' g { st with dur := st.now, pcs := fun _ => [], sizes := [], ents := 0 } ∧ Fr K K' w w' := by
  obtain ⟨vn, vd, m, vs, D, hV⟩ := h
  obtain ⟨c0, c1, c2, c3, c4, c5, c6, c7, c8⟩ := hV.dc.at
  have hfz := hV.dc.free
  obtain ⟨an, cn, hvn, hn1, hn2, _⟩ := hV.hn.sb
  unfold maxLen at hn2
  obtain ⟨ad, cd, hvd, hd1, hd2, _⟩ := hV.hd.sb
  subst hvn hvd
  have hcap := hP.cap
  have hnow := hP.now
  have hdur := hP.dur
  have HV := hide hV
  have HDI := hide hD
  clear hV hP hD c0 c3 c4 c5 c6 c7 c8
  obtain ⟨N, hN⟩ : ∃ N, st.now.length = N := ⟨_, rfl⟩
  rw [hN] at c1 hn1 hnow HV
  have HN := hide hN
  clear hN
  have hmm := @run_makeMap Try.prog
  go_enter Try.func50, Try.ntmps50
  go_wp2_with fail
  refine (resized_any N HV.out.hd (by omega) (by omega)).mono ?_
  rintro e w1 ⟨a', c', rfl, hob, hgr, hloc⟩
  have hne : some g ≠ (Value.slice ad st.dur.length cd).ownBlock := fun e => by
    have := HV.out.kd g e.symm
    rw [HV.out.kg] at this
    omega
  have hdw1 : DC w1 g st.cap (.slice an N cn) (.slice ad st.dur.length cd) m vs st.calls st.dead st.fused st.left := (hgr.block g HV.out.dc.lt hne).trans HV.out.dc
  obtain ⟨_, _, e2, _⟩ := hdw1.at
  have f1 := hdw1.free
  obtain ⟨K1, hV1, hF1⟩ := Rep.setDur HV.out hob hgr hloc
  obtain ⟨W1, hW1⟩ : ∃ W1, W1 = w1.setCell ⟨g, 2, none⟩ (.slice a' N c') := ⟨_, rfl⟩
  rw [← hW1] at hV1 hF1
  have HW1 := hide hW1
  have HV1 := hide hV1
  have HF1 := hide hF1
  obtain ⟨_, q1, q2, q3, _⟩ := hV1.dc.at
  obtain ⟨n1, hn1', hmap1⟩ := hV1.hm
  have HM1 := hide hmap1
  clear hV1 hF1 hW1 hob hgr hloc hne hdw1 c1 c2 hfz hmap1
  go_wp2_with (first | (at_range; rw [← HW1.out]; refine wpList_range_own _ rfl _ 59 rfl 3 75 lawK Try.underlying59 _ m n1 D rfl HM1.out ?_; intro w3 hrg0 hg0 hs0))
  have hr0 : W1.heap.size < w3.heap.size := hrg0.lt
  have HRG0 := hide hrg0
  have HG0 := hide hg0
  have hob3 : OB w3 0 (.slice a' N c') (resz st.dur N) := HV1.out.hd.move fun k hk => HG0.out.block k (HV1.out.sup k (by rw [HV1.out.kd k hk]; omega)) (by simp)
  have HOB3 := hide hob3
  have hrel0 : Rel N st.now (resz st.dur N) D (Maps.has D) (resz st.dur N) := by
    refine ⟨length_resz _ _, fun i hi => .inr ⟨rfl, ?_⟩⟩
    cases Maps.has D (key i)
    · exact .inr rfl
    · exact .inl rfl
  have HREL0 := hide hrel0
  clear hrg0 hg0 hob3 hrel0
  go_frame
  go_loopw [3] (fun _ wr => ∃ (left : Lit → Bool) (cnt : Nat) (cur : List Int), Hid (wr.ranges Try.prog 3 tokR m W1.heap.size n1 D left cnt) ∧ Hid (OB wr 0 (.slice a' N c') cur) ∧ Hid (Rel N st.now (resz st.dur N) D left cur) ∧ Hid (W1.grownBy wr (Value.slice a' N c').ownBlock) ∧ Hid (∀ kl, left kl = true → Maps.has D kl = true)) (fun _ wr => wr.rangeLeft m W1.heap.size)
  case atStart => exact ⟨Maps.has D, Maps.size D, resz st.dur N, HRG0, HOB3, HREL0, HG0.out.but _, fun _ h => h⟩
  case round =>
    obtain ⟨left, cnt, cur, HRG, HOB, HREL, HGR, HLF⟩ := hrel
    clear HRG0 HOB3 HREL0 HG0 hr0 q1 q2 q3
    go_wp2_with (first | (at_next; refine wpList_next_tok _ rfl _ rfl m W1.heap.size n1 D left cnt rfl HRG.out ?_ ?_))
    · intro HL0
      have hcur : cur = st.now := by
        refine HREL.out.finish HN.out HL0.out fun i hi hh => ?_
        have := has_false HV1.out (i / 512) hh
        have h2 := HDI.out i (by rw [HN.out]; exact hi) this
        rw [HN.out] at h2
        exact h2
      rw [hcur] at HOB
      clear hcur HREL HLF
      have hgl : g < wr.heap.size := Nat.lt_of_lt_of_le HV1.out.dc.lt HGR.out.size
      have hgne : some g ≠ (Value.slice a' N c').ownBlock := fun e => by have := HV1.out.kd g e.symm; rw [HV1.out.kg] at this; omega
      have hdr : DC wr g st.cap (.slice an N cn) (.slice a' N c') m vs st.calls st.dead st.fused st.left := (HGR.out.block g HV1.out.dc.lt hgne).trans HV1.out.dc
      obtain ⟨_, _, _, t3, t4, _⟩ := hdr.at
      have tf := hdr.free
      have HDR := hide hdr
      clear hdr
      go_wp2
      go_end0
      have hd2 := (HDR.out.set.2.2.1 wr.heap.size).set.2.2.2.1 (.slice none 0 0)
      obtain ⟨Wa, hWa⟩ : ∃ Wa, Wa = (wr.setCell ⟨g, 3, none⟩ (.map (some wr.heap.size))).setCell ⟨g, 4, none⟩ (.slice none 0 0) := ⟨_, rfl⟩
      rw [← hWa] at hd2 ⊢
      have hsa : Wa.heap.size = wr.heap.size := by rw [hWa, size_setCell, size_setCell]
      have hka : ∀ q, q ≠ g → Wa.heap[q]? = wr.heap[q]? := fun q hq => by rw [hWa, setCell_others _ _ _ _ q hq, setCell_others _ _ _ _ q hq]
      have hext : Wa.os = wr.os ∧ Wa.tape = wr.tape ∧ Wa.output = wr.output := by rw [hWa]; exact ⟨rfl, rfl, rfl⟩
      have hbb : Below Wa.heap.size Wa (Wa.alloc (.map #[] 0)) := (Below.refl _ _).alloc (Nat.le_refl _) _
      have hzr := HGR.out.size
      obtain ⟨K5, r5, f5⟩ := Rep.settled HV1.out (W := Wa.alloc (.map #[] 0)) (m' := wr.heap.size) (l := st.now) (hd2.below hbb (Nat.le_refl _)) (by rw [← hsa]; exact heap_alloc_new _ _) hzr (by rw [size_alloc']; omega)
        ((HOB.out.move fun q hq => hka q (fun e => by
          have h1 := HV1.out.kd q hq
          rw [e, HV1.out.kg] at h1
          omega)).below hbb (Nat.le_refl _))
        (fun q hq hne1 hne2 => by
          rw [hbb.block q (by omega), hka q hne1]
          exact HGR.out.block q hq hne2) (hext.1.trans HGR.out.os) (hext.2.1.trans HGR.out.tape) (hext.2.2.trans HGR.out.output)
      exact ⟨rfl, K5, r5, HF1.out.trans f5⟩
    · intro x ao k c w4 HX hen
      obtain ⟨s, hs40, hx⟩ : ∃ s : Nat, s ≤ 40000 ∧ x = (s : Int) := by
        obtain ⟨s, h1, h2⟩ := HV1.out.keys _ (HLF.out _ HX.out.1)
        simp only [Lit.int.injEq, true_and] at h2
        exact ⟨s, h1, h2⟩
      subst hx
      have hg4 := HX.out.2
      obtain ⟨cnt4, hrg4, hlt4, hgr4, hsz4⟩ := hg4
      have hgl : g < w4.heap.size := by have := HV1.out.dc.lt; have := HGR.out.size; omega
      have hrne : ∀ q, q < W1.heap.size → some q ≠ some W1.heap.size := fun q hq e => by have := Option.some.inj e; omega
      have hgne : some g ≠ (Value.slice a' N c').ownBlock := fun e => by have := HV1.out.kd g e.symm; rw [HV1.out.kg] at this; omega
      have HK4 : Hid (∀ q, q < W1.heap.size → some q ≠ (Value.slice a' N c').ownBlock → w4.heap[q]? = W1.heap[q]?) := fun q hq hne => (hgr4.block q (by have := HGR.out.size; omega) (hrne q hq)).trans (HGR.out.block q hq hne)
      have hdr : DC w4 g st.cap (.slice an N cn) (.slice a' N c') m vs st.calls st.dead st.fused st.left := (HK4.out g HV1.out.dc.lt hgne).trans HV1.out.dc
      obtain ⟨_, t1, t2, _⟩ := hdr.at
      have hobd : OB w4 0 (.slice a' N c') cur := HOB.out.move fun q hq => hgr4.block q (HOB.out.lt q hq).2 (hrne q (HV1.out.sup q (by rw [HV1.out.kd q hq]; omega)))
      have hobn : OB w4 0 (.slice an N cn) st.now := HV1.out.hn.move fun q hq => HK4.out q (HV1.out.sup q (by rw [HV1.out.kn q hq]; omega)) (fun e => by
        have h2 := HV1.out.kn q hq
        have h3 := HV1.out.kd q e.symm
        omega)
      have HOBD := hide hobd
      have HOBN := hide hobn
      have HRG4 := hide hrg4
      have HGR4 := hide hgr4
      clear hdr hobd hobn hrg4 hgr4
      have hc'1 : (N : Int) ≤ (c' : Int) := by
        obtain ⟨q1, q2, q3, q4, _⟩ := HOBD.out.sb
        rw [HREL.out.1] at q3 q4
        simp only [Value.slice.injEq] at q3
        omega
      have hlen : cur.length = N := HREL.out.1
      have HNE : Hid (∀ q, (Value.slice a' N c').ownBlock = some q → (Value.slice an N cn).ownBlock ≠ some q) := fun q h1 h2 => by
        have h3 := HV1.out.kd q h1
        have h4 := HV1.out.kn q h2
        omega
      have HEND : Hid (∀ w5, w4.drew.grownBy w5 (Value.slice a' N c').ownBlock → OB w5 0 (.slice a' N c') (splice cur (min (s * 512) N) ((st.now.drop (min (s * 512) N)).take (min (min (s * 512) N + 512) N - min (s * 512) N))) → ∃ (left : Lit → Bool) (cnt : Nat) (cur : List Int), (Hid (w5.ranges Try.prog 3 tokR m W1.heap.size n1 D left cnt) ∧ Hid (OB w5 0 (.slice a' N c') cur) ∧ Hid (Rel N st.now (resz st.dur N) D left cur) ∧ Hid (W1.grownBy w5 (Value.slice a' N c').ownBlock) ∧ Hid (∀ kl, left kl = true → Maps.has D kl = true)) ∧ w5.rangeLeft m W1.heap.size < wr.rangeLeft m W1.heap.size) := by
        intro w5 hg5 hob5
        have n1' : some m ≠ (Value.slice a' N c').ownBlock := fun e => by have := HV1.out.kd m e.symm; rw [HV1.out.km] at this; omega
        have n2' : some W1.heap.size ≠ (Value.slice a' N c').ownBlock := fun e => by
          have h1 := HV1.out.kd _ e.symm
          have := HV1.out.sup _ (by rw [h1]; omega)
          omega
        have hg5' : w4.grownBy w5 (Value.slice a' N c').ownBlock := ⟨hg5.os, hg5.tape, hg5.output, hg5.size, hg5.block⟩
        have hr5 := HRG4.out.kept hg5' n1' n2'
        have hz := HGR.out.size
        refine ⟨_, cnt4, _, ⟨hr5, hob5, HREL.out.step HN.out s, ⟨hg5'.os.trans (HGR4.out.os.trans HGR.out.os), hg5'.tape.trans (HGR4.out.tape.trans HGR.out.tape), hg5'.output.trans (HGR4.out.output.trans HGR.out.output), by have := hg5'.size; omega, fun q hq hne => (hg5'.block q (by omega) hne).trans (HK4.out q hq hne)⟩, fun kl hk => HLF.out kl (by simp only [Bool.and_eq_true] at hk; exact hk.1)⟩, ?_⟩
        rw [hr5.left_eq, HRG.out.left_eq]
        exact hlt4
      by_cases hA : s * 512 ≤ N
      · by_cases hB : s * 512 + 512 ≤ N
        · have i1 : (s : Int) * 512 ≤ (N : Int) := by omega
          have i2 : (s : Int) * 512 + 512 ≤ (N : Int) := by omega
          obtain ⟨fr, hfr⟩ : ∃ fr, s * 512 = fr := ⟨_, rfl⟩
          obtain ⟨to, hto⟩ : ∃ to, s * 512 + 512 = to := ⟨_, rfl⟩
          have HFR : Hid ((s : Int) * 512 = (fr : Int)) := by show _ = _; omega
          have HTO : Hid ((s : Int) * 512 + 512 = (to : Int)) := by show _ = _; omega
          have j1 : (fr : Int) ≤ (to : Int) := by omega
          have j2 : (to : Int) ≤ (c' : Int) := by omega
          have j3 : (to : Int) ≤ (cn : Int) := by omega
          have j4 : (0 : Int) ≤ (fr : Int) := by omega
          obtain ⟨w5, hcp, hob5, hgr5⟩ := copy_mid (W := w4.drew) (fr := fr) (to := to) HOBD.out HOBN.out hlen HN.out (by omega) (by omega) HNE.out
          have HFIN := hide (HEND.out w5 hgr5 (by rw [show min (s * 512) N = fr by omega, show min (fr + 512) N = to by omega]; exact hob5))
          clear hob5 hgr5 hfr hto hA hB
          go_wp2_with fail
          rw [HTO.out, HFR.out]
          go_region
          all_goals
            obtain ⟨left5, cnt5, cur5, hrel5, hmeas5⟩ := HFIN.out
            go_wp2
            go_roundw
            case rel => exact ⟨left5, cnt5, cur5, hrel5⟩
            case measure => exact hmeas5
        · have i1 : (s : Int) * 512 ≤ (N : Int) := by omega
          have i2 : ¬ (s : Int) * 512 + 512 ≤ (N : Int) := by omega
          obtain ⟨fr, hfr⟩ : ∃ fr, s * 512 = fr := ⟨_, rfl⟩
          have HFR : Hid ((s : Int) * 512 = (fr : Int)) := by show _ = _; omega
          have j1 : (fr : Int) ≤ (N : Int) := by omega
          have j3 : (N : Int) ≤ (cn : Int) := by omega
          have j4 : (0 : Int) ≤ (fr : Int) := by omega
          obtain ⟨w5, hcp, hob5, hgr5⟩ := copy_mid (W := w4.drew) (fr := fr) (to := N) HOBD.out HOBN.out hlen HN.out (by omega) (by omega) HNE.out
          have HFIN := hide (HEND.out w5 hgr5 (by rw [show min (s * 512) N = fr by omega, show min (fr + 512) N = N by omega]; exact hob5))
          clear hob5 hgr5 hfr hA hB
          go_wp2_with fail
          rw [HFR.out]
          go_region
          all_goals
            obtain ⟨left5, cnt5, cur5, hrel5, hmeas5⟩ := HFIN.out
            go_wp2
            go_roundw
            case rel => exact ⟨left5, cnt5, cur5, hrel5⟩
            case measure => exact hmeas5
      · have i1 : ¬ (s : Int) * 512 ≤ (N : Int) := by omega
        have i2 : ¬ (N : Int) + 512 ≤ (N : Int) := by omega
        have j3 : (N : Int) ≤ (cn : Int) := by omega
        have j4 : (0 : Int) ≤ (N : Int) := by omega
        obtain ⟨w5, hcp, hob5, hgr5⟩ := copy_mid (W := w4.drew) (fr := N) (to := N) HOBD.out HOBN.out hlen HN.out (by omega) (by omega) HNE.out
        rw [Nat.sub_self] at hcp
        have HFIN := hide (HEND.out w5 hgr5 (by rw [show min (s * 512) N = N by omega, show min (N + 512) N = N by omega]; exact hob5))
        clear hob5 hgr5 hA
        go_wp2_with fail
        go_region
        all_goals
          obtain ⟨left5, cnt5, cur5, hrel5, hmeas5⟩ := HFIN.out
          go_wp2
          go_roundw
          case rel => exact ⟨left5, cnt5, cur5, hrel5⟩
          case measure => exact hmeas5
end Go.Proofs.Yteiajeeincapoac
