import Derived.Test.YteiajeeincapoabFuse
namespace Go.Proofs.Yteiajeeincapoab
open Go.RowKit Go.Maps

theorem boxAt {w : World} {b : Nat} {o : OpP} {av : Option Addr} {cv : Nat} {asec : Option Addr} {csec : Nat} (h : w.heap[b]? = some (.cells #[.int .i64 o.kind, .int .i64 o.a, .int .i64 o.b, .slice av o.data.length cv, .int .i64 o.size, .slice asec o.sec.length csec, .int .i64 o.rest] 32 (0, 0))) :
    w.cell? ⟨b, 0, none⟩ = some (.int .i64 o.kind) ∧ w.cell? ⟨b, 1, none⟩ = some (.int .i64 o.a) ∧ w.cell? ⟨b, 2, none⟩ = some (.int .i64 o.b) ∧ w.cell? ⟨b, 3, none⟩ = some (.slice av o.data.length cv) ∧ w.cell? ⟨b, 4, none⟩ = some (.int .i64 o.size) ∧ w.cell? ⟨b, 5, none⟩ = some (.slice asec o.sec.length csec) ∧ w.cell? ⟨b, 6, none⟩ = some (.int .i64 o.rest) := by
  simp [World.cell?, h]

theorem dead_ops {st : St} (hd : st.dead = true) : (∀ off data, writeSt st off data = st) ∧ (∀ off n, writeErr st off n = 12) ∧ (∀ n, truncSt st n = st) ∧ (∀ n, truncErr st n = 12) ∧ syncSt st = st ∧ syncErr st = 12 ∧ (∀ n, fuseSt st n = st) ∧ (∀ off n, readErr st off n = 12) :=
  ⟨fun _ _ => if_pos hd, fun _ _ => if_pos hd, fun _ => if_pos hd, fun _ => if_pos hd, if_pos hd, if_pos hd, fun _ => if_pos hd, fun _ _ => if_pos hd⟩

theorem sbNil (w : World) : SB w (.slice none 0 0) [] := ⟨none, 0, rfl, Nat.le_refl _, Nat.zero_le _, fun _ => rfl, fun x hx => by cases hx⟩

structure Duo (W w : World) (K KB : Nat → Nat) (g gb : Nat) (sd sb : St) : Prop where
  d : Live W w K g sd
  b : Live W w KB gb sb
  z : ∀ k, K k ≠ 0 → KB k = 0

theorem Duo.left {W w w' : World} {K K' KB : Nat → Nat} {g gb : Nat} {sd sd' sb : St} (h : Duo W w K KB g gb sd sb) (hr : Rep w' K' g sd') (hF : Fr K K' w w') : Duo W w' K' KB g gb sd' sb :=
  ⟨h.d.fr hr hF, h.b.side (flip_zero h.z) h.d.up hF, hF.zero h.z h.b.rep⟩

theorem Duo.right {W w w' : World} {K KB KB' : Nat → Nat} {g gb : Nat} {sd sb sb' : St} (h : Duo W w K KB g gb sd sb) (hr : Rep w' KB' gb sb') (hF : Fr KB KB' w w') : Duo W w' K KB' g gb sd sb' :=
  ⟨h.d.side h.z h.b.up hF, h.b.fr hr hF, flip_zero (hF.zero (flip_zero h.z) h.d.rep)⟩

theorem Duo.below {W w w' : World} {K KB : Nat → Nat} {g gb : Nat} {sd sb : St} (h : Duo W w K KB g gb sd sb) (hb : Below w.heap.size w w') : Duo W w' K KB g gb sd sb :=
  ⟨h.d.below hb, h.b.below hb, h.z⟩

theorem Run.more {st : St} {c n : Nat} (h : Run st c n) : Run st c (n + 1) := ⟨h.inv, Nat.le_succ_of_le h.calls, h.cap, h.dead, h.fused⟩

structure Twin (n : Int) (m : Nat) (sd sb : St) (dd : Bool) : Prop where
  eq : sd = withF sb (decide (0 ≤ n)) (n.toNat - m) dd
  calls : sb.calls = m
  le : 0 ≤ n → m ≤ n.toNat

theorem Twin.inv {n : Int} {m : Nat} {sd sb : St} {dd : Bool} (h : Twin n m sd sb dd) (hi : Inv sb) (hn : n ≤ 9223372036854775807) : Inv sd := by
  rw [h.eq]; exact hi.with _ _ _ (by omega)

theorem Twin.stop {n : Int} {m : Nat} {sd sb : St} {o : OpP} (h : Twin n m sd sb false) (hok : okOp o sb.cap) (hm : (m : Int) = n) : Twin n m (opSt sd o) sb true ∧ opErr sd o = 12 := by
  have hsp : spendNo sd = true := by rw [h.eq]; unfold spendNo withF; simp; omega
  have hd : sd.dead = false := by rw [h.eq]; rfl
  have hc : sd.cap = sb.cap := by rw [h.eq]; rfl
  obtain ⟨h1, h2⟩ := op_ok (st := sd) (by rw [hc]; exact hok) hd
  rw [hsp, if_pos rfl] at h1 h2
  refine ⟨⟨?_, h.calls, h.le⟩, h2⟩
  rw [h1, h.eq]
  unfold spendSt withF
  have e1 : decide (0 ≤ n) = true := by simp; omega
  have e2 : n.toNat - m = 0 := by omega
  simp [e1, e2]

theorem Twin.go {n : Int} {m : Nat} {sd sb : St} {o : OpP} (h : Twin n m sd sb false) (hok : okOp o sb.cap) (hm : (m : Int) ≠ n) (hd : sb.dead = false) (hf : sb.fused = false) : Twin n (m + 1) (opSt sd o) (opSt sb o) false ∧ opErr sd o = 0 ∧ opErr sb o = 0 := by
  have hno : ¬ (decide (0 ≤ n) = true ∧ n.toNat - m = 0) := fun ⟨e1, e2⟩ => by
    have := h.le (by simpa using e1)
    simp at e1
    omega
  have hsp : spendNo sd = false := by
    rw [h.eq]
    unfold spendNo withF
    simp only [Bool.and_eq_false_iff, decide_eq_false_iff_not]
    by_cases e : 0 ≤ n
    · right; have := h.le e; omega
    · left; exact e
  have hsb : spendNo sb = false := by unfold spendNo; rw [hf]; rfl
  have hdd : sd.dead = false := by rw [h.eq]; rfl
  have hc : sd.cap = sb.cap := by rw [h.eq]; rfl
  obtain ⟨h1, h2⟩ := op_ok (st := sd) (by rw [hc]; exact hok) hdd
  obtain ⟨k1, k2⟩ := op_ok (st := sb) hok hd
  rw [hsp, if_neg (by simp)] at h1 h2
  rw [hsb, if_neg (by simp)] at k1 k2
  refine ⟨⟨?_, ?_, fun e => ?_⟩, h2, k2⟩
  · rw [h1, k1, h.eq, go_with _ _ _ _ hf hd hno]
    unfold withF
    congr 1
    by_cases e : 0 ≤ n
    · rw [if_pos (by simpa using e)]; omega
    · rw [if_neg (by simpa using e)]; omega
  · rw [k1, go_calls o hsb, h.calls]
  · have := h.le e; omega

theorem Twin.bad {n : Int} {m : Nat} {sd sb : St} {o : OpP} (h : Twin n m sd sb false) (hok : ¬ okOp o sb.cap) : opSt sd o = sd ∧ opErr sd o = refN o sb.cap := by
  have hdd : sd.dead = false := by rw [h.eq]; rfl
  have hc : sd.cap = sb.cap := by rw [h.eq]; rfl
  have := op_bad (st := sd) (o := o) (by rw [hc]; exact hok) hdd
  rw [hc] at this
  exact this

theorem refN_ne12 (o : OpP) (c : Nat) : refN o c ≠ 12 := by
  unfold refN
  split
  · split
    · decide
    · split <;> decide
  · split
    · split
      · decide
      · split <;> decide
    · decide

set_option maxRecDepth 20000 in
set_option maxHeartbeats 4000000 in
theorem fused_walk (v vo : Value) (l : List Int) (ops : List OpP) (c n : Int) (w : World) (hs : SB w v l) (ho : SO w vo ops) (hB : OpsB ops) (hn : n ≤ 9223372036854775807) (_hn2 : -9223372036854775808 ≤ n) :
    Calls Try.prog 7 #[v, .int .i64 c, .int .i64 n, vo] w fun e w' => e = .returned (.bool true) ∧ Below w.heap.size w w' := by
  have HS := hide hs
  obtain ⟨ao, k, hv, hk1, hk2, _⟩ := hs
  unfold maxLen at hk2
  subst hv
  obtain ⟨aop, kop, hv, hop1, hop2, hops⟩ := ho
  unfold maxLen at hop2
  subst hv
  have HOPS := hide hops
  have hB1 := hB.len
  have HB := hide hB
  clear hops hB
  by_cases hfit : 0 ≤ c ∧ c ≤ 16777216 ∧ (l.length : Int) ≤ c
  case neg =>
    go_enter Try.func7, Try.ntmps7
    go_wp2_with fail
    refine (fits_no ao l.length k c _ hfit (by omega)).mono ?_
    rintro e w ⟨rfl, rfl⟩
    clear hfit
    go_wp2
    go_ret
    exact ⟨rfl, Below.refl _ _⟩
  case pos =>
    obtain ⟨hf0, hf1, hf2⟩ := hfit
    obtain ⟨cn, rfl⟩ := Int.eq_ofNat_of_zero_le hf0
    go_enter Try.func7, Try.ntmps7
    go_wp2_with fail
    refine (fits_yes ao l.length k cn _ (by omega) hf1 hf2 (by omega)).mono ?_
    rintro e w ⟨rfl, rfl⟩
    go_wp2_with fail
    refine (fresh_any _ l cn _ HS.out (by omega) (by omega)).mono ?_
    rintro e w1 ⟨g, K1, rfl, hR1, hU1, hb1⟩
    have HL1 : Hid (Live w w1 K1 g (stNew l cn)) := ⟨hR1, hU1, hb1⟩
    clear hR1 hU1 hb1
    go_wp2_with fail
    refine (fresh_any _ l cn _ (HS.out.below HL1.out.bel) (by omega) (by omega)).mono ?_
    rintro e w2 ⟨gb, KB, rfl, hR2, hU2, hb2⟩
    have HD2 : Hid (Duo w w2 K1 KB g gb (stNew l cn) (stNew l cn)) := ⟨HL1.out.below hb2, ⟨hR2, fun k hk => Nat.le_trans HL1.out.bel.size (hU2 k hk), HL1.out.bel.trans (hb2.mono HL1.out.bel.size)⟩, flip_zero (HL1.out.rep.zero hU2)⟩
    have HRun0 := hide (Run.new l cn (by omega) (by omega))
    clear hR2 hU2 hb2
    go_wp2_with fail
    refine (fuse_any n HD2.out.d.rep).mono ?_
    rintro e w3 ⟨rfl, hR3, hF3⟩
    have HD3 := hide (HD2.out.left hR3 hF3)
    have HT3 : Hid (Twin n 0 (fuseSt (stNew l cn) n) (stNew l cn) false) := ⟨rfl, rfl, fun _ => Nat.zero_le _⟩
    clear hR3 hF3 HL1 HD2
    go_wp2
    go_loopw [11, 12] (fun cnt i wr => ∃ m k : Nat, cnt = .int .i64 m ∧ i = .int .i64 k ∧ k ≤ ops.length ∧ Hid (∃ K KB sd sb dd, Duo w wr K KB g gb sd sb ∧ Run sb cn k ∧ Twin n m sd sb dd)) (fun _ i _ => ops.length - (intOf i).toNat)
    case atStart => exact ⟨0, 0, rfl, rfl, Nat.zero_le _, K1, KB, _, _, _, HD3.out, HRun0.out, HT3.out⟩
    case round =>
      obtain ⟨m, k, rfl, rfl, hk, HH⟩ := hrel
      clear HD3 HRun0 HT3
      obtain ⟨K, KB, sd, sb, dd, hD, hRun, hT⟩ := HH.out
      have hmk : m ≤ k := by have := hRun.calls; rw [hT.calls] at this; exact this
      have HD := hide hD
      have HRun := hide hRun
      have HT := hide hT
      clear HH hD hRun hT
      have hdd : sd.dead = dd := by rw [HT.out.eq]; rfl
      have hal := hide (alive_rep HD.out.d.rep)
      rw [hdd] at hal
      clear hdd
      by_cases hlt : k < ops.length ∧ dd = false
      case pos =>
        obtain ⟨hlt, rfl⟩ := hlt
        have hlt' : (k : Int) < (ops.length : Int) := by omega
        obtain ⟨o, hoo⟩ : ∃ o, ops[k]? = some o := ⟨ops[k], by simp [hlt]⟩
        obtain ⟨b, of, av, cv, asec, csec, hab, hat⟩ := HOPS.out k o hoo
        have hmem := List.mem_of_getElem? hoo
        have hdl := HB.out.data o hmem
        rw [hab]
        have HAT := hide hat
        have hcv : o.data.length ≤ cv ∧ cv ≤ 9223372036854775807 := by
          obtain ⟨_, _, e, h1, h2, _⟩ := hat.data
          simp only [Value.slice.injEq] at e
          unfold maxLen at h2
          omega
        obtain ⟨hcv1, hcv2⟩ := hcv
        clear hat hoo hab hmem
        obtain ⟨q0, q1, q2, q3, q4, q5, q6, -, -⟩ := HAT.out.below HD.out.d.bel
        go_wp2_with fail
        refine hal.out.mono ?_
        rintro e wr ⟨rfl, rfl⟩
        go_wp2_with fail
        obtain ⟨V0, hV0⟩ : ∃ V0, V0 = wr.alloc (.cells #[.int .i64 o.kind, .int .i64 o.a, .int .i64 o.b, .slice av o.data.length cv, .int .i64 o.size, .slice asec o.sec.length csec, .int .i64 o.rest] 32) := ⟨_, rfl⟩
        rw [← hV0]
        have hb0 : Below wr.heap.size wr V0 := by rw [hV0]; exact (Below.refl _ _).alloc (Nat.le_refl _) _
        have HZ0 : Hid (V0.heap.size = wr.heap.size + 1) := by show _ = _; rw [hV0]; exact size_alloc' _ _
        have HX0 : Hid (V0.heap[wr.heap.size]? = some (.cells #[.int .i64 o.kind, .int .i64 o.a, .int .i64 o.b, .slice av o.data.length cv, .int .i64 o.size, .slice asec o.sec.length csec, .int .i64 o.rest] 32 (0, 0))) := by show _ = _; rw [hV0]; exact heap_alloc_new _ _
        have HD0 := hide (HD.out.below hb0)
        have HB0 := hide hb0
        have HK0 := hide HD.out.d.rep.top
        have HKB0 := hide HD.out.b.rep.top
        have HIN := hide (HT.out.inv HRun.out.inv hn)
        clear hV0 hb0 q0 q1 q2 q3 q4 q5 q6
        by_cases hok : okOp o cn
        · have hok2 := hok
          rw [← HRun.out.cap] at hok2
          by_cases hm : (m : Int) = n
          · have hst := HT.out.stop hok2 hm
            have HC : Hid (opErr sd o = 12 ∧ refN o cn = 0 ∧ isOp o = true) := ⟨hst.2, hok.2, hok.1⟩
            have HST := hide hst.1
            have hmb : ((m : Int) == n) = true := by simpa using hm
            clear hok hok2 hst hm
            obtain ⟨y0, y1, y2, y3, y4, y5, y6⟩ := boxAt HX0.out
            go_wp2_with fail
            refine (change_any o HD0.out.d.rep HIN.out ((HAT.out.data.below HD.out.d.bel).below HB0.out) hdl).mono ?_
            rintro e w3 ⟨rfl, K3, hR3, hF3⟩
            rw [HC.out.1]
            have HD3 := hide (HD0.out.left hR3 hF3)
            have HX3 : Hid (w3.heap[wr.heap.size]? = some (.cells #[.int .i64 o.kind, .int .i64 o.a, .int .i64 o.b, .slice av o.data.length cv, .int .i64 o.size, .slice asec o.sec.length csec, .int .i64 o.rest] 32 (0, 0))) := (hF3.block wr.heap.size (by rw [HZ0.out]; omega) (.inl HK0.out)).trans HX0.out
            have HS3 : Hid (wr.heap.size < w3.heap.size) := by show _ < _; have := hF3.size; rw [HZ0.out] at this; omega
            clear hR3 hF3 y0 y1 y2 y3 y4 y5 y6
            obtain ⟨y0, y1, y2, y3, y4, y5, y6⟩ := boxAt HX3.out
            go_wp2_with fail
            refine (refused_any o cn (by omega) hdl hcv1).mono ?_
            rintro e w4 ⟨rfl, hb4⟩
            rw [HC.out.2.1]
            have HD4 := hide (HD3.out.below hb4)
            have HX4 : Hid (w4.heap[wr.heap.size]? = some (.cells #[.int .i64 o.kind, .int .i64 o.a, .int .i64 o.b, .slice av o.data.length cv, .int .i64 o.size, .slice asec o.sec.length csec, .int .i64 o.rest] 32 (0, 0))) := (hb4.block wr.heap.size HS3.out).trans HX3.out
            have HS4 : Hid (wr.heap.size < w4.heap.size) := Nat.lt_of_lt_of_le HS3.out hb4.size
            clear hb4 y0 y1 y2 y3 y4 y5 y6
            obtain ⟨y0, y1, y2, y3, y4, y5, y6⟩ := boxAt HX4.out
            go_wp2_with fail
            refine (is_any o).mono ?_
            rintro e w5 ⟨rfl, hb5⟩
            rw [HC.out.2.2]
            have HD5 := hide (HD4.out.below hb5)
            have HX5 : Hid (w5.heap[wr.heap.size]? = some (.cells #[.int .i64 o.kind, .int .i64 o.a, .int .i64 o.b, .slice av o.data.length cv, .int .i64 o.size, .slice asec o.sec.length csec, .int .i64 o.rest] 32 (0, 0))) := (hb5.block wr.heap.size HS4.out).trans HX4.out
            have HS5 : Hid (wr.heap.size < w5.heap.size) := Nat.lt_of_lt_of_le HS4.out hb5.size
            clear hb5 y0 y1 y2 y3 y4 y5 y6
            go_wp2_with fail
            have hdd5 : (opSt sd o).dead = true := by rw [HST.out.eq]; rfl
            have hal5 := hide (alive_rep HD5.out.d.rep)
            rw [hdd5] at hal5
            clear hdd5
            refine hal5.out.mono ?_
            rintro e w5 ⟨rfl, rfl⟩
            go_wp2
            go_roundw
            case rel => exact ⟨m, k + 1, rfl, by go_num, by omega, K3, KB, _, _, _, HD5.out, HRun.out.more, HST.out⟩
            case measure => simp [intOf]; omega
          · have hst := HT.out.go hok2 hm HRun.out.dead HRun.out.fused
            have HC : Hid (opErr sd o = 0 ∧ refN o cn = 0 ∧ isOp o = true) := ⟨hst.2.1, hok.2, hok.1⟩
            have HCB := hide hst.2.2
            have HST := hide hst.1
            have hmb : ((m : Int) == n) = false := by simpa using hm
            clear hok hok2 hst hm
            obtain ⟨y0, y1, y2, y3, y4, y5, y6⟩ := boxAt HX0.out
            go_wp2_with fail
            refine (change_any o HD0.out.d.rep HIN.out ((HAT.out.data.below HD.out.d.bel).below HB0.out) hdl).mono ?_
            rintro e w3 ⟨rfl, K3, hR3, hF3⟩
            rw [HC.out.1]
            have HD3 := hide (HD0.out.left hR3 hF3)
            have HX3 : Hid (w3.heap[wr.heap.size]? = some (.cells #[.int .i64 o.kind, .int .i64 o.a, .int .i64 o.b, .slice av o.data.length cv, .int .i64 o.size, .slice asec o.sec.length csec, .int .i64 o.rest] 32 (0, 0))) := (hF3.block wr.heap.size (by rw [HZ0.out]; omega) (.inl HK0.out)).trans HX0.out
            have HS3 : Hid (wr.heap.size < w3.heap.size) := by show _ < _; have := hF3.size; rw [HZ0.out] at this; omega
            clear hR3 hF3 y0 y1 y2 y3 y4 y5 y6
            obtain ⟨y0, y1, y2, y3, y4, y5, y6⟩ := boxAt HX3.out
            go_wp2_with fail
            refine (refused_any o cn (by omega) hdl hcv1).mono ?_
            rintro e w4 ⟨rfl, hb4⟩
            rw [HC.out.2.1]
            have HD4 := hide (HD3.out.below hb4)
            have HX4 : Hid (w4.heap[wr.heap.size]? = some (.cells #[.int .i64 o.kind, .int .i64 o.a, .int .i64 o.b, .slice av o.data.length cv, .int .i64 o.size, .slice asec o.sec.length csec, .int .i64 o.rest] 32 (0, 0))) := (hb4.block wr.heap.size HS3.out).trans HX3.out
            have HS4 : Hid (wr.heap.size < w4.heap.size) := Nat.lt_of_lt_of_le HS3.out hb4.size
            clear hb4 y0 y1 y2 y3 y4 y5 y6
            obtain ⟨y0, y1, y2, y3, y4, y5, y6⟩ := boxAt HX4.out
            go_wp2_with fail
            refine (is_any o).mono ?_
            rintro e w5 ⟨rfl, hb5⟩
            rw [HC.out.2.2]
            have HD5 := hide (HD4.out.below hb5)
            have HX5 : Hid (w5.heap[wr.heap.size]? = some (.cells #[.int .i64 o.kind, .int .i64 o.a, .int .i64 o.b, .slice av o.data.length cv, .int .i64 o.size, .slice asec o.sec.length csec, .int .i64 o.rest] 32 (0, 0))) := (hb5.block wr.heap.size HS4.out).trans HX4.out
            have HS5 : Hid (wr.heap.size < w5.heap.size) := Nat.lt_of_lt_of_le HS4.out hb5.size
            clear hb5 y0 y1 y2 y3 y4 y5 y6
            obtain ⟨y0, y1, y2, y3, y4, y5, y6⟩ := boxAt HX5.out
            go_wp2_with fail
            refine (change_any o HD5.out.b.rep HRun.out.inv (HAT.out.data.below HD5.out.d.bel) hdl).mono ?_
            rintro e w6 ⟨rfl, KB6, hR6, hF6⟩
            rw [HCB.out]
            have HD6 := hide (HD5.out.right hR6 hF6)
            clear hR6 hF6 y0 y1 y2 y3 y4 y5 y6
            go_wp2_with fail
            have hdd5 : (opSt sd o).dead = false := by rw [HST.out.eq]; rfl
            have hal5 := hide (alive_rep HD6.out.d.rep)
            rw [hdd5] at hal5
            clear hdd5
            refine hal5.out.mono ?_
            rintro e w6 ⟨rfl, rfl⟩
            go_wp2
            go_roundw
            case rel => exact ⟨m + 1, k + 1, by go_num, by go_num, by omega, K3, KB6, _, _, _, HD6.out, HRun.out.step o (by omega), HST.out⟩
            case measure => simp [intOf]; omega
        · have hok2 := hok
          rw [← HRun.out.cap] at hok2
          have hst := HT.out.bad hok2
          rw [HRun.out.cap] at hst
          obtain ⟨rn, hrn⟩ : ∃ rn, rn = refN o cn := ⟨_, rfl⟩
          obtain ⟨ib, hib⟩ : ∃ ib, ib = isOp o := ⟨_, rfl⟩
          have HC : Hid (opErr sd o = rn ∧ refN o cn = rn ∧ isOp o = ib) := ⟨by rw [hrn]; exact hst.2, hrn.symm, hib.symm⟩
          have HST := hide hst.1
          have h12 : rn ≠ 12 := by rw [hrn]; exact refN_ne12 o cn
          have h12' : (rn != 12) = true := by simpa using h12
          have hself : (rn != rn) = false := by simp
          have hcc : ib = false ∨ ib = true ∧ (rn == 0) = false := by
            cases ib
            · exact .inl rfl
            · refine .inr ⟨rfl, ?_⟩
              have : rn ≠ 0 := fun e => hok ⟨hib.symm, by rw [← hrn]; exact e⟩
              simpa using this
          clear hok hok2 hst hrn hib h12
          obtain ⟨y0, y1, y2, y3, y4, y5, y6⟩ := boxAt HX0.out
          go_wp2_with fail
          refine (change_any o HD0.out.d.rep HIN.out ((HAT.out.data.below HD.out.d.bel).below HB0.out) hdl).mono ?_
          rintro e w3 ⟨rfl, K3, hR3, hF3⟩
          rw [HC.out.1]
          have HD3 := hide (HD0.out.left hR3 hF3)
          have HX3 : Hid (w3.heap[wr.heap.size]? = some (.cells #[.int .i64 o.kind, .int .i64 o.a, .int .i64 o.b, .slice av o.data.length cv, .int .i64 o.size, .slice asec o.sec.length csec, .int .i64 o.rest] 32 (0, 0))) := (hF3.block wr.heap.size (by rw [HZ0.out]; omega) (.inl HK0.out)).trans HX0.out
          have HS3 : Hid (wr.heap.size < w3.heap.size) := by show _ < _; have := hF3.size; rw [HZ0.out] at this; omega
          clear hR3 hF3 y0 y1 y2 y3 y4 y5 y6
          obtain ⟨y0, y1, y2, y3, y4, y5, y6⟩ := boxAt HX3.out
          go_wp2_with fail
          refine (refused_any o cn (by omega) hdl hcv1).mono ?_
          rintro e w4 ⟨rfl, hb4⟩
          rw [HC.out.2.1]
          have HD4 := hide (HD3.out.below hb4)
          have HX4 : Hid (w4.heap[wr.heap.size]? = some (.cells #[.int .i64 o.kind, .int .i64 o.a, .int .i64 o.b, .slice av o.data.length cv, .int .i64 o.size, .slice asec o.sec.length csec, .int .i64 o.rest] 32 (0, 0))) := (hb4.block wr.heap.size HS3.out).trans HX3.out
          have HS4 : Hid (wr.heap.size < w4.heap.size) := Nat.lt_of_lt_of_le HS3.out hb4.size
          clear hb4 y0 y1 y2 y3 y4 y5 y6
          obtain ⟨y0, y1, y2, y3, y4, y5, y6⟩ := boxAt HX4.out
          go_wp2_with fail
          refine (is_any o).mono ?_
          rintro e w5 ⟨rfl, hb5⟩
          rw [HC.out.2.2]
          have HD5 := hide (HD4.out.below hb5)
          have HX5 : Hid (w5.heap[wr.heap.size]? = some (.cells #[.int .i64 o.kind, .int .i64 o.a, .int .i64 o.b, .slice av o.data.length cv, .int .i64 o.size, .slice asec o.sec.length csec, .int .i64 o.rest] 32 (0, 0))) := (hb5.block wr.heap.size HS4.out).trans HX4.out
          have HS5 : Hid (wr.heap.size < w5.heap.size) := Nat.lt_of_lt_of_le HS4.out hb5.size
          clear hb5 y0 y1 y2 y3 y4 y5 y6
          rcases hcc with rfl | ⟨rfl, hr0⟩
          all_goals
            go_wp2_with fail
            have hdd5 : (opSt sd o).dead = false := by rw [HST.out, HT.out.eq]; rfl
            have hal5 := hide (alive_rep HD5.out.d.rep)
            rw [hdd5] at hal5
            clear hdd5
            refine hal5.out.mono ?_
            rintro e w5 ⟨rfl, rfl⟩
            go_wp2
            go_roundw
            case rel =>
              have hfin := HD5.out
              rw [HST.out] at hfin
              exact ⟨m, k + 1, rfl, by go_num, by omega, K3, KB, _, _, _, hfin, HRun.out.more, HT.out⟩
            case measure => simp [intOf]; omega
      case neg =>
        have HNW : Hid (sd.now = sb.now ∧ sd.now.length ≤ 16777216 ∧ sd.calls = m ∧ sb.calls = m) := by
          have e1 : sd.now = sb.now := by rw [HT.out.eq]; rfl
          have e2 : sd.calls = sb.calls := by rw [HT.out.eq]; rfl
          exact ⟨e1, by rw [e1]; exact HRun.out.now, by rw [e2]; exact HT.out.calls, HT.out.calls⟩
        have HDD : Hid (sd.dead = dd) := by show _ = _; rw [HT.out.eq]; rfl
        have HIN := hide (HT.out.inv HRun.out.inv hn)
        by_cases hkl : k < ops.length
        · have hkl' : (k : Int) < (ops.length : Int) := by omega
          have hdt : dd = true := by
            cases dd
            · exact absurd ⟨hkl, rfl⟩ hlt
            · rfl
          subst hdt
          clear hlt
          go_wp2_with fail
          refine hal.out.mono ?_
          rintro e wr ⟨rfl, rfl⟩
          go_wp2_with fail
          refine (image_rep HD.out.d.rep HNW.out.2.1).mono ?_
          rintro e w3 ⟨a3, c3, rfl, ho3, hb3⟩
          have HD3 := hide (HD.out.below hb3)
          have HO3 := hide (ho3.base (Nat.zero_le _))
          have HRO := hide (fresh_role HD.out.d.rep (Nat.le_refl _) ho3)
          clear ho3 hb3
          go_wp2_with fail
          refine (image_rep HD3.out.b.rep HRun.out.now).mono ?_
          rintro e w4 ⟨a4, c4, rfl, ho4, hb4⟩
          have HD4 := hide (HD3.out.below hb4)
          have HO4 := hide (HO3.out.below hb4 (Nat.le_refl _))
          have HP4 := hide ho4
          clear ho4 hb4
          go_wp2_with fail
          refine (same_any _ _ sd.now sb.now _ HO4.out.sb HP4.out.sb).mono ?_
          rintro e w5 ⟨rfl, n5, hw5⟩
          rw [HNW.out.1, eqB_self]
          have hb5 : Below w4.heap.size w4 w5 := by rw [hw5]; exact below_drewN (Below.refl _ _) _
          have HD5 := hide (HD4.out.below hb5)
          have HO5 := hide (HO4.out.below hb5 (Nat.le_refl _))
          clear hb5 hw5
          rw [HNW.out.1] at HO5 HRO
          have hcd := hide (calls_rep HD5.out.d.rep)
          have hcb := hide (calls_rep HD5.out.b.rep)
          have hzd := hide (size_rep HD5.out.d.rep)
          have hzb := hide (size_rep HD5.out.b.rep)
          have had := hide (alive_rep HD5.out.d.rep)
          rw [HNW.out.2.2.1] at hcd
          rw [HNW.out.2.2.2] at hcb
          rw [HNW.out.1] at hzd
          have hself : ((m : Int) != m) = false := by simp
          have hself2 : ((sb.now.length : Int) != sb.now.length) = false := by simp
          have hnl := HRun.out.now
          go_wp2_with fail
          refine hcd.out.mono ?_
          rintro e w5 ⟨rfl, rfl⟩
          go_wp2_with fail
          refine hcb.out.mono ?_
          rintro e w5 ⟨rfl, rfl⟩
          go_wp2_with fail
          refine hzd.out.mono ?_
          rintro e w5 ⟨rfl, rfl⟩
          go_wp2_with fail
          refine hzb.out.mono ?_
          rintro e w5 ⟨rfl, rfl⟩
          rw [HDD.out] at had
          go_wp2_with fail
          refine had.out.mono ?_
          rintro e w5 ⟨rfl, rfl⟩
          have HDO := hide (dead_ops HDD.out)
          go_wp2_with fail
          refine (read_any (-1) 0 HD5.out.d.rep HNW.out.2.1).mono ?_
          rintro e w6 ⟨a6, c6, rfl, ho6, hb6⟩
          rw [HDO.out.2.2.2.2.2.2.2]
          have HD6 := hide (HD5.out.below hb6)
          have HO6 := hide (HO5.out.below hb6 (Nat.le_refl _))
          clear ho6 hb6
          go_wp2_with fail
          refine (write_any (v := .slice none 0 0) (data := []) (-1) HD6.out.d.rep HIN.out.p HIN.out.s (sbNil _) (roleNil _ _)).mono ?_
          rintro e w7 ⟨rfl, K7, hR7, hF7⟩
          rw [HDO.out.2.1]
          rw [HDO.out.1] at hR7
          have HD7 := hide (HD6.out.left hR7 hF7)
          have HO7 := hide (HO6.out.fr HRO.out hF7)
          clear hR7 hF7
          go_wp2_with fail
          refine (truncate_any (-1) HD7.out.d.rep HIN.out.p HIN.out.s).mono ?_
          rintro e w8 ⟨rfl, K8, hR8, hF8⟩
          rw [HDO.out.2.2.2.1]
          rw [HDO.out.2.2.1] at hR8
          have HD8 := hide (HD7.out.left hR8 hF8)
          have HO8 := hide (HO7.out.1.fr HO7.out.2 hF8)
          clear hR8 hF8
          go_wp2_with fail
          refine (sync_any HD8.out.d.rep HIN.out.p HIN.out.s HIN.out.k.dinv).mono ?_
          rintro e w9 ⟨rfl, K9, hR9, hF9⟩
          rw [HDO.out.2.2.2.2.2.1]
          rw [HDO.out.2.2.2.2.1] at hR9
          have HD9 := hide (HD8.out.left hR9 hF9)
          have HO9 := hide (HO8.out.1.fr HO8.out.2 hF9)
          clear hR9 hF9
          go_wp2_with fail
          refine (fuse_any 1152921504606846976 HD9.out.d.rep).mono ?_
          rintro e w10 ⟨rfl, hR10, hF10⟩
          rw [HDO.out.2.2.2.2.2.2.1] at hR10
          have HD10 := hide (HD9.out.left hR10 hF10)
          have HO10 := hide (HO9.out.1.fr HO9.out.2 hF10)
          clear hR10 hF10
          go_wp2_with fail
          refine (sync_any HD10.out.d.rep HIN.out.p HIN.out.s HIN.out.k.dinv).mono ?_
          rintro e w11 ⟨rfl, K11, hR11, hF11⟩
          rw [HDO.out.2.2.2.2.2.1]
          rw [HDO.out.2.2.2.2.1] at hR11
          have HD11 := hide (HD10.out.left hR11 hF11)
          have HO11 := hide (HO10.out.1.fr HO10.out.2 hF11)
          clear hR11 hF11
          go_wp2_with fail
          refine (num_any _ _).mono ?_
          rintro e w11 ⟨rfl, rfl⟩
          go_wp2_with fail
          refine (num_any _ _).mono ?_
          rintro e w11 ⟨rfl, rfl⟩
          go_wp2_with fail
          refine (num_any _ _).mono ?_
          rintro e w11 ⟨rfl, rfl⟩
          go_wp2_with fail
          refine (num_any _ _).mono ?_
          rintro e w11 ⟨rfl, rfl⟩
          go_wp2_with fail
          refine (num_any _ _).mono ?_
          rintro e w11 ⟨rfl, rfl⟩
          go_wp2_with fail
          refine (image_rep HD11.out.d.rep HNW.out.2.1).mono ?_
          rintro e w12 ⟨a12, c12, rfl, ho12, hb12⟩
          have HD12 := hide (HD11.out.below hb12)
          have HO12 := hide (HO11.out.1.below hb12 (Nat.le_refl _))
          have HP12 := hide ho12
          clear ho12 hb12
          go_wp2_with fail
          refine (same_any _ _ sd.now sb.now _ HP12.out.sb HO12.out.sb).mono ?_
          rintro e w13 ⟨rfl, n13, hw13⟩
          rw [HNW.out.1, eqB_self]
          have hb13 : Below w12.heap.size w12 w13 := by rw [hw13]; exact below_drewN (Below.refl _ _) _
          have HD13 := hide (HD12.out.below hb13)
          clear hb13 hw13
          have hc13 := hide (calls_rep HD13.out.d.rep)
          rw [HNW.out.2.2.1] at hc13
          go_wp2_with fail
          refine hc13.out.mono ?_
          rintro e w13 ⟨rfl, rfl⟩
          go_wp2
          go_ret
          exact ⟨by simp, HD13.out.d.bel⟩
        · have hkl' : ¬ (k : Int) < (ops.length : Int) := by omega
          clear hlt
          cases dd
          · skip
            go_wp2_with fail
            refine (image_rep HD.out.d.rep HNW.out.2.1).mono ?_
            rintro e w3 ⟨a3, c3, rfl, ho3, hb3⟩
            have HD3 := hide (HD.out.below hb3)
            have HO3 := hide (ho3.base (Nat.zero_le _))
            have HRO := hide (fresh_role HD.out.d.rep (Nat.le_refl _) ho3)
            clear ho3 hb3
            go_wp2_with fail
            refine (image_rep HD3.out.b.rep HRun.out.now).mono ?_
            rintro e w4 ⟨a4, c4, rfl, ho4, hb4⟩
            have HD4 := hide (HD3.out.below hb4)
            have HO4 := hide (HO3.out.below hb4 (Nat.le_refl _))
            have HP4 := hide ho4
            clear ho4 hb4
            go_wp2_with fail
            refine (same_any _ _ sd.now sb.now _ HO4.out.sb HP4.out.sb).mono ?_
            rintro e w5 ⟨rfl, n5, hw5⟩
            rw [HNW.out.1, eqB_self]
            have hb5 : Below w4.heap.size w4 w5 := by rw [hw5]; exact below_drewN (Below.refl _ _) _
            have HD5 := hide (HD4.out.below hb5)
            have HO5 := hide (HO4.out.below hb5 (Nat.le_refl _))
            clear hb5 hw5
            rw [HNW.out.1] at HO5 HRO
            have hcd := hide (calls_rep HD5.out.d.rep)
            have hcb := hide (calls_rep HD5.out.b.rep)
            have hzd := hide (size_rep HD5.out.d.rep)
            have hzb := hide (size_rep HD5.out.b.rep)
            have had := hide (alive_rep HD5.out.d.rep)
            rw [HNW.out.2.2.1] at hcd
            rw [HNW.out.2.2.2] at hcb
            rw [HNW.out.1] at hzd
            have hself : ((m : Int) != m) = false := by simp
            have hself2 : ((sb.now.length : Int) != sb.now.length) = false := by simp
            have hnl := HRun.out.now
            go_wp2_with fail
            refine hcd.out.mono ?_
            rintro e w5 ⟨rfl, rfl⟩
            go_wp2_with fail
            refine hcb.out.mono ?_
            rintro e w5 ⟨rfl, rfl⟩
            go_wp2_with fail
            refine hzd.out.mono ?_
            rintro e w5 ⟨rfl, rfl⟩
            go_wp2_with fail
            refine hzb.out.mono ?_
            rintro e w5 ⟨rfl, rfl⟩
            rw [HDD.out] at had
            go_wp2_with fail
            refine had.out.mono ?_
            rintro e w5 ⟨rfl, rfl⟩
            go_wp2
            go_ret
            exact ⟨rfl, HD5.out.d.bel⟩
          · skip
            go_wp2_with fail
            refine (image_rep HD.out.d.rep HNW.out.2.1).mono ?_
            rintro e w3 ⟨a3, c3, rfl, ho3, hb3⟩
            have HD3 := hide (HD.out.below hb3)
            have HO3 := hide (ho3.base (Nat.zero_le _))
            have HRO := hide (fresh_role HD.out.d.rep (Nat.le_refl _) ho3)
            clear ho3 hb3
            go_wp2_with fail
            refine (image_rep HD3.out.b.rep HRun.out.now).mono ?_
            rintro e w4 ⟨a4, c4, rfl, ho4, hb4⟩
            have HD4 := hide (HD3.out.below hb4)
            have HO4 := hide (HO3.out.below hb4 (Nat.le_refl _))
            have HP4 := hide ho4
            clear ho4 hb4
            go_wp2_with fail
            refine (same_any _ _ sd.now sb.now _ HO4.out.sb HP4.out.sb).mono ?_
            rintro e w5 ⟨rfl, n5, hw5⟩
            rw [HNW.out.1, eqB_self]
            have hb5 : Below w4.heap.size w4 w5 := by rw [hw5]; exact below_drewN (Below.refl _ _) _
            have HD5 := hide (HD4.out.below hb5)
            have HO5 := hide (HO4.out.below hb5 (Nat.le_refl _))
            clear hb5 hw5
            rw [HNW.out.1] at HO5 HRO
            have hcd := hide (calls_rep HD5.out.d.rep)
            have hcb := hide (calls_rep HD5.out.b.rep)
            have hzd := hide (size_rep HD5.out.d.rep)
            have hzb := hide (size_rep HD5.out.b.rep)
            have had := hide (alive_rep HD5.out.d.rep)
            rw [HNW.out.2.2.1] at hcd
            rw [HNW.out.2.2.2] at hcb
            rw [HNW.out.1] at hzd
            have hself : ((m : Int) != m) = false := by simp
            have hself2 : ((sb.now.length : Int) != sb.now.length) = false := by simp
            have hnl := HRun.out.now
            go_wp2_with fail
            refine hcd.out.mono ?_
            rintro e w5 ⟨rfl, rfl⟩
            go_wp2_with fail
            refine hcb.out.mono ?_
            rintro e w5 ⟨rfl, rfl⟩
            go_wp2_with fail
            refine hzd.out.mono ?_
            rintro e w5 ⟨rfl, rfl⟩
            go_wp2_with fail
            refine hzb.out.mono ?_
            rintro e w5 ⟨rfl, rfl⟩
            rw [HDD.out] at had
            go_wp2_with fail
            refine had.out.mono ?_
            rintro e w5 ⟨rfl, rfl⟩
            have HDO := hide (dead_ops HDD.out)
            go_wp2_with fail
            refine (read_any (-1) 0 HD5.out.d.rep HNW.out.2.1).mono ?_
            rintro e w6 ⟨a6, c6, rfl, ho6, hb6⟩
            rw [HDO.out.2.2.2.2.2.2.2]
            have HD6 := hide (HD5.out.below hb6)
            have HO6 := hide (HO5.out.below hb6 (Nat.le_refl _))
            clear ho6 hb6
            go_wp2_with fail
            refine (write_any (v := .slice none 0 0) (data := []) (-1) HD6.out.d.rep HIN.out.p HIN.out.s (sbNil _) (roleNil _ _)).mono ?_
            rintro e w7 ⟨rfl, K7, hR7, hF7⟩
            rw [HDO.out.2.1]
            rw [HDO.out.1] at hR7
            have HD7 := hide (HD6.out.left hR7 hF7)
            have HO7 := hide (HO6.out.fr HRO.out hF7)
            clear hR7 hF7
            go_wp2_with fail
            refine (truncate_any (-1) HD7.out.d.rep HIN.out.p HIN.out.s).mono ?_
            rintro e w8 ⟨rfl, K8, hR8, hF8⟩
            rw [HDO.out.2.2.2.1]
            rw [HDO.out.2.2.1] at hR8
            have HD8 := hide (HD7.out.left hR8 hF8)
            have HO8 := hide (HO7.out.1.fr HO7.out.2 hF8)
            clear hR8 hF8
            go_wp2_with fail
            refine (sync_any HD8.out.d.rep HIN.out.p HIN.out.s HIN.out.k.dinv).mono ?_
            rintro e w9 ⟨rfl, K9, hR9, hF9⟩
            rw [HDO.out.2.2.2.2.2.1]
            rw [HDO.out.2.2.2.2.1] at hR9
            have HD9 := hide (HD8.out.left hR9 hF9)
            have HO9 := hide (HO8.out.1.fr HO8.out.2 hF9)
            clear hR9 hF9
            go_wp2_with fail
            refine (fuse_any 1152921504606846976 HD9.out.d.rep).mono ?_
            rintro e w10 ⟨rfl, hR10, hF10⟩
            rw [HDO.out.2.2.2.2.2.2.1] at hR10
            have HD10 := hide (HD9.out.left hR10 hF10)
            have HO10 := hide (HO9.out.1.fr HO9.out.2 hF10)
            clear hR10 hF10
            go_wp2_with fail
            refine (sync_any HD10.out.d.rep HIN.out.p HIN.out.s HIN.out.k.dinv).mono ?_
            rintro e w11 ⟨rfl, K11, hR11, hF11⟩
            rw [HDO.out.2.2.2.2.2.1]
            rw [HDO.out.2.2.2.2.1] at hR11
            have HD11 := hide (HD10.out.left hR11 hF11)
            have HO11 := hide (HO10.out.1.fr HO10.out.2 hF11)
            clear hR11 hF11
            go_wp2_with fail
            refine (num_any _ _).mono ?_
            rintro e w11 ⟨rfl, rfl⟩
            go_wp2_with fail
            refine (num_any _ _).mono ?_
            rintro e w11 ⟨rfl, rfl⟩
            go_wp2_with fail
            refine (num_any _ _).mono ?_
            rintro e w11 ⟨rfl, rfl⟩
            go_wp2_with fail
            refine (num_any _ _).mono ?_
            rintro e w11 ⟨rfl, rfl⟩
            go_wp2_with fail
            refine (num_any _ _).mono ?_
            rintro e w11 ⟨rfl, rfl⟩
            go_wp2_with fail
            refine (image_rep HD11.out.d.rep HNW.out.2.1).mono ?_
            rintro e w12 ⟨a12, c12, rfl, ho12, hb12⟩
            have HD12 := hide (HD11.out.below hb12)
            have HO12 := hide (HO11.out.1.below hb12 (Nat.le_refl _))
            have HP12 := hide ho12
            clear ho12 hb12
            go_wp2_with fail
            refine (same_any _ _ sd.now sb.now _ HP12.out.sb HO12.out.sb).mono ?_
            rintro e w13 ⟨rfl, n13, hw13⟩
            rw [HNW.out.1, eqB_self]
            have hb13 : Below w12.heap.size w12 w13 := by rw [hw13]; exact below_drewN (Below.refl _ _) _
            have HD13 := hide (HD12.out.below hb13)
            clear hb13 hw13
            have hc13 := hide (calls_rep HD13.out.d.rep)
            rw [HNW.out.2.2.1] at hc13
            go_wp2_with fail
            refine hc13.out.mono ?_
            rintro e w13 ⟨rfl, rfl⟩
            go_wp2
            go_ret
            exact ⟨by simp, HD13.out.d.bel⟩
end Go.Proofs.Yteiajeeincapoab
