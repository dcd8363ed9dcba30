import Derived.Test.YtdpoggapenjjfaaGreatDoorG47Bbn
import Derived.Test.YtdpoggapenjjfaaGreatDoorG48Bjl
import Derived.Deep.RegionHeld3
import Derived.Test.YtdpoggapenjjfaaGreatDoorG38Inq
import Derived.BigQuiet
import Derived.Deep.DeepCutAuto
import Derived.Deep.RegionWith
namespace Go.Proofs.YtdpoggapenjjfaaGreatDoor
open Go.RowKit Go.Maps Go.Shelf
attribute [local go_sem] Oper.semAt_some
set_option maxRecDepth 20000
set_option linter.unusedVariables false
set_option linter.unusedSimpArgs false

theorem seq2b_under : Tryz.prog.underlying 25 = some (.func #[42] #[] false) := by kernel_rfl

theorem wp_blocks_brk {g : Operand} {pm : Array Tmp} {assign body : Code} {Q : Exit → Act → World → Prop} {a : Act} {w : World} (dB lB : Nat) {data : List Int} {limit : Int} {ps : List Pc} {o0 : List Int} {v : Value} (T : Nat → (Nat → Prop) → Obj → World → Prop) (id : Nat) (Fin : Nat → Prop)
    (hit : (a.eval g = .func (.func 12) #[] #[] ∧ ps = []) ∨ (a.eval g = .func (.func 14) #[] #[.pointer (some ⟨dB, 0, none⟩), .pointer (some ⟨lB, 0, none⟩)] ∧ (data.length ≤ 33554432 ∧ 0 ≤ limit ∧ limit ≤ 16777216) ∧ (∃ E q0, Txt (unpack data) limit.toNat 0 [] ps E q0 o0) ∧ ∀ o W, T 0 (fun _ => False) o W → SB W v data ∧ W.cell? ⟨dB, 0, none⟩ = some v ∧ W.cell? ⟨lB, 0, none⟩ = some (.int .i64 limit))) (hps : pm.size = 2) (hB : Byt data)
    (rT : ∀ k S, H4.Rec (w.heap.size + 1) (T k S)) (hnS : ∀ k S o W, T k S o W → ¬ S (w.heap.size + 1))
    (hmv : ∀ o, BBears fun k S W => T k S o W)
    (hTO : ∀ o k S W B, T k S o W → w.heap.size + 2 ≤ B → B ≤ W.heap.size → Tab (wtake W B) ∧ Odr (wtake W B))
    (hsz : ∀ k S o W, T k S o W → w.heap.size + 2 ≤ W.heap.size)
    (h0 : ∀ o, T 0 (fun _ => False) o ((w.alloc (.deferred (some []))).alloc o)) (act : Pc → Value → Nat → Act)
    (hassign : ∀ (x : Pc) (u : Value) (V : World) (c : Nat) (K : Act → World → Prop), V.heap.size = c → K (act x u c) (V.alloc (.cells (pcq x) 36)) →
      assign.wpIn (Fence.wide.inRound (w.heap.size + 1)) 1 Tryz.prog (Exit.then K (fun _ _ _ => False)) { tmps := (pm.zip #[.agg (pcq x), u]).foldl (fun t (p, v) => t.setIfInBounds p v) a.tmps, defers := [] } V)
    (hbody : ∀ k x S o V c u, ps[k]? = some x → T k S o V → (∀ b, S b → b < V.heap.size) → V.heap[c]? = some (.cells (pcq x) 36 (0, 0)) → w.heap.size + 1 < c → ¬ S c → OB V 0 u (sgb o0 x) → (∀ b, u.ownBlock = some b → S b) → body.wpIn (Fence.wide.inRound (w.heap.size + 1)) 1 Tryz.prog (blkEnd T (fun e o V => ∃ k S, e = .exit id ∧ k ≤ ps.length ∧ Fin k ∧ T k S o V) u k S o V) (act x u c) V)
    (hQ : ∀ b V, Q .normal b V → (Code.exit id).wp Tryz.prog Q b V)
    (hdone : ∀ k S o V, k ≤ ps.length → (k = ps.length ∨ Fin k) → T k S o V → Q .normal { a with defers := { target := .collected w.heap.size, args := #[] } :: a.defers } V) :
    (Code.rangeFunc g pm assign body).wp Tryz.prog Q a w :=
  wp_blocks_any dB lB T _ hit hps hB rT hnS (fun c => ⟨fun o V h => by obtain ⟨k, S, _, _, _, h⟩ := h; exact (rT k S).get _ _ h, fun o o' V h => by obtain ⟨k, S, h1, h2, h3, h⟩ := h; exact ⟨k, S, h1, h2, h3, (rT k S).put _ _ _ h⟩⟩) hmv hTO hsz h0 act hassign hbody
    (fun S o V h => hdone _ S o V (Nat.le_refl _) (.inl rfl) h) (fun c o V h => by obtain ⟨k, S, rfl, h2, h3, h⟩ := h; exact hQ _ _ (hdone k S o V h2 (.inr h3) h))

theorem two_end {W wx : World} {g d1 d2 : Nat} (hr : wx.heap[g]? = some (.cells #[.bool false] 4 (0, 0))) (h1 : wx.heap[d1]? = some (.deferred (some []))) (h2 : wx.heap[d2]? = some (.deferred (some []))) (n1 : d1 ≠ g) (n2 : d2 ≠ g) (n3 : d1 ≠ d2) (hb : Below W.heap.size W wx) (hg : W.heap.size ≤ g) (hd1 : W.heap.size ≤ d1) (hd2 : W.heap.size ≤ d2) :
    (wx.setCell ⟨g, 0, none⟩ (.bool true)).heap[d2]? = some (.deferred (some [])) ∧ ((wx.setCell ⟨g, 0, none⟩ (.bool true)).putObj d2 (.deferred none)).heap[d1]? = some (.deferred (some [])) ∧ (((wx.setCell ⟨g, 0, none⟩ (.bool true)).putObj d2 (.deferred none)).putObj d1 (.deferred none)).cell? ⟨g, 0, none⟩ = some (.bool true) ∧ Below W.heap.size W (((wx.setCell ⟨g, 0, none⟩ (.bool true)).putObj d2 (.deferred none)).putObj d1 (.deferred none)) := by
  have hw := wrt_set hr (.bool true)
  refine ⟨(hw.ne _ n2).trans h2, (putObj_at8 _ _ n3).trans ((hw.ne _ n1).trans h1), ?_, ?_⟩
  · exact (one_cell ((putObj_at8 _ _ (fun e => n1 e.symm)).trans ((putObj_at8 _ _ (fun e => n2 e.symm)).trans hw.at))).1
  · have b1 := hb.setCell (p := ⟨g, 0, none⟩) hg (.bool true)
    exact ⟨b1.os, b1.tape, b1.output, by rw [putObj_size8, putObj_size8]; exact b1.size, fun b q => (putObj_at8 _ _ (by omega)).trans ((putObj_at8 _ _ (by omega)).trans (b1.block b q))⟩

def itv (w : World) (b : Nat) : Value := (w.cell? ⟨b, 0, none⟩).getD undef

theorem itv_of {w : World} {b : Nat} {u : Value} {t : TypeId} (h : w.heap[b]? = some (.cells #[u] t (0, 0))) : itv w b = u := by
  unfold itv; rw [(one_cell h).1]; rfl

def Kd (l : List Int) (limit : Int) (ps : List Pc) (oo : List Int) : Prop :=
  (¬ (l.length ≤ 33554432 ∧ 0 ≤ limit ∧ limit ≤ 16777216) ∧ ps = [] ∧ oo = []) ∨ ((l.length ≤ 33554432 ∧ 0 ≤ limit ∧ limit ≤ 16777216) ∧ ∃ E q, Txt (unpack l) limit.toNat 0 [] ps E q oo)

theorem kd_txt {l : List Int} {L : Nat} {ps : List Pc} {E : Int} {q : Nat} {oo : List Int} (hL : L ≤ 16777216) (hl : l.length ≤ 33554432) (t : Txt (unpack l) L 0 [] ps E q oo) : oo.length ≤ 16777216 ∧ ps.length ≤ 100000000 ∧ ∀ x ∈ ps, x.to0 ≤ x.to1 ∧ x.to1 ≤ oo.length := by
  have hc := t.chn (bit_unpack l)
  have hlen : (unpack l).length = 8 * l.length := length_unpack l
  have hle := t.le (bit_unpack l) (Nat.zero_le _) (Nat.zero_le _)
  have hcc := hc.count
  exact ⟨by omega, by omega, fun x hx => hc.mem x hx⟩

theorem kd_len {l : List Int} {limit : Int} {ps : List Pc} {oo : List Int} (hB : Byt l) (h : Kd l limit ps oo) : ps.length ≤ 100000000 := by
  rcases h with ⟨_, rfl, _⟩ | ⟨hd, E, q, t⟩
  · simp
  · exact (kd_txt (by omega) hd.1 t).2.1

theorem kd_seg {l : List Int} {limit : Int} {ps : List Pc} {oo : List Int} (hB : Byt l) (h : Kd l limit ps oo) {x : Pc} {k : Nat} (hk : ps[k]? = some x) : x.to0 ≤ x.to1 ∧ x.to1 ≤ oo.length ∧ oo.length ≤ 16777216 ∧ ps.length ≤ 100000000 := by
  rcases h with ⟨_, rfl, _⟩ | ⟨hd, E, q, t⟩
  · simp at hk
  · obtain ⟨h1, h2, h3⟩ := kd_txt (by omega) hd.1 t
    obtain ⟨h4, h5⟩ := h3 x (List.mem_of_getElem? hk)
    exact ⟨h4, h5, h1, h2⟩

def StR (l : List Int) (limit : Int) (w0 : World) (gS : Nat) (W : World) : Prop :=
  ∃ g ps oo t a c aw cw, W.heap[gS]? = some (.cells #[.pointer (some ⟨g, 0, none⟩)] 28 (0, 0)) ∧ Sta W g ps oo t a c aw cw ∧ Kd l limit ps oo ∧ Mvb (fun b => b = gS) w0 W

set_option maxHeartbeats 16000000 in
theorem inflateBlocks_walk (v : Value) (l : List Int) (limit stop : Int) (W : World) (h : SB W v l) (hB : Byt l) (hr : l.length ≤ 140737488351232) (T : Tab W) (O : Odr W) (X : Xodr W) :
    Calls Tryz.prog 3 #[v, .int .i64 limit, .int .i64 stop] W fun e w' => e = .returned (.bool true) ∧ Below W.heap.size W w' := by
  have hyl : ∀ (fn : Fn) (a b : Array Value) (w : World), (binOp .eql 25 (.func fn a b) .nilFunc).run Tryz.prog w = .ok (.bool false) w := fun fn a b w => eqlB_func w _ seq2b_under fn a b
  obtain ⟨wb, hwb⟩ : ∃ wb, (W.alloc (.cells #[.int .i64 stop] 3)).alloc (.cells #[.bool false] 4) = wb := ⟨_, rfl⟩
  have b0 : Below W.heap.size W wb := by
    rw [← hwb]
    have b1 : Below W.heap.size W (W.alloc (.cells #[.int .i64 stop] 3)) := (Below.refl _ _).alloc (Nat.le_refl _) _
    exact b1.alloc b1.size _
  have HW := hide b0
  have HR0 : Hid (wb.heap[W.heap.size]? = some (.cells #[.int .i64 stop] 3 (0, 0)) ∧ wb.heap[W.heap.size + 1]? = some (.cells #[.bool false] 4 (0, 0)) ∧ wb.heap.size = W.heap.size + 2) := by
    show _ ∧ _ ∧ _
    rw [← hwb]
    exact ⟨(Below.heap_alloc _ _ _ (by simp)).trans (heap_alloc_new W _), heap_alloc2_new W _ _, by simp⟩
  have HTO : Hid (∀ wx, Below wb.heap.size wb wx → Tab wx ∧ Odr wx ∧ Xodr wx) := fun wx hb => ⟨T.mono (HW.out.trans (hb.mono HW.out.size)), O.mono (HW.out.trans (hb.mono HW.out.size)), X.mono (HW.out.trans (hb.mono HW.out.size))⟩
  have HSB : Hid (∀ wx, Below wb.heap.size wb wx → SB wx v l) := fun wx hb => h.below (HW.out.trans (hb.mono HW.out.size))
  have HBY := hide hB
  have HLN := hide hr
  have HCP := hide (copied8_any v l wb (h.below HW.out) hr)
  obtain ⟨a0, c0, rfl, -⟩ := h
  clear hB hr T O X b0
  refine (callsIn_wide (n := 3)).1 ?_
  refine callsIn_of_wp_marks Tryz.func3 rfl trivial ?_ rfl
  refine wpIn_noPan ?_
  refine wpIn_wide.2 ?_
  simp only [Tryz.ntmps3, List.size_toArray, List.length_cons, List.length_nil, Nat.reduceAdd, Nat.reduceSub, Array.replicate_succ, Array.replicate_zero, List.push_toArray, List.append_toArray, List.nil_append, List.cons_append]
  go_wp2_with fail
  refine HCP.out.mono ?_
  rintro e w1 ⟨rfl, ho1, hb1⟩
  obtain ⟨gI, hgI⟩ : ∃ g, wb.heap.size = g := ⟨_, rfl⟩
  rw [hgI] at ho1 ⊢
  have HB1 := hide hb1
  have HO1 := hide ho1
  have HBL := hide (hBlocks ho1.sb limit)
  have HGI := hide hgI
  clear ho1 hb1 HCP hwb hgI
  go_wp2_with fail
  refine HBL.out.mono ?_
  rintro e w2 ⟨hb2, hcs⟩
  have HB2 := hide (HB1.out.trans (hb2.mono HB1.out.size))
  have HO2 := hide (HO1.out.below hb2 (Nat.le_refl _))
  obtain ⟨f7, cs7, he7, HIT⟩ : ∃ f7 cs7, e = .returned (.func f7 #[] cs7) ∧ Hid ((Value.func f7 #[] cs7 = .func (.func 12) #[] #[] ∧ ¬ (l.length ≤ 33554432 ∧ 0 ≤ limit ∧ limit ≤ 16777216)) ∨ (Value.func f7 #[] cs7 = .func (.func 14) #[] #[.pointer (some ⟨w1.heap.size, 0, none⟩), .pointer (some ⟨w1.heap.size + 1, 0, none⟩)] ∧ (l.length ≤ 33554432 ∧ 0 ≤ limit ∧ limit ≤ 16777216) ∧ ∃ u, w2.heap[w1.heap.size]? = some (.cells #[u] 22 (0, 0)) ∧ w2.heap[w1.heap.size + 1]? = some (.cells #[.int .i64 limit] 3 (0, 0)) ∧ OB w2 (w1.heap.size + 2) u l)) := by
    rcases hcs with ⟨hd, rfl⟩ | ⟨hd, u, rfl, q1, q2, q3⟩
    · exact ⟨_, _, rfl, .inl ⟨rfl, hd⟩⟩
    · exact ⟨_, _, rfl, .inr ⟨rfl, hd, u, q1, q2, q3⟩⟩
  subst he7
  have HSP := hide (spoil8_any _ l 85 w2 gI HO2.out (by have := HB2.out.size; have := HGI.out; omega) HLN.out)
  have HZ12 := hide hb2.size
  clear hb2 hcs HBL
  go_wp2_with fail
  refine HSP.out.mono ?_
  rintro e w3 ⟨rfl, -, hg3⟩
  have HM3 : Hid (Mvb (fun b => b = gI) w2 w3) := ⟨hg3.os, hg3.tape, hg3.output, hg3.size, fun b hb hn => hg3.block b hb (fun e => hn (by simpa [Value.ownBlock] using e))⟩
  have HI1 : Hid (gI < w1.heap.size) := (HO1.out.lt gI rfl).2
  clear hg3 HSP HO1 HO2
  obtain ⟨gZ, hgZ⟩ : ∃ g, w3.heap.size = g := ⟨_, rfl⟩
  obtain ⟨w4, hw4⟩ : ∃ w4, (w3.alloc (.cells #[.pointer none, .int .i64 0, .slice none 0 0, .slice none 0 0, .int .i64 0, .bool false, .int .i64 0] 32)).alloc (.cells #[.pointer (some ⟨gZ, 0, none⟩)] 28) = w4 := ⟨_, rfl⟩
  have HGZ := hide hgZ
  have hb3 : Below wb.heap.size wb w3 := ⟨HM3.out.os.trans HB2.out.os, HM3.out.tape.trans HB2.out.tape, HM3.out.output.trans HB2.out.output, Nat.le_trans HB2.out.size HM3.out.size, fun b hb => (HM3.out.blk b (by have := HB2.out.size; omega) (by have := HGI.out; omega)).trans (HB2.out.block b hb)⟩
  have hb4 : Below w3.heap.size w3 w4 := by
    rw [← hw4]
    have b1 := (Below.refl w3.heap.size w3).alloc (Nat.le_refl _) (.cells #[.pointer none, .int .i64 0, .slice none 0 0, .slice none 0 0, .int .i64 0, .bool false, .int .i64 0] 32)
    exact b1.alloc b1.size _
  have HB4 := hide (hb3.trans (hb4.mono hb3.size))
  have HB34 := hide hb4
  have HG4 : Hid (w4.heap[gZ]? = some (.cells #[.pointer none, .int .i64 0, .slice none 0 0, .slice none 0 0, .int .i64 0, .bool false, .int .i64 0] 32 (0, 0)) ∧ w4.heap[gZ + 1]? = some (.cells #[.pointer (some ⟨gZ, 0, none⟩)] 28 (0, 0)) ∧ w4.heap.size = gZ + 2) := by
    show _ ∧ _ ∧ _
    rw [← hw4, ← hgZ]
    exact ⟨(Below.heap_alloc _ _ _ (by simp)).trans (heap_alloc_new w3 _), heap_alloc2_new w3 _ _, by simp⟩
  clear hb3 hb4
  go_upto_region 7 with fail
  go_cut [44] from 34 to 44 (fun s44 wx => s44 = .bool (decide (l.length ≤ 33554432 ∧ 0 ≤ limit ∧ limit ≤ 16777216)) ∧ wx = w4)
  case first =>
    by_cases c1 : l.length ≤ 33554432
    · have c1' : (l.length : Int) ≤ 33554432 := by omega
      by_cases c2 : 0 ≤ limit
      · by_cases c3 : limit ≤ 16777216
        · go_wp2
          go_meet
          case rel => exact ⟨by rw [decide_eq_true (And.intro c1 (And.intro c2 c3))], rfl⟩
        · go_wp2
          go_meet
          case rel => exact ⟨by rw [decide_eq_false (fun h => by omega)], rfl⟩
      · go_wp2
        go_meet
        case rel => exact ⟨by rw [decide_eq_false (fun h => by omega)], rfl⟩
    · have c1' : ¬ (l.length : Int) ≤ 33554432 := by omega
      go_wp2
      go_meet
      case rel => exact ⟨by rw [decide_eq_false (fun h => by omega)], rfl⟩
  case rest =>
  obtain ⟨rfl, rfl⟩ := hcut
  obtain ⟨w4, hw4⟩ : ∃ w4, w4 = wc := ⟨wc, rfl⟩
  subst hw4
  go_upto_if 44 with fail
  go_cut [] from 34 to 47 (fun wx => Hid (StR l limit w4 (gZ + 1) wx))
  case first =>
    by_cases hd : l.length ≤ 33554432 ∧ 0 ≤ limit ∧ limit ≤ 16777216
    · rw [decide_eq_true hd]
      have HD := hide hd
      have HPG := hide (vsta_all (HSB.out w4 HB4.out) HBY.out hd.1 (L := limit.toNat) (by omega) (HTO.out w4 HB4.out).2.2)
      have HLM : Hid (((limit.toNat : Nat) : Int) = limit) := by show _ = _; omega
      rw [HLM.out] at HPG
      obtain ⟨k1, k2⟩ := one_cell HG4.out.2.1
      clear hd
      go_wp2_with fail
      refine HPG.out.mono ?_
      rintro e w5 ⟨g, ps, E, q, oo, t, a, c, aw, cw, rfl, ht, hs, hb5⟩
      have h5 : w5.heap[gZ + 1]? = some (.cells #[.pointer (some ⟨gZ, 0, none⟩)] 28 (0, 0)) := (hb5.block _ (by have := HG4.out.2.2; omega)).trans HG4.out.2.1
      obtain ⟨k3, k4⟩ := one_cell h5
      have hwr := wrt_set h5 (.pointer (some ⟨g, 0, none⟩))
      have hbz := hb5.size
      have HST : Hid (StR l limit w4 (gZ + 1) (w5.setCell ⟨gZ + 1, 0, none⟩ (.pointer (some ⟨g, 0, none⟩)))) := by
        refine ⟨g, ps, oo, t, a, c, aw, cw, hwr.at, ?_, .inr ⟨HD.out, E, q, ht⟩, (Mvb.of hb5).trans (hwr.mvb rfl)⟩
        exact hs.1.set (gZ + 1) hwr (fun k hk => by have := hs.2 k hk; have := HG4.out.2.2; omega)
      clear hs hb5 h5 hwr k1 k2 HPG ht
      go_wp2
      go_meet
      case rel => exact HST
    · rw [decide_eq_false hd]
      have HST : Hid (StR l limit w4 (gZ + 1) w4) := ⟨gZ, [], [], [], none, 0, none, 0, HG4.out.2.1, sta_zero HG4.out.1, .inl ⟨hd, rfl, rfl⟩, ⟨rfl, rfl, rfl, Nat.le_refl _, fun _ _ _ => rfl⟩⟩
      clear hd
      go_wp2
      go_meet
      case rel => exact HST
  case rest =>
  obtain ⟨w5, hw5⟩ : ∃ w5, w5 = wc := ⟨wc, rfl⟩
  subst hw5
  obtain ⟨g, ps, oo, t, a, c, aw, cw, hS1, hSt, hKd, hMv⟩ := hcut.out
  have hlt1 : gZ + 1 < w5.heap.size := (Array.getElem?_eq_some_iff.1 hS1).1
  have HZ5 : Hid (gZ + 1 < w5.heap.size ∧ w2.heap.size ≤ gZ) := ⟨hlt1, by rw [← HGZ.out]; exact HM3.out.size⟩
  have HK5 : Hid (∀ b, b < w2.heap.size → b ≠ gI → w5.heap[b]? = w2.heap[b]?) := fun b hb hn => (hMv.blk b (by have := HG4.out.2.2; have := HZ5.out.2; omega) (by have := HZ5.out.2; omega)).trans ((HB34.out.block b (by rw [HGZ.out]; have := HZ5.out.2; omega)).trans (HM3.out.blk b hb hn))
  have HB5 : Hid (Below wb.heap.size wb w5) := ⟨hMv.os.trans HB4.out.os, hMv.tape.trans HB4.out.tape, hMv.output.trans HB4.out.output, Nat.le_trans HB4.out.size hMv.size, fun b hb => (hMv.blk b (by have := HB4.out.size; omega) (by have := HZ5.out.2; have := HB2.out.size; omega)).trans (HB4.out.block b hb)⟩
  have HS1 := hide hS1
  have HST := hide hSt
  have HKD := hide hKd
  have HSG : Hid (∀ (x : Pc) (k : Nat), ps[k]? = some x → x.to0 ≤ x.to1 ∧ x.to1 ≤ oo.length ∧ oo.length ≤ 16777216 ∧ ps.length ≤ 100000000) := fun x k hk => kd_seg HBY.out hKd hk
  have HPL : Hid (ps.length ≤ 100000000) := kd_len HBY.out hKd
  clear hS1 hSt hKd hMv hlt1 hcut HB34 HM3 HG4 HB4
  obtain ⟨gK, hgK⟩ : ∃ g, w5.heap.size = g := ⟨_, rfl⟩
  obtain ⟨wL, hwL⟩ : ∃ wL, (w5.alloc (.cells #[.slice none 0 0] 34)).alloc (.cells #[.int .i64 0] 3) = wL := ⟨_, rfl⟩
  have hA : wL.heap[gK]? = some (.cells #[.slice none 0 0] 34 (0, 0)) := by rw [← hwL, ← hgK]; exact (Below.heap_alloc _ _ _ (by simp)).trans (heap_alloc_new w5 _)
  have hT : wL.heap[gK + 1]? = some (.cells #[.int .i64 0] 3 (0, 0)) := by rw [← hwL, ← hgK]; exact heap_alloc2_new w5 _ _
  have hzL : wL.heap.size = gK + 2 := by rw [← hwL]; simp [hgK]
  have HBL : Hid (Below w5.heap.size w5 wL) := by
    rw [← hwL]
    have b1 := (Below.refl w5.heap.size w5).alloc (Nat.le_refl _) (.cells #[.slice none 0 0] 34)
    exact b1.alloc b1.size _
  have HA := hide hA
  have HT := hide hT
  have HZL := hide hzL
  have HGK := hide hgK
  have HWL := hide hwL
  clear hA hT hzL hwL hw4 hgZ
  go_wp2_with fail
  rw [HWL.out]
  have HZ1 : Hid (wL.heap.size = gK + 2 ∧ w5.heap.size = gK ∧ wb.heap.size = gI ∧ gI + 2 ≤ gK ∧ gZ + 1 < gK) := ⟨HZL.out, HGK.out, HGI.out, by have := HGK.out; have := HZ5.out; have := HI1.out; have := HZ12.out; omega, by have := HGK.out; have := HZ5.out; omega⟩
  obtain ⟨d, hd⟩ : ∃ d, wL.heap.size = d := ⟨_, rfl⟩
  have HD := hide hd
  obtain ⟨c1, hc1⟩ : ∃ c1 : Nat → List Int, c1 = fun j => sgb oo (ps.getD j pc0) := ⟨_, rfl⟩
  have HC1 := hide hc1
  clear hc1
  have HKL : Hid (∀ (c : Nat → List Int) k S o W, BkJ c wL d gK (gK + 1) k S o W → ∀ b, b < gK → W.heap[b]? = w5.heap[b]?) := fun c k S o W hj b hb => by
    have := HZ1.out; have := HD.out
    exact (hj.blk b (by omega) (by omega) (by omega)).trans (HBL.out.block b (by omega))
  have HBD : Hid (∀ (c : Nat → List Int) k S o W, BkJ c wL d gK (gK + 1) k S o W → Below wb.heap.size wb W) := fun c k S o W hj => by
    have := HZ1.out; have := HD.out
    exact ⟨hj.os.trans (HBL.out.os.trans HB5.out.os), hj.tape.trans (HBL.out.tape.trans HB5.out.tape), hj.output.trans (HBL.out.output.trans HB5.out.output), by have := hj.size; omega, fun b hb => (HKL.out c k S o W hj b (by omega)).trans (HB5.out.block b hb)⟩
  have hz1 := HZ1.out
  refine wp_blocks_brk w1.heap.size (w1.heap.size + 1) (data := l) (limit := limit) (ps := ps) (o0 := oo) (v := (itv w2 w1.heap.size)) (BkJ c1 wL wL.heap.size gK (gK + 1)) 0 (fun k => (k : Int) = stop) ?hit rfl HBY.out (BkJ.recs (by omega) (by omega)) (fun k S o W h e => by have := h.sge _ e; omega)
    (BkJ.bears (by omega) (by omega)) (fun o k S W B hj h1 h2 => ?tab) (fun k S o W hj => hj.size) (BkJ.start HA.out HT.out) ?act ?assign ?body ?hq ?done
  case hit =>
    rcases HIT.out with ⟨q1, q2⟩ | ⟨q1, q2, u, q4, q5, q6⟩
    · refine .inl ⟨q1, ?_⟩
      rcases HKD.out with ⟨_, q, _⟩ | ⟨q, _⟩
      · exact q
      · exact absurd q q2
    · have hu : itv w2 w1.heap.size = u := itv_of q4
      rw [hu]
      refine .inr ⟨q1, q2, ?_, fun o W hj => ?_⟩
      · rcases HKD.out with ⟨q, _⟩ | ⟨_, q⟩
        · exact absurd q2 q
        · exact q
      rw [HD.out] at hj
      have l5 := (Array.getElem?_eq_some_iff.1 q5).1
      have l4 := (Array.getElem?_eq_some_iff.1 q4).1
      have hz5 := HZ5.out
      have hi1 := HI1.out
      have kk : ∀ b, b < w2.heap.size → b ≠ gI → W.heap[b]? = w2.heap[b]? := fun b q1 q2 => (HKL.out _ _ _ _ _ hj b (by omega)).trans (HK5.out b q1 q2)
      exact ⟨(q6.move fun b hb => kk b (q6.lt b hb).2 (by have := (q6.lt b hb).1; omega)).sb, (one_cell ((kk _ l4 (by omega)).trans q4)).1, (one_cell ((kk _ l5 (by omega)).trans q5)).1⟩
  case tab =>
    rw [HD.out] at hj
    have := below_wtake (HBD.out _ _ _ _ _ hj) (by have := HD.out; omega) h2
    exact ⟨(HTO.out _ this).1, (HTO.out _ this).2.1⟩
  case assign =>
    intro x u V c K hc hK
    simp only [pcq] at hK ⊢
    gi_wp2
    exact hK
  case hq =>
    intro b V hQ
    exact wp_exit hQ
  case body =>
    rw [HD.out]
    intro k x S ob V cb u hk hj hS hc hcl hcS ho hu
    have HV5 := hide (HKL.out _ _ _ _ _ hj)
    have hsv := hj.size
    have HSV : Hid (Sta V g ps oo t a c aw cw) := HST.out.keep (by have := HZ1.out; have := HD.out; omega) (fun b hb => HV5.out b (by have := HZ1.out; omega))
    obtain ⟨vr, us, e1, e2, e3⟩ := hj.var
    obtain ⟨s1, s2, s3, s4⟩ := HSG.out x k hk
    obtain ⟨gw, haw, hw1, hw2, x0, x1, x2, x3, x4, x5⟩ := HSV.out.at hk
    have y2 := HSV.out.out
    have y3 := HSV.out.wh
    have yS : V.cell? ⟨gZ + 1, 0, none⟩ = some (.pointer (some ⟨g, 0, none⟩)) := (one_cell ((HV5.out _ (by have := HZ1.out; omega)).trans HS1.out)).1
    have hkps : k < ps.length := (List.getElem?_eq_some_iff.1 hk).1
    have yN : V.cell? ⟨gK + 1, 0, none⟩ = some (.int .i64 k) := (one_cell hj.cnt).1
    have HNF : Hid (V.frozen? ⟨gK + 1, 0, none⟩ = false) := (one_cell hj.cnt).2
    have HPT := HSV.out.part s1 s2
    have HJ := hide hj
    have HK := hide hk
    have HS := hide hS
    have HU := hide hu
    have HO := hide ho
    have HVR := hide (And.intro e1 (And.intro e2 e3))
    subst haw
    obtain ⟨kk, ff, A0, A1, N0, N1⟩ := x
    have hcv : V.heap[cb]? = some (pcO kk ff A0 A1 N0 N1) := hc
    obtain ⟨d0, d1, d2, d3, d4, d5, -⟩ := pc_cells hcv
    simp only at s1 s2 x0 x1 x2 x3 x4 x5 HPT
    obtain ⟨sp, hsp⟩ : ∃ sp, (if c = N0 then a else a.map fun x => x.add N0) = sp := ⟨_, rfl⟩
    have HPS := hide (HPT sp hsp)
    have HSAME : Hid (∀ n, CallsIn Fence.wide 0 Tryz.prog 8 #[u, .slice sp (N1 - N0) (c - N0)] (V.drewN n) fun e w' => e = .returned (.bool true) ∧ ∃ m, w' = V.drewN m) := fun n => by
      have h1 : SB (V.drewN n) u (sgb oo ⟨kk, ff, A0, A1, N0, N1⟩) := HO.out.sb.below (below_drewN (Below.refl _ _) n)
      have h2 : SB (V.drewN n) (.slice sp (N1 - N0) (c - N0)) (sgb oo ⟨kk, ff, A0, A1, N0, N1⟩) := HPS.out.below (below_drewN (Below.refl _ _) n)
      refine callsIn_wide.2 ((same8 h1 h2).mono ?_)
      rintro e w' ⟨rfl, m, rfl⟩
      exact ⟨rfl, n + m, by rw [World.drewN_drewN]⟩
    obtain ⟨M, HM⟩ : ∃ M : Nat, Hid (M = (oo ++ t).length) := ⟨_, rfl⟩
    have hM1 : N1 ≤ M := by rw [HM.out, List.length_append]; omega
    have hM2 : M ≤ c ∧ c ≤ 9223372036854775807 := by
      obtain ⟨a', c', e, q1, q2, _⟩ := HSV.out.ob.sb
      simp only [Value.slice.injEq] at e
      obtain ⟨-, -, rfl⟩ := e
      unfold maxLen at q2
      rw [HM.out]; omega
    rw [← HM.out] at y2
    have hgd : decide ((ps.length : Int) ≤ (k : Int)) = false := decide_eq_false (by omega)
    have hgd2 : decide (ps.length ≤ k) = false := decide_eq_false (by omega)
    obtain ⟨P, HP⟩ : ∃ P : Nat, Hid (P = ps.length) := ⟨_, rfl⟩
    rw [← HP.out] at y3 hw1 hgd hgd2 hkps s4
    clear hj hk hS hu ho e1 e2 e3 hc hcv HPT
    gi_wp2
    refine wpIn_quiet_round (F := Fence.wide) (n := 1) _ rfl mixd (by kernel_rfl) (by kernel_rfl) ?_
    have hfw : ∀ f, Fence.wide.fn f = True := fun _ => rfl
    repeat (gi_big_quiet_step (first | (gi_at_call 8; exact HSAME.out _)))
    refine wpQuietIn_nil ?_
    intro _ hw'
    obtain ⟨nq, hw''⟩ := hw'
    subst hw''
    obtain ⟨V1, hV1⟩ : ∃ V1, V.drewN nq = V1 := ⟨_, rfl⟩
    have HJ1 : Hid (BkJ c1 wL d gK (gK + 1) k S ob V1) := by rw [← hV1]; exact HJ.out.drewN nq
    have HE1 : Hid (V1.heap[gK]? = some (.cells #[vr] 34 (0, 0))) := by rw [← hV1]; exact HVR.out.1
    have HV1 : Hid (Vr c1 (d + 2) V1 S vr us) := by rw [← hV1]; exact HVR.out.2.2.keep (fun b _ _ _ => rfl) (fun b _ hs => hs)
    have HO1 : Hid (OB V1 0 u (sgb oo ⟨kk, ff, A0, A1, N0, N1⟩)) := by rw [← hV1]; exact HO.out.move fun b _ => rfl
    have HS1' : Hid (∀ b, S b → b < V1.heap.size) := by rw [← hV1]; exact HS.out
    have HG1 : Hid (V.heap.size = V1.heap.size ∧ ∀ b : Nat, V1.heap[b]? = V.heap[b]?) := by rw [← hV1]; exact ⟨rfl, fun _ => rfl⟩
    have HSTP : Hid (V1.cell? ⟨W.heap.size, 0, none⟩ = some (.int .i64 stop)) := by
      have q := HBD.out _ _ _ _ _ HJ1.out
      exact (one_cell ((q.block _ (by have := HR0.out.2.2; omega)).trans HR0.out.1)).1
    clear HSAME HPS hsp d0 d1 d2 d3 d4 d5 x0 x1 x2 x3 x4 x5 y2 y3 yS yN HNF hgd hgd2 hw1 hw2 hM1 hM2
    rw [hV1]
    clear hV1
    obtain ⟨av, cv, rfl, hcv1, hcv2, -⟩ := HV1.out.row.shape
    have HUL := hide HVR.out.2.1
    rw [HUL.out] at HE1 HV1 hcv1
    rw [HUL.out] at HVR
    have k1 := (one_cell HE1.out).1
    have HZ2 : Hid (d + 2 ≤ V1.heap.size ∧ gK + 2 = d) := ⟨HJ1.out.size, by have := HZ1.out; have := HD.out; omega⟩
    have HKLE : Hid (k < ps.length) := by show _ < _; rw [← HP.out]; exact hkps
    have hk64 : IntKind.i64.wrap ((k : Int) + 1) = (k : Int) + 1 := by rw [IntKind.wrap_i64]; omega
    obtain ⟨D, hDl⟩ : ∃ D, (sgb oo ⟨kk, ff, A0, A1, N0, N1⟩).length = D := ⟨_, rfl⟩
    obtain ⟨ua, uc, hua⟩ : ∃ ua uc, u = .slice ua D uc := by
      obtain ⟨ua, uc, e⟩ := HO1.out.shape
      exact ⟨ua, uc, by rw [e, hDl]⟩
    subst hua
    clear hDl
    have HROW : Hid (OLs (V1.alloc (.cells #[.slice ua D uc] 22)) (d + 2) (.slice av k cv) us) := HV1.out.row.move fun b hb => Below.heap_alloc _ _ _ (HV1.out.row.lt b hb).2
    have HUS : Hid (us.length ≤ 268435456) := by show _ ≤ _; rw [HUL.out]; omega
    gi_wp2_with (gi_at_builtin; refine wpBsIn rfl _ _ rfl (d + 2) (.slice av k cv) us (.slice ua D uc) V1.heap.size 1 rfl HROW.out rfl (heap_alloc_new V1 _) rfl HUS.out (by simp; have := HZ2.out; omega) ?_)
    intro v5 w6 ho6 hg6 hat6
    obtain ⟨us', HUS'⟩ : ∃ x, Hid (x = us ++ [Value.slice ua D uc]) := ⟨_, rfl⟩
    rw [← HUS'.out] at ho6
    have HUL' : Hid (us'.length = k + 1) := by show _ = _; rw [HUS'.out, List.length_append, HUL.out]; rfl
    have HO6 := hide ho6
    obtain ⟨a6, c6, rfl, -, -, -⟩ := ho6.shape
    rw [HUL'.out] at HO6 hat6 ⊢
    have HM6 : Hid (Mvb (fun b => (Value.slice av k cv).ownBlock = some b) V1 w6) := by
      have b1 := (Below.refl V1.heap.size V1).alloc (Nat.le_refl _) (.cells #[.slice ua D uc] 22)
      have g1 := hg6.size
      exact ⟨hg6.os.trans b1.os, hg6.tape.trans b1.tape, hg6.output.trans b1.output, Nat.le_trans b1.size g1, fun b hb hn => (hg6.block b (by have := b1.size; omega) (fun e => hn e.symm)).trans (b1.block b hb)⟩
    have HQ1 : Hid (∀ b, b < d + 2 → w6.heap[b]? = V1.heap[b]?) := fun b hb => HM6.out.blk b (by have := HZ2.out; omega) (fun e => by have := (HV1.out.row.lt b e).1; omega)
    have HA6 : Hid (w6.heap[gK]? = some (.cells #[.slice av k cv] 34 (0, 0))) := (HQ1.out _ (by have := HZ2.out; omega)).trans HE1.out
    have k5 := (one_cell HA6.out).1
    have k6 := (one_cell HA6.out).2
    obtain ⟨w7, hw7⟩ : ∃ w7, w6.setCell ⟨gK, 0, none⟩ (.slice a6 (k + 1) c6) = w7 := ⟨_, rfl⟩
    have HWR : Hid (Wrt gK (.cells #[.slice a6 (k + 1) c6] 34 (0, 0)) w6 w7) := by rw [← hw7]; exact wrt_set HA6.out _
    have HN7 : Hid (w7.heap[gK + 1]? = some (.cells #[.int .i64 k] 3 (0, 0))) := (HWR.out.ne _ (by omega)).trans ((HQ1.out _ (by have := HZ2.out; omega)).trans HJ1.out.cnt)
    have k7 := (one_cell HN7.out).1
    have k8 := (one_cell HN7.out).2
    obtain ⟨w8, hw8⟩ : ∃ w8, w7.setCell ⟨gK + 1, 0, none⟩ (.int .i64 ((k : Int) + 1)) = w8 := ⟨_, rfl⟩
    have HWS : Hid (Wrt (gK + 1) (.cells #[.int .i64 ((k + 1 : Nat) : Int)] 3 (0, 0)) w7 w8) := by rw [← hw8]; exact wrt_set HN7.out _
    have k9 := (one_cell HWS.out.at).1
    have k10 : w8.cell? ⟨W.heap.size, 0, none⟩ = some (.int .i64 stop) := by
      have hz := HR0.out.2.2; have hy := HZ1.out
      have hb8 : w8.heap[W.heap.size]? = V1.heap[W.heap.size]? := (HWS.out.ne _ (by omega)).trans ((HWR.out.ne _ (by omega)).trans (HQ1.out _ (by have := HZ2.out; omega)))
      exact (World.cell?_of_block hb8).trans HSTP.out
    have HAT := hide hat6
    have HNX : Hid (BkJ c1 wL d gK (gK + 1) (k + 1) (fun b => S b ∧ (Value.slice ua D uc).ownBlock ≠ some b) ob w8 ∧ (∀ b, S b → (Value.slice ua D uc).ownBlock ≠ some b → w8.heap[b]? = V.heap[b]?) ∧ V.heap.size ≤ w8.heap.size) := by
      have hck : c1 k = sgb oo ⟨kk, ff, A0, A1, N0, N1⟩ := by
        rw [HC1.out]
        show sgb oo (ps.getD k pc0) = _
        rw [List.getD_eq_getElem?_getD, HK.out]; rfl
      have hnx := HJ1.out.next (u := .slice ua D uc) (V1 := V1) (vr := .slice av k cv) (vr' := .slice a6 (k + 1) c6) (us := us) (l := []) (w6 := w7) (w8 := w8) (by have := HZ2.out; omega) (by have := HZ2.out; omega) (by omega) HS1'.out HU.out HUL.out HV1.out (World.grownBy.refl _ _) (by rw [hck]; exact HO1.out) ((HM6.out.mono fun b _ e => .inr e).trans (HWR.out.mvb (.inl rfl))) HWR.out.at (by rw [← HUS'.out]; exact HO6.out.move fun b hb => HWR.out.ne b (by have := (HO6.out.lt b hb).1; have := HZ2.out; omega)) (fun b hb => by
        rcases HAT.out with e | e
        · exact .inl (e ▸ hb)
        · right
          have : some b = some (V1.heap.size + 1) := hb.symm.trans e
          injection this with this
          omega) HWS.out
      exact ⟨hnx.1, fun b q1 q2 => (hnx.2.1 b q1 q2).trans (HG1.out.2 b), by rw [HG1.out.1]; exact hnx.2.2⟩
    clear hg6 ho6 hat6 k1
    by_cases hst : (k : Int) + 1 = stop
    · have hse : (((k : Int) + 1) == stop) = true := by simpa using hst
      have HEQ : Hid (((k + 1 : Nat) : Int) = stop) := by show _ = _; omega
      clear hst
      gi_wp2
      exact ⟨k + 1, _, rfl, by have := HKLE.out; omega, HEQ.out, HNX.out.1⟩
    · have hse : (((k : Int) + 1) == stop) = false := by simpa using hst
      clear hst
      gi_wp2
      exact HNX.out
  case done =>
    rw [HD.out]
    intro k S ob V hkl hkf hj
    have HVL := hide (HKL.out _ _ _ _ _ hj)
    have hsv := hj.size
    have HSV : Hid (Sta V g ps oo t a c aw cw) := HST.out.keep (by have := HZ1.out; have := HD.out; omega) (fun b hb => HVL.out b (by have := HZ1.out; omega))
    have HSP : Hid (V.heap[gZ + 1]? = some (.cells #[.pointer (some ⟨g, 0, none⟩)] 28 (0, 0))) := (HVL.out _ (by have := HZ1.out; omega)).trans HS1.out
    have HBV := hide (HBD.out _ _ _ _ _ hj)
    have HJ := hide hj
    obtain ⟨P, HP⟩ : ∃ P : Nat, Hid (P = ps.length) := ⟨_, rfl⟩
    rw [← HP.out] at hkl hkf
    have HKL2 := hide hkl
    have hpl := HPL.out
    rw [← HP.out] at hpl
    go_upto_region 19 with fail
    go_cut [14] from 92 to 103 (fun s14 wx => s14 = .bool true ∧ ∃ n, wx = V.drewN n)
    case first =>
      have yN : V.cell? ⟨gK + 1, 0, none⟩ = some (.int .i64 k) := (one_cell HJ.out.cnt).1
      have yS := (one_cell HSP.out).1
      have y3 := HSV.out.wh
      rw [← HP.out] at y3
      have y5 : V.cell? ⟨W.heap.size, 0, none⟩ = some (.int .i64 stop) := (one_cell ((HBV.out.block _ (by have := HR0.out.2.2; omega)).trans HR0.out.1)).1
      by_cases hkp : k = P
      · have q1 : ((k : Int) == (P : Int)) = true := by simp; omega
        subst hkp
        clear hkf hkl
        go_wp2
        go_quiet (fail)
        go_wp2
        go_meet
        case rel => exact ⟨rfl, _, rfl⟩
      · have q1 : ((k : Int) == (P : Int)) = false := by simp; omega
        have q2 : ((k : Int) == stop) = true := by
          rcases hkf with e | e
          · exact absurd e hkp
          · simpa using e
        clear hkf hkl hkp
        go_wp2
        go_quiet (fail)
        go_wp2
        go_meet
        case rel => exact ⟨rfl, _, rfl⟩
    case rest =>
    obtain ⟨rfl, nq, hwc⟩ := hcut
    obtain ⟨V1, hV1⟩ : ∃ V1, V1 = wc := ⟨wc, rfl⟩
    subst hV1
    have HJ1 : Hid (BkJ c1 wL d gK (gK + 1) k S ob V1) := by rw [hwc]; exact HJ.out.drewN nq
    obtain ⟨vr1, us1, e1, e2, e3⟩ := HJ1.out.var
    have HSZ1 : Hid (V1.heap.size = V.heap.size ∧ d + 2 ≤ V1.heap.size ∧ gK + 2 = d) := ⟨by rw [hwc]; rfl, HJ1.out.size, by have := HZ1.out; have := HD.out; omega⟩
    have HVL1 : Hid (∀ b, b < gK → V1.heap[b]? = w5.heap[b]?) := by rw [hwc]; exact HVL.out
    have HBV1 : Hid (Below wb.heap.size wb V1) := HBD.out _ _ _ _ _ HJ1.out
    have k1 := (one_cell HJ1.out.cnt).1
    have k2 := (one_cell HJ1.out.cnt).2
    obtain ⟨gV, hgV⟩ : ∃ g, V1.heap.size = g := ⟨_, rfl⟩
    obtain ⟨wM, hwM⟩ : ∃ wM, (V1.setCell ⟨gK + 1, 0, none⟩ (.int .i64 0)).alloc (.cells #[.slice none 0 0] 34) = wM := ⟨_, rfl⟩
    have hws := wrt_set HJ1.out.cnt (.int .i64 0)
    have hMA : wM.heap[gV]? = some (.cells #[.slice none 0 0] 34 (0, 0)) := by rw [← hwM, ← hgV, ← hws.size]; exact heap_alloc_new _ _
    have hMN : wM.heap[gK + 1]? = some (.cells #[.int .i64 0] 3 (0, 0)) := by
      have := HSZ1.out
      rw [← hwM]
      exact (Below.heap_alloc _ _ _ (by rw [hws.size]; omega)).trans hws.at
    have HMZ : Hid (wM.heap.size = gV + 1 ∧ V1.heap.size = gV) := ⟨by rw [← hwM]; simp [hgV], hgV⟩
    have HMK : Hid (∀ b, b < gV → b ≠ gK + 1 → wM.heap[b]? = V1.heap[b]?) := fun b hb hn => by
      rw [← hwM]
      exact (Below.heap_alloc _ _ _ (by rw [hws.size]; omega)).trans (hws.ne b hn)
    have HMO : Hid (wM.os = V1.os ∧ wM.tape = V1.tape ∧ wM.output = V1.output) := by rw [← hwM]; exact ⟨rfl, rfl, rfl⟩
    have HVR1 := hide (And.intro e1 (And.intro e2 e3))
    have HMA := hide hMA
    have HMN := hide hMN
    have HWM := hide hwM
    clear e1 e2 e3 hws hMA hMN hwM hwc hj hgV hsv
    go_wp2_with fail
    rw [HWM.out, HMZ.out.2]
    clear k1 k2
    obtain ⟨dM, hd2⟩ : ∃ d, wM.heap.size = d := ⟨_, rfl⟩
    have HD2 := hide hd2
    obtain ⟨c2, hc2⟩ : ∃ c2 : Nat → List Int, c2 = fun j => List.replicate (sgb oo (ps.getD j pc0)).length ((j : Int) % 256) := ⟨_, rfl⟩
    have HC2 := hide hc2
    clear hc2
    have HKM : Hid (∀ (c : Nat → List Int) k S o W, BkJ c wM dM gV (gK + 1) k S o W → ∀ b, b < gV → b ≠ gK + 1 → W.heap[b]? = V1.heap[b]?) := fun c k S o W hj b hb hn => by
      have := HMZ.out; have := HD2.out
      exact (hj.blk b (by omega) (by omega) hn).trans (HMK.out b hb hn)
    have HK5M : Hid (∀ (c : Nat → List Int) k S o W, BkJ c wM dM gV (gK + 1) k S o W → ∀ b, b < gK → W.heap[b]? = w5.heap[b]?) := fun c k S o W hj b hb => by
      have := HMZ.out; have := HSZ1.out
      exact (HKM.out c k S o W hj b (by omega) (by omega)).trans (HVL1.out b hb)
    have HBM : Hid (∀ (c : Nat → List Int) k S o W, BkJ c wM dM gV (gK + 1) k S o W → Below wb.heap.size wb W) := fun c k S o W hj => by
      have h1 := HMZ.out; have h2 := HSZ1.out; have h3 := HZ1.out; have h4 := HD2.out
      exact ⟨hj.os.trans (HMO.out.1.trans HBV1.out.os), hj.tape.trans (HMO.out.2.1.trans HBV1.out.tape), hj.output.trans (HMO.out.2.2.trans HBV1.out.output), by have := hj.size; omega, fun b hb => (HKM.out c k S o W hj b (by omega) (by omega)).trans (HBV1.out.block b hb)⟩
    have hz1 := HZ1.out
    have hz2 := HSZ1.out
    have hz3 := HMZ.out
    refine wp_blocks_any w1.heap.size (w1.heap.size + 1) (data := l) (limit := limit) (ps := ps) (o0 := oo) (v := (itv w2 w1.heap.size)) (BkJ c2 wM wM.heap.size gV (gK + 1)) (fun _ _ _ => False) ?hit2 rfl HBY.out (BkJ.recs (by omega) (by omega)) (fun k S o W h e => by have := h.sge _ e; omega) (fun c => ⟨fun o V h => h.elim, fun o o' V h => h.elim⟩)
      (BkJ.bears (by omega) (by omega)) (fun o k S W B hj h1 h2 => ?tab2) (fun k S o W hj => hj.size) (BkJ.start HMA.out HMN.out) ?act2 ?assign2 ?body2 ?done2 ?stop2
    case hit2 =>
      rcases HIT.out with ⟨q1, q2⟩ | ⟨q1, q2, u, q4, q5, q6⟩
      · refine .inl ⟨q1, ?_⟩
        rcases HKD.out with ⟨_, q, _⟩ | ⟨q, _⟩
        · exact q
        · exact absurd q q2
      · have hu : itv w2 w1.heap.size = u := itv_of q4
        rw [hu]
        refine .inr ⟨q1, q2, ?_, fun o W hj => ?_⟩
        · rcases HKD.out with ⟨q, _⟩ | ⟨_, q⟩
          · exact absurd q2 q
          · exact q
        rw [HD2.out] at hj
        have l5 := (Array.getElem?_eq_some_iff.1 q5).1
        have l4 := (Array.getElem?_eq_some_iff.1 q4).1
        have hz5 := HZ5.out
        have hi1 := HI1.out
        have kk : ∀ b, b < w2.heap.size → b ≠ gI → W.heap[b]? = w2.heap[b]? := fun b q1 q2 => (HK5M.out _ _ _ _ _ hj b (by omega)).trans (HK5.out b q1 q2)
        exact ⟨(q6.move fun b hb => kk b (q6.lt b hb).2 (by have := (q6.lt b hb).1; omega)).sb, (one_cell ((kk _ l4 (by omega)).trans q4)).1, (one_cell ((kk _ l5 (by omega)).trans q5)).1⟩
    case tab2 =>
      rw [HD2.out] at hj
      have := below_wtake (HBM.out _ _ _ _ _ hj) (by have := HD2.out; omega) h2
      exact ⟨(HTO.out _ this).1, (HTO.out _ this).2.1⟩
    case assign2 =>
      intro x u V c K hc hK
      simp only [pcq] at hK ⊢
      gi_wp2
      exact hK
    case stop2 => exact fun c o V h => h.elim
    case body2 =>
      rw [HD2.out]
      intro k x S ob V cb u hk hj hS hc hcl hcS ho hu
      have HV5 := hide (HK5M.out _ _ _ _ _ hj)
      have hsv := hj.size
      have HSV : Hid (Sta V g ps oo t a c aw cw) := HST.out.keep (by have := HZ1.out; have := HSZ1.out; have := HMZ.out; have := HD2.out; omega) (fun b hb => HV5.out b (by have := HZ1.out; omega))
      obtain ⟨vr, us, e1, e2, e3⟩ := hj.var
      obtain ⟨s1, s2, s3, s4⟩ := HSG.out x k hk
      obtain ⟨gw, haw, hw1, hw2, x0, x1, x2, x3, x4, x5⟩ := HSV.out.at hk
      have y2 := HSV.out.out
      have y3 := HSV.out.wh
      have yS : V.cell? ⟨gZ + 1, 0, none⟩ = some (.pointer (some ⟨g, 0, none⟩)) := (one_cell ((HV5.out _ (by have := HZ1.out; omega)).trans HS1.out)).1
      have hkps : k < ps.length := (List.getElem?_eq_some_iff.1 hk).1
      have yN : V.cell? ⟨gK + 1, 0, none⟩ = some (.int .i64 k) := (one_cell hj.cnt).1
      have HNF : Hid (V.frozen? ⟨gK + 1, 0, none⟩ = false) := (one_cell hj.cnt).2
      have HPT := HSV.out.part s1 s2
      have HJ := hide hj
      have HK := hide hk
      have HS := hide hS
      have HU := hide hu
      have HO := hide ho
      have HVR := hide (And.intro e1 (And.intro e2 e3))
      subst haw
      obtain ⟨kk, ff, A0, A1, N0, N1⟩ := x
      have hcv : V.heap[cb]? = some (pcO kk ff A0 A1 N0 N1) := hc
      obtain ⟨d0, d1, d2, d3, d4, d5, -⟩ := pc_cells hcv
      simp only at s1 s2 x0 x1 x2 x3 x4 x5 HPT
      obtain ⟨sp, hsp⟩ : ∃ sp, (if c = N0 then a else a.map fun x => x.add N0) = sp := ⟨_, rfl⟩
      have HPS := hide (HPT sp hsp)
      have HSAME : Hid (∀ n, CallsIn Fence.wide 0 Tryz.prog 8 #[u, .slice sp (N1 - N0) (c - N0)] (V.drewN n) fun e w' => e = .returned (.bool true) ∧ ∃ m, w' = V.drewN m) := fun n => by
        have h1 : SB (V.drewN n) u (sgb oo ⟨kk, ff, A0, A1, N0, N1⟩) := HO.out.sb.below (below_drewN (Below.refl _ _) n)
        have h2 : SB (V.drewN n) (.slice sp (N1 - N0) (c - N0)) (sgb oo ⟨kk, ff, A0, A1, N0, N1⟩) := HPS.out.below (below_drewN (Below.refl _ _) n)
        refine callsIn_wide.2 ((same8 h1 h2).mono ?_)
        rintro e w' ⟨rfl, m, rfl⟩
        exact ⟨rfl, n + m, by rw [World.drewN_drewN]⟩
      obtain ⟨M, HM⟩ : ∃ M : Nat, Hid (M = (oo ++ t).length) := ⟨_, rfl⟩
      have hM1 : N1 ≤ M := by rw [HM.out, List.length_append]; omega
      have hM2 : M ≤ c ∧ c ≤ 9223372036854775807 := by
        obtain ⟨a', c', e, q1, q2, _⟩ := HSV.out.ob.sb
        simp only [Value.slice.injEq] at e
        obtain ⟨-, -, rfl⟩ := e
        unfold maxLen at q2
        rw [HM.out]; omega
      rw [← HM.out] at y2
      have hgd : decide ((ps.length : Int) ≤ (k : Int)) = false := decide_eq_false (by omega)
      have hgd2 : decide (ps.length ≤ k) = false := decide_eq_false (by omega)
      obtain ⟨P, HP⟩ : ∃ P : Nat, Hid (P = ps.length) := ⟨_, rfl⟩
      rw [← HP.out] at y3 hw1 hgd hgd2 hkps s4
      clear hj hk hS hu ho e1 e2 e3 hc hcv HPT
      gi_wp2
      refine wpIn_quiet_round (F := Fence.wide) (n := 1) _ rfl mixd (by kernel_rfl) (by kernel_rfl) ?_
      have hfw : ∀ f, Fence.wide.fn f = True := fun _ => rfl
      repeat (gi_big_quiet_step (first | (gi_at_call 8; exact HSAME.out _)))
      refine wpQuietIn_nil ?_
      intro _ hw'
      obtain ⟨nq, hw''⟩ := hw'
      subst hw''
      obtain ⟨V3, hV3⟩ : ∃ V3, V.drewN nq = V3 := ⟨_, rfl⟩
      have HJ3 : Hid (BkJ c2 wM dM gV (gK + 1) k S ob V3) := by rw [← hV3]; exact HJ.out.drewN nq
      have HE3 : Hid (V3.heap[gV]? = some (.cells #[vr] 34 (0, 0))) := by rw [← hV3]; exact HVR.out.1
      have HV3 : Hid (Vr c2 (dM + 2) V3 S vr us) := by rw [← hV3]; exact HVR.out.2.2.keep (fun b _ _ _ => rfl) (fun b _ hs => hs)
      have HO3 : Hid (OB V3 0 u (sgb oo ⟨kk, ff, A0, A1, N0, N1⟩)) := by rw [← hV3]; exact HO.out.move fun b _ => rfl
      have HS3 : Hid (∀ b, S b → b < V3.heap.size) := by rw [← hV3]; exact HS.out
      have HG3 : Hid (V.heap.size = V3.heap.size ∧ ∀ b : Nat, V3.heap[b]? = V.heap[b]?) := by rw [← hV3]; exact ⟨rfl, fun _ => rfl⟩
      have HSTP : Hid (V3.cell? ⟨W.heap.size, 0, none⟩ = some (.int .i64 stop)) := by
        have q := HBM.out _ _ _ _ _ HJ3.out
        exact (one_cell ((q.block _ (by have := HR0.out.2.2; omega)).trans HR0.out.1)).1
      clear HSAME HPS hsp d0 d1 d2 d3 d4 d5 x0 x1 x2 x3 x4 x5 y2 y3 yS yN HNF hgd hgd2 hw1 hw2 hM1 hM2 HSTP
      rw [hV3]
      clear hV3
      have HUL := hide HVR.out.2.1
      have HZ2 : Hid (dM + 2 ≤ V3.heap.size ∧ gV + 1 = dM ∧ gK + 1 < gV) := ⟨HJ3.out.size, by have := HMZ.out; have := HD2.out; omega, by omega⟩
      have HKLE : Hid (k < ps.length) := by show _ < _; rw [← HP.out]; exact hkps
      have hk64 : IntKind.i64.wrap ((k : Int) + 1) = (k : Int) + 1 := by rw [IntKind.wrap_i64]; omega
      obtain ⟨sgm, HSGM⟩ : ∃ x, Hid (x = sgb oo ⟨kk, ff, A0, A1, N0, N1⟩) := ⟨_, rfl⟩
      rw [← HSGM.out] at HO3
      have hsl : sgm.length ≤ 16777216 := by rw [HSGM.out]; unfold sgb; rw [List.length_take]; simp only; omega
      have k1 : V3.cell? ⟨gK + 1, 0, none⟩ = some (.int .i64 k) := (one_cell HJ3.out.cnt).1
      obtain ⟨m8, HM8⟩ : ∃ m : Int, Hid (m = (k : Int) % 256) := ⟨_, rfl⟩
      have hm8 : IntKind.u8.wrap (k : Int) = m8 := by rw [HM8.out, IntKind.wrap_u8]
      have hm9 : (k : Int) % 256 = m8 := HM8.out.symm
      obtain ⟨D, hDl⟩ : ∃ D, sgm.length = D := ⟨_, rfl⟩
      obtain ⟨ua, uc, hua⟩ : ∃ ua uc, u = .slice ua D uc := by
        obtain ⟨ua, uc, e⟩ := HO3.out.shape
        exact ⟨ua, uc, by rw [e, hDl]⟩
      subst hua
      have HSPL := hide (spoil8_any _ sgm m8 V3 0 HO3.out (Nat.zero_le _) (by omega))
      have HDL := hide hDl
      clear hDl hsl
      gi_wp2_with fail
      refine (CallsIn.inRound _ (callsIn_wide.2 HSPL.out)).mono ?_
      rintro e V4 ⟨rfl, ho4, hg4⟩
      have HG4 := hide hg4
      have HO4 := hide ho4
      obtain ⟨hlow, hrow, hsz4⟩ := HJ3.out.spoilt HS3.out HU.out hg4 HV3.out
      have HLOW := hide hlow
      have HE4 : Hid (V4.heap[gV]? = some (.cells #[vr] 34 (0, 0))) := (hlow _ (by have := HZ2.out; omega)).trans HE3.out
      have HC4 : Hid (V4.heap[gK + 1]? = some (.cells #[.int .i64 k] 3 (0, 0))) := (hlow _ (by have := HZ2.out; omega)).trans HJ3.out.cnt
      have HSZ4 : Hid (dM + 2 ≤ V4.heap.size) := hsz4
      have HRW4 := hide hrow
      clear ho4 hg4 hlow hrow hsz4 k1
      obtain ⟨av, cv, rfl, hcv1, hcv2, -⟩ := HV3.out.row.shape
      rw [HUL.out] at HE4 HRW4 HV3 HE3 hcv1
      have k1 := (one_cell HE4.out).1
      have HROW : Hid (OLs (V4.alloc (.cells #[.slice ua D uc] 22)) (dM + 2) (.slice av k cv) us) := HRW4.out.move fun b hb => Below.heap_alloc _ _ _ (HRW4.out.lt b hb).2
      have HUS : Hid (us.length ≤ 268435456) := by show _ ≤ _; rw [HUL.out]; omega
      gi_wp2_with (gi_at_builtin; refine wpBsIn rfl _ _ rfl (dM + 2) (.slice av k cv) us (.slice ua D uc) V4.heap.size 1 rfl HROW.out rfl (heap_alloc_new V4 _) rfl HUS.out (by simp; have := HSZ4.out; omega) ?_)
      intro v5 w6 ho6 hg6 hat6
      obtain ⟨us', HUS'⟩ : ∃ x, Hid (x = us ++ [Value.slice ua D uc]) := ⟨_, rfl⟩
      rw [← HUS'.out] at ho6
      have HUL' : Hid (us'.length = k + 1) := by show _ = _; rw [HUS'.out, List.length_append, HUL.out]; rfl
      have HO6 := hide ho6
      obtain ⟨a6, c6, rfl, -, -, -⟩ := ho6.shape
      rw [HUL'.out] at HO6 hat6 ⊢
      have HM6 : Hid (Mvb (fun b => (Value.slice av k cv).ownBlock = some b) V4 w6) := by
        have b1 := (Below.refl V4.heap.size V4).alloc (Nat.le_refl _) (.cells #[.slice ua D uc] 22)
        have g1 := hg6.size
        exact ⟨hg6.os.trans b1.os, hg6.tape.trans b1.tape, hg6.output.trans b1.output, Nat.le_trans b1.size g1, fun b hb hn => (hg6.block b (by have := b1.size; omega) (fun e => hn e.symm)).trans (b1.block b hb)⟩
      have HQ1 : Hid (∀ b, b < dM + 2 → w6.heap[b]? = V4.heap[b]?) := fun b hb => HM6.out.blk b (by have := HSZ4.out; omega) (fun e => by have := (HRW4.out.lt b e).1; omega)
      have HA6 : Hid (w6.heap[gV]? = some (.cells #[.slice av k cv] 34 (0, 0))) := (HQ1.out _ (by have := HZ2.out; omega)).trans HE4.out
      have k5 := (one_cell HA6.out).1
      have k6 := (one_cell HA6.out).2
      obtain ⟨w7, hw7⟩ : ∃ w7, w6.setCell ⟨gV, 0, none⟩ (.slice a6 (k + 1) c6) = w7 := ⟨_, rfl⟩
      have HWR : Hid (Wrt gV (.cells #[.slice a6 (k + 1) c6] 34 (0, 0)) w6 w7) := by rw [← hw7]; exact wrt_set HA6.out _
      have HN7 : Hid (w7.heap[gK + 1]? = some (.cells #[.int .i64 k] 3 (0, 0))) := (HWR.out.ne _ (by have := HZ2.out; omega)).trans ((HQ1.out _ (by have := HZ2.out; omega)).trans HC4.out)
      have k7 := (one_cell HN7.out).1
      have k8 := (one_cell HN7.out).2
      obtain ⟨w8, hw8⟩ : ∃ w8, w7.setCell ⟨gK + 1, 0, none⟩ (.int .i64 ((k : Int) + 1)) = w8 := ⟨_, rfl⟩
      have HWS : Hid (Wrt (gK + 1) (.cells #[.int .i64 ((k + 1 : Nat) : Int)] 3 (0, 0)) w7 w8) := by rw [← hw8]; exact wrt_set HN7.out _
      have HAT := hide hat6
      have HNX : Hid (BkJ c2 wM dM gV (gK + 1) (k + 1) (fun b => S b ∧ (Value.slice ua D uc).ownBlock ≠ some b) ob w8 ∧ (∀ b, S b → (Value.slice ua D uc).ownBlock ≠ some b → w8.heap[b]? = V.heap[b]?) ∧ V.heap.size ≤ w8.heap.size) := by
        have hck : c2 k = List.replicate sgm.length m8 := by
          rw [HC2.out, HSGM.out, HM8.out]
          show List.replicate (sgb oo (ps.getD k pc0)).length _ = _
          rw [List.getD_eq_getElem?_getD, HK.out]; rfl
        have hnx := HJ3.out.next (u := .slice ua D uc) (V1 := V4) (vr := .slice av k cv) (vr' := .slice a6 (k + 1) c6) (us := us) (l := []) (w6 := w7) (w8 := w8) (by have := HZ2.out; omega) (by have := HZ2.out; omega) (by have := HZ2.out; omega) HS3.out HU.out HUL.out HV3.out HG4.out (by rw [hck]; exact HO4.out) ((HM6.out.mono fun b _ e => .inr e).trans (HWR.out.mvb (.inl rfl))) HWR.out.at (by rw [← HUS'.out]; exact HO6.out.move fun b hb => HWR.out.ne b (by have := (HO6.out.lt b hb).1; have := HZ2.out; omega)) (fun b hb => by
          rcases HAT.out with e | e
          · exact .inl (e ▸ hb)
          · right
            have : some b = some (V4.heap.size + 1) := hb.symm.trans e
            injection this with this
            omega) HWS.out
        exact ⟨hnx.1, fun b q1 q2 => (hnx.2.1 b q1 q2).trans (HG3.out.2 b), by rw [HG3.out.1]; exact hnx.2.2⟩
      clear hg6 ho6 hat6 k1
      gi_wp2
      exact HNX.out
    case done2 =>
      rw [HD2.out]
      intro S2 ob2 V9 hj
      have HV9 := hide (HK5M.out _ _ _ _ _ hj)
      have HB9 := hide (HBM.out _ _ _ _ _ hj)
      have HM9 := hide (HKM.out _ _ _ _ _ hj)
      have hsz9 := hj.size
      have HSZ9 : Hid (dM + 2 ≤ V9.heap.size ∧ gV + 1 = dM ∧ d + 2 ≤ gV ∧ gK + 2 = d ∧ gZ + 1 < gK) := ⟨hsz9, by have := HMZ.out; have := HD2.out; omega, by have := HSZ1.out; have := HMZ.out; omega, HSZ1.out.2.2, HZ1.out.2.2.2.2⟩
      have HST9 : Hid (Sta V9 g ps oo t a c aw cw) := HST.out.keep (by have := HZ1.out; have := HSZ9.out; omega) (fun b hb => HV9.out b (by have := HZ1.out; omega))
      have HSP9 : Hid (V9.heap[gZ + 1]? = some (.cells #[.pointer (some ⟨g, 0, none⟩)] 28 (0, 0))) := (HV9.out _ (by have := HZ1.out; omega)).trans HS1.out
      obtain ⟨vr2, us2, e1, e2, e3⟩ := hj.var
      have HVR2 : Hid (V9.heap[gV]? = some (.cells #[vr2] 34 (0, 0)) ∧ us2.length = P ∧ Vr c2 (dM + 2) V9 (fun _ => False) vr2 us2) := ⟨e1, by rw [e2, HP.out], e3.keep (fun _ _ _ _ => rfl) (fun _ _ h => h.elim)⟩
      have HVR19 : Hid (V9.heap[gK]? = some (.cells #[vr1] 34 (0, 0)) ∧ us1.length = k ∧ Vr c1 (d + 2) V9 (fun _ => False) vr1 us1) := by
        refine ⟨(HM9.out _ (by have := HSZ9.out; omega) (by omega)).trans HVR1.out.1, HVR1.out.2.1, ?_⟩
        exact (HVR1.out.2.2.keep (S' := fun _ => False) (fun _ _ _ _ => rfl) (fun _ _ h => h.elim)).keep (fun b q1 q2 _ => HM9.out b (by have := HMZ.out; omega) (by have := HSZ9.out; omega)) (fun _ _ h => h.elim)
      have HDF : Hid (V9.heap[d]? = some (.deferred (some [])) ∧ V9.heap[dM]? = some (.deferred (some []))) := ⟨(HM9.out _ (by have := HSZ9.out; omega) (by have := HSZ9.out; omega)).trans HJ1.out.dfr, hj.dfr⟩
      have HN9 : Hid (V9.heap[gK + 1]? = some (.cells #[.int .i64 (P : Int)] 3 (0, 0))) := by rw [HP.out]; exact hj.cnt
      have HRB : Hid (V9.heap[W.heap.size + 1]? = some (.cells #[.bool false] 4 (0, 0))) := (HB9.out.block _ (by have := HR0.out.2.2; omega)).trans HR0.out.2.1
      clear e1 e2 e3 hj hsz9
      obtain ⟨av1, cv1, rfl, hcv1, hcv2, hg1⟩ := HVR19.out.2.2.row.shape
      obtain ⟨av2, cv2, rfl, hcv3, hcv4, hg2⟩ := HVR2.out.2.2.row.shape
      have HG1 := hide hg1
      have HG2 := hide hg2
      have HU1 := hide HVR19.out.2.1
      have HU2 := hide HVR2.out.2.1
      rw [HU1.out] at HVR19 hcv1 HG1
      rw [HU2.out] at HVR2 hcv3 HG2
      clear hg1 hg2
      go_wp2
      go_loopw [18] (fun i wr => ∃ j : Nat, j ≤ k ∧ i = .int .i64 j ∧ Hid (Below V9.heap.size V9 wr)) (fun i _ => k - (intOf i).toNat)
      case atStart => exact ⟨0, Nat.zero_le _, rfl, Below.refl _ _⟩
      case round =>
        obtain ⟨j, hjk, rfl, HBR⟩ := hrel
        have hK : wr.cell? ⟨gK, 0, none⟩ = some (.slice av1 k cv1) := (one_cell ((HBR.out.block _ (by have := HSZ9.out; omega)).trans HVR19.out.1)).1
        by_cases hlt : j < k
        · have hlt' : (j : Int) < (k : Int) := by omega
          obtain ⟨gr, rfl⟩ := HG1.out (by omega)
          obtain ⟨u, hu⟩ : ∃ u, us1[j]? = some u := ⟨us1[j]'(by have := HU1.out; omega), by simp⟩
          obtain ⟨x, hx⟩ : ∃ x, ps[j]? = some x := ⟨ps[j]'(by have := HKL2.out; have := HP.out; omega), by simp⟩
          have HSR : Hid (Sta wr g ps oo t a c aw cw) := HST9.out.keep HBR.out.size (fun b hb => HBR.out.block b hb)
          have hgr : gr < V9.heap.size := (HVR19.out.2.2.row.lt gr rfl).2
          have hru : wr.cell? ⟨gr, j, none⟩ = some u := (World.cell?_of_block (HBR.out.block _ hgr)).trans (HVR19.out.2.2.row.cell hu)
          obtain ⟨s1, s2, s3, s4⟩ := HSG.out x j hx
          obtain ⟨gw, haw, hw1, hw2, x0, x1, x2, x3, x4, x5⟩ := HSR.out.at hx
          have y3 := HSR.out.wh
          have yS : wr.cell? ⟨gZ + 1, 0, none⟩ = some (.pointer (some ⟨g, 0, none⟩)) := (one_cell ((HBR.out.block _ (by have := HSZ9.out; omega)).trans HSP9.out)).1
          rw [← HP.out] at y3 hw1
          have hjP : j < P := by have := HKL2.out; omega
          have HOU : Hid (OB wr 0 u (sgb oo x)) := by
            have h0 := HVR19.out.2.2.ob j u hu
            have hcj : c1 j = sgb oo x := by rw [HC1.out]; show sgb oo (ps.getD j pc0) = _; rw [List.getD_eq_getElem?_getD, hx]; rfl
            rw [hcj] at h0
            exact (h0.move fun b hb => HBR.out.block b (h0.lt b hb).2).base (Nat.zero_le _)
          obtain ⟨kk, ff, A0, A1, N0, N1⟩ := x
          simp only at s1 s2 x0 x1 x2 x3 x4 x5
          subst haw
          obtain ⟨wq, hwq⟩ : ∃ wq, wr.alloc (.cells #[.int .i64 kk, .bool ff, .int .i64 A0, .int .i64 A1, .int .i64 N0, .int .i64 N1] 36) = wq := ⟨_, rfl⟩
          have bq : Below wr.heap.size wr wq := by rw [← hwq]; exact (Below.refl _ _).alloc (Nat.le_refl _) _
          have hzr := HBR.out.size
          have qK : wq.cell? ⟨gK, 0, none⟩ = some (.slice (some ⟨gr, 0, none⟩) k cv1) := (bq.cell (World.block_lt_of_cell? _ _ hK)).trans hK
          have qu : wq.cell? ⟨gr, j, none⟩ = some u := (bq.cell (World.block_lt_of_cell? _ _ hru)).trans hru
          have qS : wq.cell? ⟨gZ + 1, 0, none⟩ = some (.pointer (some ⟨g, 0, none⟩)) := (bq.cell (World.block_lt_of_cell? _ _ yS)).trans yS
          have HSQ : Hid (Sta wq g ps oo t a c (some ⟨gw, 0, none⟩) cw) := HSR.out.keep bq.size (fun b hb => bq.block b hb)
          have q2 := HSQ.out.out
          have hnew : wq.heap[wr.heap.size]? = some (pcO kk ff A0 A1 N0 N1) := by rw [← hwq]; exact heap_alloc_new wr _
          obtain ⟨-, -, -, -, d4, d5, -⟩ := pc_cells hnew
          obtain ⟨sp, hsp⟩ : ∃ sp, (if c = N0 then a else a.map fun x => x.add N0) = sp := ⟨_, rfl⟩
          have HPS := hide (HSQ.out.part s1 s2 sp hsp)
          have HSAME : Hid (∀ n, Calls Tryz.prog 8 #[u, .slice sp (N1 - N0) (c - N0)] (wq.drewN n) fun e w' => e = .returned (.bool true) ∧ ∃ m, w' = wq.drewN m) := fun n => by
            have h1 : SB (wq.drewN n) u (sgb oo ⟨kk, ff, A0, A1, N0, N1⟩) := (HOU.out.sb.below bq).below (below_drewN (Below.refl _ _) n)
            have h2 : SB (wq.drewN n) (.slice sp (N1 - N0) (c - N0)) (sgb oo ⟨kk, ff, A0, A1, N0, N1⟩) := HPS.out.below (below_drewN (Below.refl _ _) n)
            refine (same8 h1 h2).mono ?_
            rintro e w' ⟨rfl, m, rfl⟩
            exact ⟨rfl, n + m, by rw [World.drewN_drewN]⟩
          obtain ⟨M, HM⟩ : ∃ M : Nat, Hid (M = (oo ++ t).length) := ⟨_, rfl⟩
          have hM1 : N1 ≤ M := by rw [HM.out, List.length_append]; omega
          have hM2 : M ≤ c ∧ c ≤ 9223372036854775807 := by
            obtain ⟨a', c', e, q1, q2, _⟩ := HSR.out.ob.sb
            simp only [Value.slice.injEq] at e
            obtain ⟨-, -, rfl⟩ := e
            unfold maxLen at q2
            rw [HM.out]; omega
          rw [← HM.out] at q2
          have HBQ : Hid (∀ n, Below V9.heap.size V9 (wq.drewN n)) := fun n => below_drewN (HBR.out.trans (bq.mono hzr)) n
          clear hu hx hnew bq hru
          go_wp2
          go_quiet ((go_at_call 8; exact HSAME.out _))
          go_wp2
          go_roundw
          case rel => exact ⟨j + 1, by omega, by go_num, HBQ.out _⟩
          case measure => simp [intOf]; omega
        · obtain rfl : j = k := by omega
          have hlt' : ¬ (j : Int) < (j : Int) := by omega
          obtain ⟨wA, hwA⟩ : ∃ wA, wA = wr := ⟨wr, rfl⟩
          subst hwA
          go_wp2
          go_loopw [21] (fun i wx => ∃ m : Nat, m ≤ P ∧ i = .int .i64 m ∧ wx = wA) (fun i _ => P - (intOf i).toNat)
          case atStart => exact ⟨0, Nat.zero_le _, rfl, rfl⟩
          case round =>
            obtain ⟨m, hmP, rfl, hwx⟩ := hrel
            subst hwx
            have hV : wr.cell? ⟨gV, 0, none⟩ = some (.slice av2 P cv2) := (one_cell ((HBR.out.block _ (by have := HSZ9.out; omega)).trans HVR2.out.1)).1
            by_cases hlm : m < P
            · have hlm' : (m : Int) < (P : Int) := by omega
              obtain ⟨gr, rfl⟩ := HG2.out (by omega)
              obtain ⟨u, hu⟩ : ∃ u, us2[m]? = some u := ⟨us2[m]'(by have := HU2.out; omega), by simp⟩
              have hgr : gr < V9.heap.size := (HVR2.out.2.2.row.lt gr rfl).2
              have hru : wr.cell? ⟨gr, m, none⟩ = some u := (World.cell?_of_block (HBR.out.block _ hgr)).trans (HVR2.out.2.2.row.cell hu)
              obtain ⟨N, hN⟩ : ∃ N, (sgb oo (ps.getD m pc0)).length = N := ⟨_, rfl⟩
              have hN2 : N ≤ 100000000000000 := by
                have hx : ps[m]? = some (ps.getD m pc0) := by
                  have : m < ps.length := by have := HP.out; omega
                  rw [List.getD_eq_getElem?_getD, List.getElem?_eq_getElem this]; rfl
                obtain ⟨s1, s2, s3, s4⟩ := HSG.out _ m hx
                rw [← hN]; unfold sgb; rw [List.length_take]; omega
              have HMK : Hid (∀ y : Int, y = (m : Int) % 256 → Calls Tryz.prog 9 #[u, .int .u8 y] wr fun e w' => e = .returned (.bool true) ∧ w' = wr) := fun y hy => by
                have h0 := HVR2.out.2.2.ob m u hu
                have hcj : c2 m = List.replicate N ((m : Int) % 256) := by rw [HC2.out]; show List.replicate (sgb oo (ps.getD m pc0)).length _ = _; rw [hN]
                rw [hcj, ← hy] at h0
                exact marked_any u N y wr ((h0.move fun b hb => HBR.out.block b (h0.lt b hb).2).sb) hN2
              obtain ⟨y, HY⟩ : ∃ y : Int, Hid (y = (m : Int) % 256) := ⟨_, rfl⟩
              have hy1 : IntKind.u8.wrap (m : Int) = y := by rw [HY.out, IntKind.wrap_u8]
              have hy2 : (m : Int) % 256 = y := HY.out.symm
              have HMY := hide (HMK.out y HY.out)
              have hpl2 := HPL.out
              rw [← HP.out] at hpl2
              clear hu hN hN2 HMK
              go_wp2_with fail
              refine HMY.out.mono ?_
              rintro e w' ⟨rfl, hw'⟩
              obtain rfl := hw'
              go_wp2
              go_roundw
              case rel => exact ⟨m + 1, by omega, by go_num, by first | rfl | trivial⟩
              case measure => simp [intOf]; omega
            · obtain rfl : m = P := by omega
              have hlm' : ¬ (m : Int) < (m : Int) := by omega
              have HS1r : Hid (Vr c1 (d + 2) wr (fun _ => False) (.slice av1 j cv1) us1) := HVR19.out.2.2.keep (fun b q1 _ _ => HBR.out.block b q1) (fun _ _ h => h)
              have HS2r : Hid (Vr c2 (dM + 2) wr (fun _ => False) (.slice av2 m cv2) us2) := HVR2.out.2.2.keep (fun b q1 _ _ => HBR.out.block b q1) (fun _ _ h => h)
              have HSGL : Hid (∀ q, (sgb oo q).length ≤ 16777216) := fun q => by
                unfold sgb
                rw [List.length_take, List.length_drop]
                by_cases hps : ps = []
                · rcases HKD.out with ⟨_, _, rfl⟩ | ⟨hd, E, q0, tt⟩
                  · simp
                  · have := (kd_txt (by omega) hd.1 tt).1; omega
                · obtain ⟨x, hx⟩ : ∃ x, ps[0]? = some x := ⟨ps[0]'(List.length_pos_iff.2 hps), by simp⟩
                  have := (HSG.out x 0 hx).2.2.1
                  omega
              have HSFK : Hid (∀ W' : World, (∀ b, b < V9.heap.size → (b < d + 2 ∨ b = gV) → W'.heap[b]? = V9.heap[b]?) → W'.cell? ⟨gK + 1, 0, none⟩ = some (.int .i64 (m : Int)) ∧ W'.cell? ⟨gZ + 1, 0, none⟩ = some (.pointer (some ⟨g, 0, none⟩)) ∧ W'.cell? ⟨g, 3, none⟩ = some (.slice aw m cw) ∧ W'.cell? ⟨gK, 0, none⟩ = some (.slice av1 j cv1) ∧ W'.cell? ⟨gV, 0, none⟩ = some (.slice av2 m cv2)) := fun W' hk => by
                have hz9 := HSZ9.out
                have hz1' := HZ1.out
                have hg0 := HST.out.lt
                have hw3 := HST9.out.wh
                rw [← HP.out] at hw3
                exact ⟨(one_cell ((hk _ (by omega) (by omega)).trans HN9.out)).1, (one_cell ((hk _ (by omega) (by omega)).trans HSP9.out)).1, (World.cell?_of_block (hk g (by omega) (by omega))).trans hw3, (one_cell ((hk _ (by omega) (by omega)).trans HVR19.out.1)).1, (one_cell ((hk _ (by omega) (by omega)).trans HVR2.out.1)).1⟩
              have HAPP : Hid (∀ (v5 : Value) (w5' : World), OLs w5' (d + 2) v5 (us1 ++ us2) → wr.drew.grownBy w5' (Value.slice av1 j cv1).ownBlock → (v5.ownBlock = (Value.slice av1 j cv1).ownBlock ∨ v5.ownBlock = some wr.heap.size) → (w5'.cell? ⟨gK + 1, 0, none⟩ = some (.int .i64 (m : Int)) ∧ w5'.cell? ⟨gZ + 1, 0, none⟩ = some (.pointer (some ⟨g, 0, none⟩)) ∧ w5'.cell? ⟨g, 3, none⟩ = some (.slice aw m cw) ∧ w5'.cell? ⟨gK, 0, none⟩ = some (.slice av1 j cv1) ∧ w5'.cell? ⟨gV, 0, none⟩ = some (.slice av2 m cv2)) ∧ Calls Tryz.prog 10 #[v5] w5' fun e w' => e = .returned (.bool true) ∧ (w'.cell? ⟨gK + 1, 0, none⟩ = some (.int .i64 (m : Int)) ∧ w'.cell? ⟨gZ + 1, 0, none⟩ = some (.pointer (some ⟨g, 0, none⟩)) ∧ w'.cell? ⟨g, 3, none⟩ = some (.slice aw m cw) ∧ w'.cell? ⟨gK, 0, none⟩ = some (.slice av1 j cv1) ∧ w'.cell? ⟨gV, 0, none⟩ = some (.slice av2 m cv2)) ∧ ((w'.setCell ⟨W.heap.size + 1, 0, none⟩ (.bool true)).cell? ⟨gK + 1, 0, none⟩ = some (.int .i64 (m : Int)) ∧ (w'.setCell ⟨W.heap.size + 1, 0, none⟩ (.bool true)).cell? ⟨gZ + 1, 0, none⟩ = some (.pointer (some ⟨g, 0, none⟩)) ∧ (w'.setCell ⟨W.heap.size + 1, 0, none⟩ (.bool true)).cell? ⟨g, 3, none⟩ = some (.slice aw m cw) ∧ (w'.setCell ⟨W.heap.size + 1, 0, none⟩ (.bool true)).cell? ⟨gK, 0, none⟩ = some (.slice av1 j cv1) ∧ (w'.setCell ⟨W.heap.size + 1, 0, none⟩ (.bool true)).cell? ⟨gV, 0, none⟩ = some (.slice av2 m cv2)) ∧ w'.heap[W.heap.size + 1]? = some (.cells #[.bool false] 4 (0, 0)) ∧ w'.heap[d]? = some (.deferred (some [])) ∧ w'.heap[dM]? = some (.deferred (some [])) ∧ Below W.heap.size W w') := by
                intro v5 w5' ho hg hat
                obtain ⟨a5, c5, rfl, -, -, -⟩ := ho.shape
                have hg' : wr.grownBy w5' (Value.slice av1 j cv1).ownBlock := ⟨hg.os, hg.tape, hg.output, hg.size, hg.block⟩
                have hz9 := HSZ9.out
                have hzm := HMZ.out
                have hlow1 : ∀ (q : Nat) (u : Value) (b : Nat), us1[q]? = some u → u.ownBlock = some b → d + 2 ≤ b ∧ b < gV := fun q u b q1 q2 => by
                  have := (HVR1.out.2.2.ob q u q1).lt b q2
                  omega
                have hlowr : ∀ b, (Value.slice av1 j cv1).ownBlock = some b → d + 2 ≤ b ∧ b < gV := fun b q2 => by
                  have hq := HVR1.out.2.2.row
                  rw [HU1.out] at hq
                  have := hq.lt b q2
                  omega
                have hlow2 : ∀ (q : Nat) (u : Value) (b : Nat), us2[q]? = some u → u.ownBlock = some b → dM + 2 ≤ b := fun q u b q1 q2 => ((HS2r.out.ob q u q1).lt b q2).1
                have hu1l := HU1.out
                have hu2l := HU2.out
                have hjk2 := HKL2.out
                have hplx := HPL.out
                rw [← HP.out] at hplx
                obtain ⟨gR, hL, hne, hn⟩ := lists_join HS1r.out HS2r.out (fun q u b q1 q2 => by have := (hlow1 q u b q1 q2).2; omega) (fun b q => by have := (hlowr b q).2; omega) hg' ho hat (by omega) (fun q => by rw [HC1.out]; have := HSGL.out (ps.getD q pc0); show (sgb oo (ps.getD q pc0)).length ≤ _; omega) (fun q => by rw [HC2.out]; have := HSGL.out (ps.getD q pc0); show (List.replicate (sgb oo (ps.getD q pc0)).length ((q : Int) % 256)).length ≤ _; rw [List.length_replicate]; omega)
                rw [hn]
                have hkeep5 : ∀ b, (b < d + 2 ∨ b = gV ∨ b = dM) → b < V9.heap.size → w5'.heap[b]? = V9.heap[b]? := fun b hb hbz => by
                  have h1 : wr.heap[b]? = V9.heap[b]? := HBR.out.block b hbz
                  have h2 : w5'.heap[b]? = wr.heap[b]? := hg'.block b (by have := HBR.out.size; omega) (fun e => by have := hlowr b e.symm; omega)
                  exact h2.trans h1
                refine ⟨HSFK.out w5' (fun b q1 q2 => hkeep5 b (by omega) q1), ?_⟩
                refine (apart_walk w5' 0 gR c5 a5 _ hL hne).mono ?_
                rintro e w' ⟨rfl, hk⟩
                have hkeep : ∀ b, (b < d + 2 ∨ b = gV ∨ b = dM) → b < V9.heap.size → w'.heap[b]? = V9.heap[b]? := fun b hb hbz => by
                  have h3 : w'.heap[b]? = w5'.heap[b]? := hk.block b (by have := HBR.out.size; have := hg'.size; omega) (fun p hp e => by
                    obtain ⟨q, hq⟩ := List.getElem?_of_mem hp
                    obtain ⟨-, ⟨q1, -, -⟩ | ⟨-, q1, -⟩⟩ := lsJ_at hq
                    · have := hlow1 _ _ b q1 e; omega
                    · have := hlow2 _ _ b q1 e; omega)
                  exact h3.trans (hkeep5 b hb hbz)
                have hr0 := HR0.out.2.2
                have hz1' := HZ1.out
                have hrb : w'.heap[W.heap.size + 1]? = some (.cells #[.bool false] 4 (0, 0)) := (hkeep _ (by omega) (by omega)).trans HRB.out
                have hSw := HSFK.out w' (fun b q1 q2 => hkeep b (by omega) q1)
                have hgne : g ≠ W.heap.size + 1 := fun e => by
                  have h3 := hSw.2.2.1
                  rw [e] at h3
                  unfold World.cell? at h3
                  rw [hrb] at h3
                  simp at h3
                have hz5' := HZ5.out
                have hb2' := HB2.out.size
                have hne : ∀ b : Nat, b ≠ W.heap.size + 1 → (w'.setCell ⟨W.heap.size + 1, 0, none⟩ (.bool true)).heap[b]? = w'.heap[b]? := fun b hb => setCell_others _ _ _ _ b hb
                refine ⟨rfl, hSw, ⟨(World.cell?_of_block (hne (gK + 1) (by omega))).trans hSw.1, (World.cell?_of_block (hne (gZ + 1) (by omega))).trans hSw.2.1, (World.cell?_of_block (hne g hgne)).trans hSw.2.2.1, (World.cell?_of_block (hne gK (by omega))).trans hSw.2.2.2.1, (World.cell?_of_block (hne gV (by omega))).trans hSw.2.2.2.2⟩, (hkeep _ (by omega) (by omega)).trans HRB.out, (hkeep _ (by omega) (by omega)).trans HDF.out.1, (hkeep _ (by omega) (by omega)).trans HDF.out.2, ?_⟩
                have hWw := HW.out
                exact ⟨(hk.os.trans (hg'.os.trans (HBR.out.os.trans HB9.out.os))).trans hWw.os, (hk.tape.trans (hg'.tape.trans (HBR.out.tape.trans HB9.out.tape))).trans hWw.tape, (hk.output.trans (hg'.output.trans (HBR.out.output.trans HB9.out.output))).trans hWw.output, by have := hk.size; have := hg'.size; have := HBR.out.size; omega, fun b hb => (hkeep b (by omega) (by omega)).trans ((HB9.out.block b (by omega)).trans (hWw.block b hb))⟩
              have HSF := hide (HSFK.out wr.drew (fun b q1 _ => HBR.out.block b q1))
              have HR1d : Hid (OLs wr.drew (d + 2) (.slice av1 j cv1) us1) := HS1r.out.row.move fun b _ => rfl
              have HR2d : Hid (OLs wr.drew (dM + 2) (.slice av2 m cv2) us2) := HS2r.out.row.move fun b _ => rfl
              have HONE : Hid (∀ u ∈ us2, u.oneCell' = true) := fun u hu => by
                obtain ⟨q, hq⟩ := List.getElem?_of_mem hu
                obtain ⟨ua, uc, e⟩ := (HS2r.out.ob q u hq).shape
                rw [e]; rfl
              have HLEN : Hid (us1.length + us2.length ≤ 1000000000 ∧ d + 2 ≤ wr.drew.heap.size) := by
                have hu1l := HU1.out
                have hu2l := HU2.out
                have hjk2 := HKL2.out
                have hplx := HPL.out
                rw [← HP.out] at hplx
                have hz9 := HSZ9.out
                have := HBR.out.size
                refine ⟨by omega, ?_⟩
                show _ ≤ wr.heap.size
                omega
              have hmm : ((m : Int) == (m : Int)) = true := by simp
              go_wp2
              clear hV hK
              go_region_held3 (fun W => W.cell? ⟨gK + 1, 0, none⟩ = some (.int .i64 (m : Int)) ∧ W.cell? ⟨gZ + 1, 0, none⟩ = some (.pointer (some ⟨g, 0, none⟩)) ∧ W.cell? ⟨g, 3, none⟩ = some (.slice aw m cw) ∧ W.cell? ⟨gK, 0, none⟩ = some (.slice av1 j cv1) ∧ W.cell? ⟨gV, 0, none⟩ = some (.slice av2 m cv2)) (first | exact HSF.out | exact HS5.out | exact HS6.out | exact HS7.out)
                (first
                  | (refine stepLs (by kernel_rfl) _ _ (by rfl) (d + 2) (dM + 2) (.slice av1 j cv1) (.slice av2 m cv2) us1 us2 (by simp [Act.eval, Act.put]) (by simp [Act.eval, Act.put]) HR1d.out HR2d.out HONE.out HLEN.out.1 HLEN.out.2 ?_; intro v5 w5' ho5 hg5 hat5; have HS5 := hide (HAPP.out v5 w5' ho5 hg5 hat5).1; have HAP := hide (HAPP.out v5 w5' ho5 hg5 hat5).2; clear ho5 hg5 hat5)
                  | (go_at_call 10; refine HAP.out.mono ?_; rintro e w6 ⟨rfl, z0, z7, z1, z2, z3, z4⟩; have HS6 := hide z0; have HS7 := hide z7; have HFIN := hide (And.intro z1 (And.intro z2 (And.intro z3 z4))); have z5 := (one_cell z1).1; have z6 := (one_cell z1).2; clear z0 z7 z1 z2 z3 z4))
              have HEND := hide (two_end (W := W) HFIN.out.1 HFIN.out.2.1 HFIN.out.2.2.1 (by have := HSZ9.out; have := HR0.out.2.2; have := HZ1.out; omega) (by have := HSZ9.out; have := HR0.out.2.2; have := HZ1.out; omega) (by have := HSZ9.out; omega) HFIN.out.2.2.2 (by omega) (by have := HSZ9.out; have := HR0.out.2.2; have := HZ1.out; omega) (by have := HSZ9.out; have := HR0.out.2.2; have := HZ1.out; omega))
              clear z5 z6 hmm
              go_wp2
              refine ⟨by simp, .inl ⟨_, _, rfl, run_takeDeferred HEND.out.1, ?_⟩⟩
              refine ⟨by simp, .inl ⟨_, _, rfl, run_takeDeferred HEND.out.2.1, ?_⟩⟩
              have hcx := HEND.out.2.2.1
              refine ⟨.bool true, ?_, rfl, HEND.out.2.2.2⟩
              simp [results, Tryz.f3, go_sem, hcx]
end Go.Proofs.YtdpoggapenjjfaaGreatDoor

