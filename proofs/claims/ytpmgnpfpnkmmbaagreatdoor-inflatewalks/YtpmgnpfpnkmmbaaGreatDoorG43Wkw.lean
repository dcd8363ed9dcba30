import Derived.Test.YtpmgnpfpnkmmbaaGreatDoorG42Wkq
namespace Go.Proofs.YtpmgnpfpnkmmbaaGreatDoor
open Go.RowKit Go.Maps
set_option maxRecDepth 20000
set_option linter.unusedVariables false
set_option linter.unusedSimpArgs false

/-- All below but one block stays. -/
structure Bx (b : Nat) (w w' : World) : Prop where
  os : w'.os = w.os
  tape : w'.tape = w.tape
  output : w'.output = w.output
  size : w.heap.size ≤ w'.heap.size
  block : ∀ k, k < w.heap.size → k ≠ b → w'.heap[k]? = w.heap[k]?

theorem Bx.refl (b : Nat) (w : World) : Bx b w w := ⟨rfl, rfl, rfl, Nat.le_refl _, fun _ _ _ => rfl⟩
theorem Bx.below {b : Nat} {w W' w' : World} (h : Bx b w W') (hs : W'.heap.size = w.heap.size) (hb : Below W'.heap.size W' w') : Bx b w w' :=
  ⟨hb.os.trans h.os, hb.tape.trans h.tape, hb.output.trans h.output, Nat.le_trans h.size hb.size, fun k hk hn => (hb.block k (by omega)).trans (h.block k hk hn)⟩
theorem Bx.set {b : Nat} {w W' : World} (h : Bx b w W') (k : Nat) (u : Value) : Bx b w (W'.setCell ⟨b, k, none⟩ u) :=
  ⟨h.os, h.tape, h.output, by rw [size_setCell]; exact h.size, fun j hj hn => (setCell_others W' b k u j hn).trans (h.block j hj hn)⟩

/-- The blocks that were read so far, in a box of the caller's. -/
structure Wks (W0 w : World) (b2 : Nat) (W' wr : World) (g r : Nat) (row : List Int) (p L : Nat) (o : List Int) (dn : Bool) (v : Value) (R : List (Array Value)) (K : Nat → Nat) (ys : List ((Nat → Nat) × Thing)) : Prop where
  tx : TX W' wr g r row p L o dn ((K, tpq v R) :: ys)
  bx : Bx b2 w W'
  sz : W'.heap.size = w.heap.size
  cell : W'.cell? ⟨b2, 0, none⟩ = some v
  fr : W'.frozen? ⟨b2, 0, none⟩ = false
  lo : W0.heap.size ≤ b2
  be : Below W0.heap.size W0 W'

theorem Wks.lt {W0 w : World} {b2 : Nat} {W' wr : World} {g r : Nat} {row : List Int} {p L : Nat} {o : List Int} {dn : Bool} {v : Value} {R : List (Array Value)} {K : Nat → Nat} {ys : List ((Nat → Nat) × Thing)} (h : Wks W0 w b2 W' wr g r row p L o dn v R K ys) : b2 < W'.heap.size := World.block_lt_of_cell? _ _ h.cell

theorem Wks.box {W0 w : World} {b2 : Nat} {W' wr : World} {g r : Nat} {row : List Int} {p L : Nat} {o : List Int} {dn : Bool} {v : Value} {R : List (Array Value)} {K : Nat → Nat} {ys : List ((Nat → Nat) × Thing)} (h : Wks W0 w b2 W' wr g r row p L o dn v R K ys) : wr.cell? ⟨b2, 0, none⟩ = some v ∧ wr.frozen? ⟨b2, 0, none⟩ = false :=
  ⟨(h.tx.bel.cell h.lt).trans h.cell, (h.tx.bel.frozen h.lt).trans h.fr⟩

/-- One block more. -/
theorem Wks.next {W0 w : World} {b2 : Nat} {W' wr : World} {g r : Nat} {row : List Int} {p L : Nat} {o : List Int} {dn : Bool} {v : Value} {R : List (Array Value)} {K : Nat → Nat} {ys : List ((Nat → Nat) × Thing)} (h : Wks W0 w b2 W' wr g r row p L o dn v R K ys)
    {w1 w6 : World} {b n cap : Nat} {R' : List (Array Value)} (hb : Below wr.heap.size wr w1) (ho : ORp 54 6 w6 0 (.slice (some ⟨b, 0, none⟩) n cap) R') (hg : w1.grownBy w6 v.ownBlock) (hat : v.ownBlock = some b ∨ b = w1.heap.size) :
    w6.cell? ⟨b2, 0, none⟩ = some v ∧ w6.frozen? ⟨b2, 0, none⟩ = false ∧ ∃ K', Wks W0 w b2 (W'.setCell ⟨b2, 0, none⟩ (.slice (some ⟨b, 0, none⟩) n cap)) (w6.setCell ⟨b2, 0, none⟩ (.slice (some ⟨b, 0, none⟩) n cap)) g r row p L o dn (.slice (some ⟨b, 0, none⟩) n cap) R' K' ys := by
  have hlt := h.lt
  have hw := h.tx.bel.size
  have e1 : w6.heap[b2]? = wr.heap[b2]? := (hg.block b2 (by have := hb.size; omega) (fun e => by have := (h.tx.pcs.lt b2 e.symm).1; omega)).trans (hb.block b2 (by omega))
  obtain ⟨K', h2⟩ := h.tx.pgrow hb ho hg hat
  refine ⟨(World.cell?_of_block e1).trans h.box.1, (World.frozen?_of_block e1).trans h.box.2, K', h2.under hlt 0 _, h.bx.set 0 _, by rw [size_setCell]; exact h.sz, World.cell?_setCell_same _ _ _ h.cell, by rw [World.frozen?_setCell]; exact h.fr, h.lo, ?_⟩
  exact h.be.setCell (p := ⟨b2, 0, none⟩) h.lo _

set_option maxHeartbeats 8000000 in
/-- What Walk runs. -/
theorem hwalk1 {W0 w : World} {b0 b1 b2 : Nat} {v : Value} {l : List Int} {limit : Int} (c0 : w.cell? ⟨b0, 0, none⟩ = some v) (c1 : w.cell? ⟨b1, 0, none⟩ = some (.int .i64 limit)) (c2 : w.cell? ⟨b2, 0, none⟩ = some (.slice none 0 0)) (f2 : w.frozen? ⟨b2, 0, none⟩ = false) (hb2 : W0.heap.size ≤ b2) (hbw : Below W0.heap.size W0 w)
    (h : SB w v l) (hB : Byt l) (T : Tab W0) (O : Odr W0) :
    Calls Tryz.prog 22 #[.pointer (some ⟨b0, 0, none⟩), .pointer (some ⟨b1, 0, none⟩), .pointer (some ⟨b2, 0, none⟩)] w fun e w' => ∃ E R, Wlk l limit E R ∧ ((E = 0 ∧ e = .returned (.tuple #[]) ∧ ∃ a c, w'.cell? ⟨b2, 0, none⟩ = some (.slice a R.length c) ∧ w'.frozen? ⟨b2, 0, none⟩ = false ∧ ORp 54 6 w' w.heap.size (.slice a R.length c) (R.map pcq) ∧ Bx b2 w w' ∧ R.length ≤ 268435456) ∨ (E ≠ 0 ∧ e = flt E ∧ Bx b2 w w')) := by
  have HT := hide T
  have HO := hide O
  have HBG := hide (hbegin h hB limit)
  have HC2 := hide c2
  have HF2 := hide f2
  have HB2 := hide hb2
  have HBW := hide hbw
  clear T O h hB c2 f2 hb2 hbw
  go_enter Tryz.func22, Tryz.ntmps22
  go_wp2_with fail
  refine HBG.out.mono ?_
  rintro e w1 (⟨hdom, g, r, rfl, h1⟩ | ⟨hdom, rfl, h1⟩)
  case inr =>
    have HX := hide h1
    have HI : Hid (Wlk l limit 1 []) := .inl ⟨hdom, rfl, rfl⟩
    clear h1 c0 c1 hdom
    go_wp2
    exact ⟨rfl, 1, [], HI.out, .inr ⟨by decide, rfl, (Bx.refl _ _).below rfl HX.out⟩⟩
  obtain ⟨L, HL⟩ : ∃ L : Nat, Hid (L = limit.toNat) := ⟨_, rfl⟩
  rw [← HL.out] at h1
  have HX1 : Hid (∃ K, Wks W0 w b2 w w1 g r (unpack l) 0 L [] false (.slice none 0 0) (([] : List Pc).map pcq) K []) := by
    obtain ⟨Kt, Kr, Ko, a, c, fl, fd, HH, hf, hk⟩ := h1
    have h5 := HH.push (Below.refl _ _) (K := fun _ => 0) (x := tpq (.slice none 0 0) []) ⟨ORp.nil _ _ _ _, fun k hk => by simp [Value.ownBlock] at hk, fun k hk => absurd rfl hk⟩ (fun k hk => absurd rfl hk)
    refine ⟨fun _ => 0, ⟨Kt, Kr, Ko, a, c, fl, fd, h5, ?_, hk⟩, Bx.refl _ _, rfl, HC2.out, HF2.out, HB2.out, HBW.out⟩
    rcases hf with hf | ⟨gl, gd, i, j, Kl, Kd, h1, h2, h3, h4⟩
    · exact .inl hf
    · simp at h3
  have HDM := hide hdom
  have HRD : Hid (Wdg (unpack l) L 0 [] false []) := .inl ⟨rfl, fun ps E q o ht => ht⟩
  have HIF : Hid (∀ E ps q o, Txt (unpack l) L 0 [] ps E q o → (E = 0 → Wlk l limit 0 ps) ∧ (E ≠ 0 → Wlk l limit E [])) := fun E ps q o ht => by
    rw [HL.out] at ht
    exact ⟨fun he => .inr ⟨HDM.out, ps, q, o, by rw [← he]; exact ht, .inl ⟨rfl, rfl⟩⟩, fun he => .inr ⟨HDM.out, ps, q, o, ht, .inr ⟨he, rfl⟩⟩⟩
  obtain ⟨row, HROW⟩ : ∃ row, Hid (row = unpack l) := ⟨_, rfl⟩
  rw [← HROW.out] at HX1 HRD HIF
  clear h1 hdom HBG c0 c1
  go_wp2
  go_loopw [] (fun wr => ∃ (p' : Nat) (o' : List Int) (dn : Bool) (pre : List Pc) (a : Option Addr) (c : Nat) (W' : World) (K : Nat → Nat) (ys : List ((Nat → Nat) × Thing)), Hid (Wks W0 w b2 W' wr g r row p' L o' dn (.slice a pre.length c) (pre.map pcq) K ys) ∧ Hid (Wdg row L p' o' dn pre) ∧ Hid (pre.length ≤ p')) (fun wr => row.length + 1 - (intOf ((wr.cell? ⟨r, 1, none⟩).getD undef)).toNat)
  case atStart =>
    obtain ⟨K, hK⟩ := HX1.out
    exact ⟨0, [], false, [], none, 0, w, K, [], hK, HRD, Nat.zero_le _⟩
  case round =>
    obtain ⟨p', o', dn, pre, a, c, W', K, ys, HX, HR, HPL⟩ := hrel
    clear HX1 HRD
    have HMS : Hid ((intOf ((wr.cell? ⟨r, 1, none⟩).getD undef)).toNat = p') := by show _ = _; rw [HX.out.tx.at]; simp [intOf]
    obtain ⟨ax, cx, d0, d1, d3, -, -, -, hat⟩ := HX.out.tx.cells
    clear d0 d1 hat
    cases dn with
    | true =>
      have HI : Hid (Wlk l limit 0 pre) := by
        rcases HR.out with ⟨hr, _⟩ | ⟨_, hr⟩
        · cases hr
        · exact (HIF.out 0 pre _ _ hr).1 rfl
      have HFN : Hid (wr.cell? ⟨b2, 0, none⟩ = some (.slice a pre.length c) ∧ wr.frozen? ⟨b2, 0, none⟩ = false ∧ ORp 54 6 wr w.heap.size (.slice a pre.length c) (pre.map pcq) ∧ Bx b2 w wr ∧ pre.length ≤ 268435456) := by
        refine ⟨HX.out.box.1, HX.out.box.2, ?_, HX.out.bx.below HX.out.sz HX.out.tx.bel, ?_⟩
        · have := HX.out.tx.pcs; rwa [HX.out.sz] at this
        · have := HPL.out; have := HX.out.tx.rd.2; omega
      go_wp2
      (try simp only [Exit.inBlock, Exit.then])
      refine bodyPost_end (results_none rfl _ _ _) rfl ?_
      exact ⟨0, pre, HI.out, .inl ⟨rfl, rfl, a, c, HFN.out⟩⟩
    | false =>
      obtain ⟨k2, j2⟩ := HX.out.box
      obtain ⟨M, HM⟩ : ∃ M : Nat, Hid (M = pre.length) := ⟨_, rfl⟩
      obtain ⟨N, HN⟩ : ∃ N : Nat, Hid (N = o'.length) := ⟨_, rfl⟩
      rw [← HM.out] at k2
      have HML : Hid ((pre.map pcq).length ≤ 268435456 ∧ M + 1 = (pre.map pcq).length + 1) := by
        show _ ∧ _
        rw [List.length_map, ← HM.out]
        have := HPL.out; have := HX.out.tx.rd.2; have := HM.out
        omega
      have HWD := hide (HX.out.tx.below ((Below.refl _ _).drew))
      have hTW := HT.out.mono HX.out.be
      have hOW := HO.out.mono HX.out.be
      have HBK : Hid (Calls Tryz.prog 24 #[.pointer (some ⟨g, 0, none⟩)] wr.drew fun e w' => (∃ u, e = .returned u ∧ ∃ f k q o zs Z, Blk row L p' o' 0 f k q o ∧ u = .agg #[.int .i64 k, .bool f, .int .i64 p', .int .i64 q, .int .i64 (N : Nat), .int .i64 (Z : Nat)] ∧ Hid (Z = o.length) ∧ Hid (Wks W0 w b2 W' w' g r row q L o f (.slice a M c) (pre.map pcq) K zs) ∧ w'.cell? ⟨b2, 0, none⟩ = some (.slice a M c) ∧ (w'.alloc (.cells #[.int .i64 k, .bool f, .int .i64 p', .int .i64 q, .int .i64 (N : Nat), .int .i64 (Z : Nat)] 54)).cell? ⟨b2, 0, none⟩ = some (.slice a M c)) ∨ ∃ ch, e = .panicked ch ∧ ∃ E, Wlk l limit E [] ∧ E ≠ 0 ∧ .panicked ch = flt E ∧ Bx b2 w w') := by
        refine (hblock HWD.out hTW hOW).mono ?_
        rintro e w2 ⟨E, f, k, q, o, hblk, ⟨rfl, rfl, zs, h2⟩ | ⟨he, rfl, h2⟩⟩
        · have hw2 : Wks W0 w b2 W' w2 g r row q L o f (.slice a M c) (pre.map pcq) K (ys ++ zs) := by
            rw [HM.out]
            exact ⟨h2, HX.out.bx, HX.out.sz, HX.out.cell, HX.out.fr, HX.out.lo, HX.out.be⟩
          refine .inl ⟨_, rfl, f, k, q, o, _, o.length, hblk, by rw [HN.out], rfl, hw2, hw2.box.1, ?_⟩
          rw [((Below.refl w2.heap.size w2).alloc (Nat.le_refl _) _).cell (World.block_lt_of_cell? _ _ hw2.box.1)]
          exact hw2.box.1
        · obtain ⟨ps, q', o2, ht⟩ := HR.out.bad hblk he
          exact .inr ⟨_, rfl, E, (HIF.out E ps q' o2 ht).2 he, he, rfl, HX.out.bx.below HX.out.sz h2⟩
      clear hTW hOW j2 HWD
      go_wp2
      go_region_law (first
        | (refine step_callP (by rfl) _ _ 24 (by rfl) (fun args w => Tryz.call24 args w) (.pointer (some ⟨g, 0, none⟩)) (by simp [Act.eval, Act.put]) HBK.out (fun ch w' hr => ?_) ?_; (obtain ⟨E, h1, h2, h3, h4⟩ := hr; exact ⟨rfl, E, [], h1, .inr ⟨h2, h3, h4⟩⟩); rintro u w2 ⟨f, k, q, o, zs, Z, hblk, rfl, HZ, HW2, kb, kc⟩; have HBLK := hide hblk; clear hblk)
        | (refine stepRowq (by rfl) _ _ (by rfl) 0 (.slice a M c) (pre.map pcq) #[.int .i64 k, .bool f, .int .i64 p', .int .i64 q, .int .i64 N, .int .i64 Z] w2.heap.size 1 M (M + 1) (0, 0) (by simp [Act.eval, Act.put]) ((HW2.out.tx.pcs.base (Nat.zero_le _)).alloc _) (by simp [Act.eval, Act.put]) (heap_alloc_new _ _) rfl (by simp [Value.oneCell']) HML.out.1 HML.out.2 (Nat.zero_le _) ?_; intro gg cap6 w6 ho6 hg6 hat6; obtain ⟨t6, t7, K6, h6⟩ := HW2.out.next ((Below.refl _ _).alloc (Nat.le_refl _) _) ho6 hg6 hat6; have HT6 := hide h6; clear h6 ho6 hg6 hat6))
      all_goals
        have HR2 := hide (HR.out.step HBLK.out)
        have HLT := hide (HBLK.out.lt HX.out.tx.rd.1 rfl)
        have HTE : Hid (∃ K W2, Wks W0 w b2 W2 (w6.setCell ⟨b2, 0, none⟩ (.slice (some ⟨gg, 0, none⟩) (M + 1) cap6)) g r row q L o f (.slice (some ⟨gg, 0, none⟩) (pre ++ [(⟨k, f, p', q, o'.length, o.length⟩ : Pc)]).length cap6) ((pre ++ [(⟨k, f, p', q, o'.length, o.length⟩ : Pc)]).map pcq) K zs) := by
          refine ⟨K6, W'.setCell ⟨b2, 0, none⟩ (.slice (some ⟨gg, 0, none⟩) (M + 1) cap6), ?_⟩
          have e1 : (pre ++ [(⟨k, f, p', q, o'.length, o.length⟩ : Pc)]).length = M + 1 := by rw [List.length_append, ← HM.out]; rfl
          have e2 : (pre ++ [(⟨k, f, p', q, o'.length, o.length⟩ : Pc)]).map pcq = pre.map pcq ++ [#[.int .i64 k, .bool f, .int .i64 p', .int .i64 q, .int .i64 N, .int .i64 Z]] := by rw [List.map_append, HN.out, HZ.out]; rfl
          rw [e1, e2]
          exact HT6.out
        clear HT6 t6 t7 kb kc HW2 HBLK HBK
        go_wp2
        go_roundw
        case rel =>
          obtain ⟨K2, W2, hW2⟩ := HTE.out
          exact ⟨q, o, f, pre ++ [(⟨k, f, p', q, o'.length, o.length⟩ : Pc)], _, cap6, W2, K2, zs, hW2, HR2, by show List.length _ ≤ _; rw [List.length_append]; have := HLT.out; have := HPL.out; simp only [List.length_singleton]; omega⟩
        case measure =>
          obtain ⟨K2, W2, hW2⟩ := HTE.out
          rw [HMS.out, hW2.tx.at]
          simp [intOf]
          have := HLT.out
          omega
end Go.Proofs.YtpmgnpfpnkmmbaaGreatDoor

