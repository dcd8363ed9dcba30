import Derived.Test.YtippppcdongahaaDoorG15Wkq
namespace Go.Proofs.YtippppcdongahaaDoor
open Go.RowKit Go.Maps
set_option maxRecDepth 20000
set_option linter.unusedVariables false
set_option linter.unusedSimpArgs false

structure Bx (b : Nat) (w w' : World) : Prop where
  os : w'.os = w.os
  tape : w'.tape = w.tape
  output : w'.output = w.output
  size : w.heap.size ≤ w'.heap.size
  block : ∀ k, k < w.heap.size → k ≠ b → w'.heap[k]? = w.heap[k]?

theorem Bx.refl (b : Nat) (w : World) : Bx b w w := ⟨rfl, rfl, rfl, Nat.le_refl _, fun _ _ _ => rfl⟩
theorem Bx.below {b : Nat} {w W' w' : World} (h : Bx b w W') (hs : W'.heap.size = w.heap.size) (hb : Below W'.heap.size W' w') : Bx b w w' :=
  ⟨hb.os.trans h.os, hb.tape.trans h.tape, hb.output.trans h.output, Nat.le_trans h.size hb.size, fun k hk hn => (hb.block k (by omega)).trans (h.block k hk hn)⟩
theorem Bx.set {b : Nat} {w W' : World} (h : Bx b w W') (k : Nat) (u : Value) : Bx b w (W'.setCell ⟨b, k, none⟩ u) :=
  ⟨h.os, h.tape, h.output, by rw [size_setCell]; exact h.size, fun j hj hn => (setCell_others W' b k u j hn).trans (h.block j hj hn)⟩

structure Wks (W0 w : World) (b2 : Nat) (W' wr : World) (g r : Nat) (row : List Int) (p L : Nat) (o : List Int) (dn : Bool) (v : Value) (R : List (Array Value)) (K : Nat → Nat) (ys : List ((Nat → Nat) × Thing)) : Prop where
  tx : TX W' wr g r row p L o dn ((K, tpq v R) :: ys)
  bx : Bx b2 w W'
  sz : W'.heap.size = w.heap.size
  cell : W'.cell? ⟨b2, 0, none⟩ = some v
  fr : W'.frozen? ⟨b2, 0, none⟩ = false
  lo : W0.heap.size ≤ b2
  be : Below W0.heap.size W0 W'

theorem Wks.lt {W0 w : World} {b2 : Nat} {W' wr : World} {g r : Nat} {row : List Int} {p L : Nat} {o : List Int} {dn : Bool} {v : Value} {R : List (Array Value)} {K : Nat → Nat} {ys : List ((Nat → Nat) × Thing)} (h : Wks W0 w b2 W' wr g r row p L o dn v R K ys) : b2 < W'.heap.size := World.block_lt_of_cell? _ _ h.cell

theorem Wks.box {W0 w : World} {b2 : Nat} {W' wr : World} {g r : Nat} {row : List Int} {p L : Nat} {o : List Int} {dn : Bool} {v : Value} {R : List (Array Value)} {K : Nat → Nat} {ys : List ((Nat → Nat) × Thing)} (h : Wks W0 w b2 W' wr g r row p L o dn v R K ys) : wr.cell? ⟨b2, 0, none⟩ = some v ∧ wr.frozen? ⟨b2, 0, none⟩ = false :=
  ⟨(h.tx.bel.cell h.lt).trans h.cell, (h.tx.bel.frozen h.lt).trans h.fr⟩

theorem Wks.next {W0 w : World} {b2 : Nat} {W' wr : World} {g r : Nat} {row : List Int} {p L : Nat} {o : List Int} {dn : Bool} {v : Value} {R : List (Array Value)} {K : Nat → Nat} {ys : List ((Nat → Nat) × Thing)} (h : Wks W0 w b2 W' wr g r row p L o dn v R K ys)
    {w1 w6 : World} {b n cap : Nat} {R' : List (Array Value)} (hb : Below wr.heap.size wr w1) (ho : ORp 36 6 w6 0 (.slice (some ⟨b, 0, none⟩) n cap) R') (hg : w1.grownBy w6 v.ownBlock) (hat : v.ownBlock = some b ∨ b = w1.heap.size) :
    w6.cell? ⟨b2, 0, none⟩ = some v ∧ w6.frozen? ⟨b2, 0, none⟩ = false ∧ ∃ K', Wks W0 w b2 (W'.setCell ⟨b2, 0, none⟩ (.slice (some ⟨b, 0, none⟩) n cap)) (w6.setCell ⟨b2, 0, none⟩ (.slice (some ⟨b, 0, none⟩) n cap)) g r row p L o dn (.slice (some ⟨b, 0, none⟩) n cap) R' K' ys := by
  have hlt := h.lt
  have hw := h.tx.bel.size
  have e1 : w6.heap[b2]? = wr.heap[b2]? := (hg.block b2 (by have := hb.size; omega) (fun e => by have := (h.tx.pcs.lt b2 e.symm).1; omega)).trans (hb.block b2 (by omega))
  obtain ⟨K', h2⟩ := h.tx.pgrow hb ho hg hat
  refine ⟨(World.cell?_of_block e1).trans h.box.1, (World.frozen?_of_block e1).trans h.box.2, K', h2.under hlt 0 _, h.bx.set 0 _, by rw [size_setCell]; exact h.sz, World.cell?_setCell_same _ _ _ h.cell, by rw [World.frozen?_setCell]; exact h.fr, h.lo, ?_⟩
  exact h.be.setCell (p := ⟨b2, 0, none⟩) h.lo _

set_option maxHeartbeats 8000000 in
theorem hwalk1 {W0 w : World} {b0 b1 b2 : Nat} {v : Value} {l : List Int} {limit : Int} (c0 : w.cell? ⟨b0, 0, none⟩ = some v) (c1 : w.cell? ⟨b1, 0, none⟩ = some (.int .i64 limit)) (c2 : w.cell? ⟨b2, 0, none⟩ = some (.slice none 0 0)) (f2 : w.frozen? ⟨b2, 0, none⟩ = false) (hb2 : W0.heap.size ≤ b2) (hbw : Below W0.heap.size W0 w)
    (h : SB w v l) (hB : Byt l) (T : Tab W0) (O : Odr W0) :
    Calls Tryd.prog 19 #[.pointer (some ⟨b0, 0, none⟩), .pointer (some ⟨b1, 0, none⟩), .pointer (some ⟨b2, 0, none⟩)] w fun e w' => ∃ E R, Wlk l limit E R ∧ ((E = 0 ∧ e = .returned (.tuple #[]) ∧ ∃ a c, w'.cell? ⟨b2, 0, none⟩ = some (.slice a R.length c) ∧ w'.frozen? ⟨b2, 0, none⟩ = false ∧ ORp 36 6 w' w.heap.size (.slice a R.length c) (R.map pcq) ∧ Bx b2 w w' ∧ R.length ≤ 268435456) ∨ (E ≠ 0 ∧ e = flt E ∧ Bx b2 w w')) := by
  have HT := hide T
  have HO := hide O
  have HBG := hide (hbegin h hB limit)
  have HC2 := hide c2
  have HF2 := hide f2
  have HB2 := hide hb2
  have HBW := hide hbw
  clear T O h hB c2 f2 hb2 hbw
  go_enter Tryd.func19, Tryd.ntmps19
  go_wp2_with fail
  refine HBG.out.mono ?_
  rintro e w1 (⟨hdom, g, r, rfl, h1⟩ | ⟨hdom, rfl, h1⟩)
  case inr =>
    have HX := hide h1
    have HI : Hid (Wlk l limit 1 []) := .inl ⟨hdom, rfl, rfl⟩
    clear h1 c0 c1 hdom
    go_wp2
    exact ⟨rfl, 1, [], HI.out, .inr ⟨by decide, rfl, (Bx.refl _ _).below rfl HX.out⟩⟩
  obtain ⟨L, HL⟩ : ∃ L : Nat, Hid (L = limit.toNat) := ⟨_, rfl⟩
  rw [← HL.out] at h1
  have HX1 : Hid (∃ K, Wks W0 w b2 w w1 g r (unpack l) 0 L [] false (.slice none 0 0) (([] : List Pc).map pcq) K []) := by
    obtain ⟨Kt, Kr, Ko, a, c, fl, fd, HH, hf, hk⟩ := h1
    have h5 := HH.push (Below.refl _ _) (K := fun _ => 0) (x := tpq (.slice none 0 0) []) ⟨ORp.nil _ _ _ _, fun k hk => by simp [Value.ownBlock] at hk, fun k hk => absurd rfl hk⟩ (fun k hk => absurd rfl hk)
    refine ⟨fun _ => 0, ⟨Kt, Kr, Ko, a, c, fl, fd, h5, ?_, hk⟩, Bx.refl _ _, rfl, HC2.out, HF2.out, HB2.out, HBW.out⟩
    rcases hf with hf | ⟨gl, gd, i, j, Kl, Kd, h1, h2, h3, h4⟩
    · exact .inl hf
    · simp at h3
  have HDM := hide hdom
  have HRD : Hid (Wdg (unpack l) L 0 [] false []) := .inl ⟨rfl, fun ps E q o ht => ht⟩
  have HIF : Hid (∀ E ps q o, Txt (unpack l) L 0 [] ps E q o → (E = 0 → Wlk l limit 0 ps) ∧ (E ≠ 0 → Wlk l limit E [])) := fun E ps q o ht => by
    rw [HL.out] at ht
    exact ⟨fun he => .inr ⟨HDM.out, ps, q, o, by rw [← he]; exact ht, .inl ⟨rfl, rfl⟩⟩, fun he => .inr ⟨HDM.out, ps, q, o, ht, .inr ⟨he, rfl⟩⟩⟩
  obtain ⟨row, HROW⟩ : ∃ row, Hid (row = unpack l) := ⟨_, rfl⟩
  rw [← HROW.out] at HX1 HRD HIF
  clear h1 hdom HBG c0 c1
  go_wp2
  go_loopw [] (fun wr => ∃ (p' : Nat) (o' : List Int) (dn : Bool) (pre : List Pc) (a : Option Addr) (c : Nat) (W' : World) (K : Nat → Nat) (ys : List ((Nat → Nat) × Thing)), Hid (Wks W0 w b2 W' wr g r row p' L o' dn (.slice a pre.length c) (pre.map pcq) K ys) ∧ Hid (Wdg row L p' o' dn pre) ∧ Hid (pre.length ≤ p')) (fun wr => row.length + 1 - (intOf ((wr.cell? ⟨r, 1, none⟩).getD undef)).toNat)
  case atStart =>
    obtain ⟨K, hK⟩ := HX1.out
    exact ⟨0, [], false, [], none, 0, w, K, [], hK, HRD, Nat.zero_le _⟩
  case round =>
    obtain ⟨p', o', dn, pre, a, c, W', K, ys, HX, HR, HPL⟩ := hrel
    clear HX1 HRD
    have HMS : Hid ((intOf ((wr.cell? ⟨r, 1, none⟩).getD undef)).toNat = p') := by show _ = _; rw [HX.out.tx.at]; simp [intOf]
    obtain ⟨ax, cx, d0, d1, d3, -, -, -, hat⟩ := HX.out.tx.cells
    clear d0 d1 hat
    cases dn with
    | true =>
      have HI : Hid (Wlk l limit 0 pre) := by
        rcases HR.out with ⟨hr, _⟩ | ⟨_, hr⟩
        · cases hr
        · exact (HIF.out 0 pre _ _ hr).1 rfl
      have HFN : Hid (wr.cell? ⟨b2, 0, none⟩ = some (.slice a pre.length c) ∧ wr.frozen? ⟨b2, 0, none⟩ = false ∧ ORp 36 6 wr w.heap.size (.slice a pre.length c) (pre.map pcq) ∧ Bx b2 w wr ∧ pre.length ≤ 268435456) := by
        refine ⟨HX.out.box.1, HX.out.box.2, ?_, HX.out.bx.below HX.out.sz HX.out.tx.bel, ?_⟩
        · have := HX.out.tx.pcs; rwa [HX.out.sz] at this
        · have := HPL.out; have := HX.out.tx.rd.2; omega
      go_wp2
      (try simp only [Exit.inBlock, Exit.then])
      refine bodyPost_end (results_none rfl _ _ _) rfl ?_
      exact ⟨0, pre, HI.out, .inl ⟨rfl, rfl, a, c, HFN.out⟩⟩
    | false =>
      obtain ⟨k2, j2⟩ := HX.out.box
      obtain ⟨M, HM⟩ : ∃ M : Nat, Hid (M = pre.length) := ⟨_, rfl⟩
      obtain ⟨N, HN⟩ : ∃ N : Nat, Hid (N = o'.length) := ⟨_, rfl⟩
      rw [← HM.out] at k2
      have HML : Hid ((pre.map pcq).length ≤ 268435456 ∧ M + 1 = (pre.map pcq).length + 1) := by
        show _ ∧ _
        rw [List.length_map, ← HM.out]
        have := HPL.out; have := HX.out.tx.rd.2; have := HM.out
        omega
      have HWD := hide (HX.out.tx.below ((Below.refl _ _).drew))
      have hTW := HT.out.mono HX.out.be
      have hOW := HO.out.mono HX.out.be
      have HBK : Hid (Calls Tryd.prog 17 #[.pointer (some ⟨g, 0, none⟩)] wr.drew fun e w' => (∃ u, e = .returned u ∧ ∃ f k q o zs Z, Blk row L p' o' 0 f k q o ∧ u = .agg #[.int .i64 k, .bool f, .int .i64 p', .int .i64 q, .int .i64 (N : Nat), .int .i64 (Z : Nat)] ∧ Hid (Z = o.length) ∧ Hid (Wks W0 w b2 W' w' g r row q L o f (.slice a M c) (pre.map pcq) K zs) ∧ w'.cell? ⟨b2, 0, none⟩ = some (.slice a M c) ∧ (w'.alloc (.cells #[.int .i64 k, .bool f, .int .i64 p', .int .i64 q, .int .i64 (N : Nat), .int .i64 (Z : Nat)] 36)).cell? ⟨b2, 0, none⟩ = some (.slice a M c)) ∨ ∃ ch, e = .panicked ch ∧ ∃ E, Wlk l limit E [] ∧ E ≠ 0 ∧ .panicked ch = flt E ∧ Bx b2 w w') := by
        refine (hblock HWD.out hTW hOW).mono ?_
        rintro e w2 ⟨E, f, k, q, o, hblk, ⟨rfl, rfl, zs, h2⟩ | ⟨he, rfl, h2⟩⟩
        · have hw2 : Wks W0 w b2 W' w2 g r row q L o f (.slice a M c) (pre.map pcq) K (ys ++ zs) := by
            rw [HM.out]
            exact ⟨h2, HX.out.bx, HX.out.sz, HX.out.cell, HX.out.fr, HX.out.lo, HX.out.be⟩
          refine .inl ⟨_, rfl, f, k, q, o, _, o.length, hblk, by rw [HN.out], rfl, hw2, hw2.box.1, ?_⟩
          rw [((Below.refl w2.heap.size w2).alloc (Nat.le_refl _) _).cell (World.block_lt_of_cell? _ _ hw2.box.1)]
          exact hw2.box.1
        · obtain ⟨ps, q', o2, ht⟩ := HR.out.bad hblk he
          exact .inr ⟨_, rfl, E, (HIF.out E ps q' o2 ht).2 he, he, rfl, HX.out.bx.below HX.out.sz h2⟩
      clear hTW hOW j2 HWD
      go_wp2
      go_region_law (first
        | (refine step_callP (by rfl) _ _ 17 (by rfl) (fun args w => Tryd.call17 args w) (.pointer (some ⟨g, 0, none⟩)) (by simp [Act.eval, Act.put]) HBK.out (fun ch w' hr => ?_) ?_; (obtain ⟨E, h1, h2, h3, h4⟩ := hr; exact ⟨rfl, E, [], h1, .inr ⟨h2, h3, h4⟩⟩); rintro u w2 ⟨f, k, q, o, zs, Z, hblk, rfl, HZ, HW2, kb, kc⟩; have HBLK := hide hblk; clear hblk)
        | (refine stepRowq (by rfl) _ _ (by rfl) 0 (.slice a M c) (pre.map pcq) #[.int .i64 k, .bool f, .int .i64 p', .int .i64 q, .int .i64 N, .int .i64 Z] w2.heap.size 1 M (M + 1) (0, 0) (by simp [Act.eval, Act.put]) ((HW2.out.tx.pcs.base (Nat.zero_le _)).alloc _) (by simp [Act.eval, Act.put]) (heap_alloc_new _ _) rfl (by simp [Value.oneCell']) HML.out.1 HML.out.2 (Nat.zero_le _) ?_; intro gg cap6 w6 ho6 hg6 hat6; obtain ⟨t6, t7, K6, h6⟩ := HW2.out.next ((Below.refl _ _).alloc (Nat.le_refl _) _) ho6 hg6 hat6; have HT6 := hide h6; clear h6 ho6 hg6 hat6))
      all_goals
        have HR2 := hide (HR.out.step HBLK.out)
        have HLT := hide (HBLK.out.lt HX.out.tx.rd.1 rfl)
        have HTE : Hid (∃ K W2, Wks W0 w b2 W2 (w6.setCell ⟨b2, 0, none⟩ (.slice (some ⟨gg, 0, none⟩) (M + 1) cap6)) g r row q L o f (.slice (some ⟨gg, 0, none⟩) (pre ++ [(⟨k, f, p', q, o'.length, o.length⟩ : Pc)]).length cap6) ((pre ++ [(⟨k, f, p', q, o'.length, o.length⟩ : Pc)]).map pcq) K zs) := by
          refine ⟨K6, W'.setCell ⟨b2, 0, none⟩ (.slice (some ⟨gg, 0, none⟩) (M + 1) cap6), ?_⟩
          have e1 : (pre ++ [(⟨k, f, p', q, o'.length, o.length⟩ : Pc)]).length = M + 1 := by rw [List.length_append, ← HM.out]; rfl
          have e2 : (pre ++ [(⟨k, f, p', q, o'.length, o.length⟩ : Pc)]).map pcq = pre.map pcq ++ [#[.int .i64 k, .bool f, .int .i64 p', .int .i64 q, .int .i64 N, .int .i64 Z]] := by rw [List.map_append, HN.out, HZ.out]; rfl
          rw [e1, e2]
          exact HT6.out
        clear HT6 t6 t7 kb kc HW2 HBLK HBK
        go_wp2
        go_roundw
        case rel =>
          obtain ⟨K2, W2, hW2⟩ := HTE.out
          exact ⟨q, o, f, pre ++ [(⟨k, f, p', q, o'.length, o.length⟩ : Pc)], _, cap6, W2, K2, zs, hW2, HR2, by show List.length _ ≤ _; rw [List.length_append]; have := HLT.out; have := HPL.out; simp only [List.length_singleton]; omega⟩
        case measure =>
          obtain ⟨K2, W2, hW2⟩ := HTE.out
          rw [HMS.out, hW2.tx.at]
          simp [intOf]
          have := HLT.out
          omega
end Go.Proofs.YtippppcdongahaaDoor

namespace Go.Proofs.YtippppcdongahaaDoor
open Go.RowKit Go.Maps
set_option maxRecDepth 20000
set_option linter.unusedVariables false

def Ians (w : World) (l : List Int) (limit : Int) (e : Ending) (w' : World) : Prop :=
  ∃ E n o a c, Ifl l limit E n o ∧ e = .returned (.tuple #[.slice a o.length c, .int .i64 (n : Nat), .int .i64 E]) ∧ OB w' w.heap.size (.slice a o.length c) o ∧ Below w.heap.size w w'

theorem ob_set {w : World} {B b : Nat} {v u : Value} {l : List Int} (h : OB w B v l) (hb : b < B) : OB (w.setCell ⟨b, 0, none⟩ u) B v l := h.move fun k hk => setCell_others w b 0 u k (by have := (h.lt k hk).1; omega)

theorem cell_set {w : World} {b c : Nat} {u z : Value} (h : w.cell? ⟨c, 0, none⟩ = some z) (hbc : b ≠ c) : (w.setCell ⟨b, 0, none⟩ u).cell? ⟨c, 0, none⟩ = some z := by
  rw [World.cell?_of_block (w := w) (setCell_others w b 0 u c (fun e => hbc e.symm))]; exact h
theorem froz_set {w : World} {b c : Nat} {u : Value} (h : w.frozen? ⟨c, 0, none⟩ = false) (hbc : b ≠ c) : (w.setCell ⟨b, 0, none⟩ u).frozen? ⟨c, 0, none⟩ = false := by
  rw [World.frozen?_of_block (w := w) (setCell_others w b 0 u c (fun e => hbc e.symm))]; exact h

theorem five {w : World} (o0 o1 o2 o3 o4 : Obj) : ∃ w5, w5 = ((((w.alloc o0).alloc o1).alloc o2).alloc o3).alloc o4 ∧ w5.heap[w.heap.size]? = some o0 ∧ w5.heap[w.heap.size + 1]? = some o1 ∧ w5.heap[w.heap.size + 2]? = some o2 ∧ w5.heap[w.heap.size + 3]? = some o3 ∧ w5.heap[w.heap.size + 4]? = some o4 ∧ w5.heap.size = w.heap.size + 5 ∧ Below w.heap.size w w5 := by
  have b1 := (Below.refl w.heap.size w).alloc (Nat.le_refl _) o0
  have b2 := b1.alloc b1.size o1
  have b3 := b2.alloc b2.size o2
  have b4 := b3.alloc b3.size o3
  have b5 := b4.alloc b4.size o4
  refine ⟨_, rfl, ?_, ?_, ?_, ?_, ?_, by simp, b5⟩
  · rw [Below.heap_alloc _ _ _ (by simp <;> omega), Below.heap_alloc _ _ _ (by simp <;> omega), Below.heap_alloc _ _ _ (by simp <;> omega), Below.heap_alloc _ _ _ (by simp <;> omega)]; exact heap_alloc_new _ _
  · rw [Below.heap_alloc _ _ _ (by simp <;> omega), Below.heap_alloc _ _ _ (by simp <;> omega), Below.heap_alloc _ _ _ (by simp <;> omega)]; exact (by simpa using heap_alloc_new (w.alloc o0) o1)
  · rw [Below.heap_alloc _ _ _ (by simp <;> omega), Below.heap_alloc _ _ _ (by simp <;> omega)]; exact (by simpa using heap_alloc_new ((w.alloc o0).alloc o1) o2)
  · rw [Below.heap_alloc _ _ _ (by simp <;> omega)]; exact (by simpa using heap_alloc_new (((w.alloc o0).alloc o1).alloc o2) o3)
  · exact (by simpa using heap_alloc_new ((((w.alloc o0).alloc o1).alloc o2).alloc o3) o4)

theorem one_cell {w : World} {g : Nat} {z : Value} {t : TypeId} (h : w.heap[g]? = some (.cells #[z] t (0, 0))) : w.cell? ⟨g, 0, none⟩ = some z ∧ w.frozen? ⟨g, 0, none⟩ = false := by
  constructor
  · unfold World.cell?; rw [h]; rfl
  · unfold World.frozen?; rw [h]; rfl

set_option maxHeartbeats 4000000 in
theorem hInflate {w : World} {v : Value} {l : List Int} (h : SB w v l) (hB : Byt l) (limit : Int) (T : Tab w) (O : Odr w) :
    Calls Tryd.prog 5 #[v, .int .i64 limit] w (Ians w l limit) := by
  obtain ⟨w5, hw5, t0, t1, t2, t3, t4, hsz, hb5⟩ := five (w := w) (.cells #[v] 22) (.cells #[.int .i64 limit] 3) (.cells #[.slice none 0 0] 22) (.cells #[.int .i64 0] 3) (.cells #[.int .i64 0] 24)
  obtain ⟨k0, -⟩ := one_cell t0
  obtain ⟨k1, -⟩ := one_cell t1
  obtain ⟨k2, j2⟩ := one_cell t2
  obtain ⟨k3, j3⟩ := one_cell t3
  obtain ⟨k4, j4⟩ := one_cell t4
  have hin := hinf1 k0 k1 ⟨_, k2⟩ ⟨_, k3⟩ j2 j3 (by omega) (h.below hb5) hB (T.mono hb5) (O.mono hb5)
  obtain ⟨w4, hw4⟩ : ∃ w4, (((w.alloc (.cells #[v] 22)).alloc (.cells #[.int .i64 limit] 3)).alloc (.cells #[.slice none 0 0] 22)).alloc (.cells #[.int .i64 0] 3) = w4 := ⟨_, rfl⟩
  have hs4 : w4.heap.size = w.heap.size + 4 := by rw [← hw4]; simp
  rw [hw4] at hw5
  have HCA : Hid (Calls Tryd.prog 14 #[.func (.func 15) #[] #[.pointer (some ⟨w.heap.size, 0, none⟩), .pointer (some ⟨w.heap.size + 1, 0, none⟩), .pointer (some ⟨w.heap.size + 2, 0, none⟩), .pointer (some ⟨w.heap.size + 3, 0, none⟩)]] w4 fun e w' => ∃ E n o a c, Ifl l limit E n o ∧ e = .returned (.int .i64 E) ∧ w'.cell? ⟨w.heap.size + 2, 0, none⟩ = some (.slice a o.length c) ∧ w'.cell? ⟨w.heap.size + 3, 0, none⟩ = some (.int .i64 (n : Nat)) ∧ w'.frozen? ⟨w.heap.size + 2, 0, none⟩ = false ∧ w'.frozen? ⟨w.heap.size + 3, 0, none⟩ = false ∧ OB w' (w.heap.size + 5) (.slice a o.length c) o ∧ Below w.heap.size w w') := by
    refine (hcaught w4 15 _ (fun w => Tryd.call15 _ w)
      (fun w' => ∃ n o a c, Ifl l limit 0 n o ∧ w'.cell? ⟨w.heap.size + 2, 0, none⟩ = some (.slice a o.length c) ∧ w'.cell? ⟨w.heap.size + 3, 0, none⟩ = some (.int .i64 (n : Nat)) ∧ w'.frozen? ⟨w.heap.size + 2, 0, none⟩ = false ∧ w'.frozen? ⟨w.heap.size + 3, 0, none⟩ = false ∧ OB w' (w.heap.size + 5) (.slice a o.length c) o ∧ Below w.heap.size w w' ∧ w'.cell? ⟨w.heap.size + 4, 0, none⟩ = some (.int .i64 0) ∧ w'.frozen? ⟨w.heap.size + 4, 0, none⟩ = false ∧ w.heap.size + 5 ≤ w'.heap.size)
      (fun E w' => Ifl l limit E 0 [] ∧ Below w5.heap.size w5 w') ?_ ?_ ?_).mono ?_
    · rw [← hw5]
      refine hin.mono ?_
      rintro e w' ⟨E, n, o, hI, ⟨rfl, rfl, w1, a, c, hb, ho, rfl⟩ | ⟨he, rfl, hb⟩⟩
      · refine .inl ⟨rfl, n, o, a, c, hI, ?_⟩
        have u2 : w1.cell? ⟨w.heap.size + 2, 0, none⟩ = some (.slice none 0 0) := by rw [hb.cell (by dsimp only; omega)]; exact k2
        have u3 : w1.cell? ⟨w.heap.size + 3, 0, none⟩ = some (.int .i64 0) := by rw [hb.cell (by dsimp only; omega)]; exact k3
        have u4 : w1.cell? ⟨w.heap.size + 4, 0, none⟩ = some (.int .i64 0) := by rw [hb.cell (by dsimp only; omega)]; exact k4
        have v2 : w1.frozen? ⟨w.heap.size + 2, 0, none⟩ = false := by rw [hb.frozen (by dsimp only; omega)]; exact j2
        have v3 : w1.frozen? ⟨w.heap.size + 3, 0, none⟩ = false := by rw [hb.frozen (by dsimp only; omega)]; exact j3
        have v4 : w1.frozen? ⟨w.heap.size + 4, 0, none⟩ = false := by rw [hb.frozen (by dsimp only; omega)]; exact j4
        rw [hsz] at ho
        have hsz1 := hb.size
        refine ⟨cell_set (World.cell?_setCell_same _ _ _ u2) (by omega), World.cell?_setCell_same _ _ _ (cell_set u3 (by omega)), froz_set ?_ (by omega), ?_, ob_set (ob_set ho (by omega)) (by omega), ?_, cell_set (cell_set u4 (by omega)) (by omega), froz_set (froz_set v4 (by omega)) (by omega), by simp; omega⟩
        · rw [World.frozen?_setCell]; exact v2
        · rw [World.frozen?_setCell]; exact froz_set v3 (by omega)
        · exact ((hb5.trans (hb.mono (by omega))).setCell (p := ⟨w.heap.size + 2, 0, none⟩) (by dsimp only; omega) _).setCell (p := ⟨w.heap.size + 3, 0, none⟩) (by dsimp only; omega) _
      · refine .inr ⟨E, rfl, ?_, hb⟩
        rcases hI with ⟨hd, rfl, rfl, rfl⟩ | ⟨hd, ps, q, o', ht, ⟨h0, _⟩ | ⟨_, rfl, rfl⟩⟩
        · exact .inl ⟨hd, rfl, rfl, rfl⟩
        · exact absurd h0 he
        · exact .inr ⟨hd, ps, q, o', ht, .inr ⟨he, rfl, rfl⟩⟩
    · rintro w' ⟨n, o, a, c, -, -, -, -, -, -, -, x1, x2, x3⟩
      rw [hs4]
      exact ⟨x1, x2, by omega⟩
    · rintro E w' ⟨-, hb⟩
      rw [hs4]
      exact ⟨by rw [hb.cell (by dsimp only; omega)]; exact k4, by rw [hb.frozen (by dsimp only; omega)]; exact j4, by have := hb.size; omega⟩
    · rintro e w' (⟨rfl, w1, ⟨n, o, a, c, hI, x2, x3, y2, y3, ho, hb, -⟩, rfl⟩ | ⟨E, w1, rfl, ⟨hI, hb⟩, rfl⟩)
      · rw [hs4]
        refine ⟨0, n, o, a, c, hI, rfl, cell_set x2 (by omega), cell_set x3 (by omega), froz_set y2 (by omega), froz_set y3 (by omega), ob_set ho (by omega), hb.setCell (p := ⟨w.heap.size + 4, 0, none⟩) (by dsimp only; omega) _⟩
      · rw [hs4]
        have hsz1 := hb.size
        have hbb : Below w.heap.size w (w1.setCell ⟨w.heap.size + 4, 0, none⟩ (.int .i64 E)) := (hb5.trans (hb.mono (by omega))).setCell (p := ⟨w.heap.size + 4, 0, none⟩) (by dsimp only; omega) _
        have u2 : w1.cell? ⟨w.heap.size + 2, 0, none⟩ = some (.slice none 0 0) := by rw [hb.cell (by dsimp only; omega)]; exact k2
        have u3 : w1.cell? ⟨w.heap.size + 3, 0, none⟩ = some (.int .i64 0) := by rw [hb.cell (by dsimp only; omega)]; exact k3
        have v2 : w1.frozen? ⟨w.heap.size + 2, 0, none⟩ = false := by rw [hb.frozen (by dsimp only; omega)]; exact j2
        have v3 : w1.frozen? ⟨w.heap.size + 3, 0, none⟩ = false := by rw [hb.frozen (by dsimp only; omega)]; exact j3
        have ha := (Below.refl (w1.setCell ⟨w.heap.size + 4, 0, none⟩ (.int .i64 E)).heap.size (w1.setCell ⟨w.heap.size + 4, 0, none⟩ (.int .i64 E))).alloc (Nat.le_refl _) (.cells #[.int .i64 E] 56)
        refine ⟨E, 0, [], none, 0, hI, rfl, ?_, ?_, ?_, ?_, World.ownsRow_nil _ _ _ _, hbb.alloc hbb.size _⟩
        · rw [ha.cell (by rw [size_setCell]; dsimp only; omega)]; exact cell_set u2 (by omega)
        · rw [ha.cell (by rw [size_setCell]; dsimp only; omega)]; exact cell_set u3 (by omega)
        · rw [ha.frozen (by rw [size_setCell]; dsimp only; omega)]; exact froz_set v2 (by omega)
        · rw [ha.frozen (by rw [size_setCell]; dsimp only; omega)]; exact froz_set v3 (by omega)
  have HW4 := hide hw4
  have hmf : ∀ (fn : Fn) (first cap : Array Value) (w : World), (Instr.makeFunc fn first cap).run Tryd.prog w = .ok (.func fn first cap) w := fun _ _ _ _ => rfl
  obtain ⟨a, c, hva, -⟩ := h
  subst hva
  clear hw4 hw5 hin t0 t1 t2 t3 t4 hsz hb5 k0 k1 k2 k3 k4 j2 j3 j4 hs4 T O hB
  go_enter Tryd.func5, Tryd.ntmps5
  go_wp2_with fail
  rw [HW4.out]
  refine HCA.out.mono ?_
  rintro e w6 ⟨E, n, o, a2, c2, hI, rfl, x2, x3, y2, y3, ho, hb⟩
  obtain ⟨M, HM⟩ : ∃ M : Nat, Hid (M = o.length) := ⟨_, rfl⟩
  rw [← HM.out] at x2
  have HI := hide hI
  have HOO := hide ho
  have HBB := hide hb
  clear hI ho hb HCA
  have z1 : (w6.setCell ⟨w.heap.size + 2, 0, none⟩ (.slice a2 M c2)).cell? ⟨w.heap.size + 3, 0, none⟩ = some (.int .i64 (n : Nat)) := cell_set x3 (by omega)
  have z2 : (w6.setCell ⟨w.heap.size + 2, 0, none⟩ (.slice a2 M c2)).frozen? ⟨w.heap.size + 3, 0, none⟩ = false := froz_set y3 (by omega)
  have z3 : ((w6.setCell ⟨w.heap.size + 2, 0, none⟩ (.slice a2 M c2)).setCell ⟨w.heap.size + 3, 0, none⟩ (.int .i64 (n : Nat))).cell? ⟨w.heap.size + 2, 0, none⟩ = some (.slice a2 M c2) := cell_set (World.cell?_setCell_same _ _ _ x2) (by omega)
  have z4 : ((w6.setCell ⟨w.heap.size + 2, 0, none⟩ (.slice a2 M c2)).setCell ⟨w.heap.size + 3, 0, none⟩ (.int .i64 (n : Nat))).cell? ⟨w.heap.size + 3, 0, none⟩ = some (.int .i64 (n : Nat)) := World.cell?_setCell_same _ _ _ z1
  have HOF : Hid (OB ((w6.setCell ⟨w.heap.size + 2, 0, none⟩ (.slice a2 M c2)).setCell ⟨w.heap.size + 3, 0, none⟩ (.int .i64 (n : Nat))) (w.heap.size + 5) (.slice a2 o.length c2) o) := ob_set (ob_set HOO.out (by omega)) (by omega)
  have HBF : Hid (Below w.heap.size w ((w6.setCell ⟨w.heap.size + 2, 0, none⟩ (.slice a2 M c2)).setCell ⟨w.heap.size + 3, 0, none⟩ (.int .i64 (n : Nat)))) := (HBB.out.setCell (p := ⟨w.heap.size + 2, 0, none⟩) (by dsimp only; omega) _).setCell (p := ⟨w.heap.size + 3, 0, none⟩) (by dsimp only; omega) _
  go_wp2
  go_region
  all_goals
    go_wp2
    refine bodyPost_ret (v := .tuple #[.slice a2 M c2, .int .i64 (n : Nat), .int .i64 E]) (by simp [results, Tryd.results5, go_sem, z3, z4]) rfl ?_
    refine ⟨E, n, o, a2, c2, HI.out, by rw [HM.out], ?_, ?_⟩
    · exact (HOF.out.base (by omega)).move fun k hk => rfl
    · exact HBF.out.drew
end Go.Proofs.YtippppcdongahaaDoor

namespace Go.Proofs.YtippppcdongahaaDoor
open Go.RowKit Go.Maps
set_option maxRecDepth 20000
set_option linter.unusedVariables false
set_option linter.unusedSimpArgs false

theorem four8 {w : World} (o0 o1 o2 o3 : Obj) : ∃ w4, w4 = (((w.alloc o0).alloc o1).alloc o2).alloc o3 ∧ w4.heap[w.heap.size]? = some o0 ∧ w4.heap[w.heap.size + 1]? = some o1 ∧ w4.heap[w.heap.size + 2]? = some o2 ∧ w4.heap[w.heap.size + 3]? = some o3 ∧ w4.heap.size = w.heap.size + 4 ∧ Below w.heap.size w w4 := by
  have b1 := (Below.refl w.heap.size w).alloc (Nat.le_refl _) o0
  have b2 := b1.alloc b1.size o1
  have b3 := b2.alloc b2.size o2
  have b4 := b3.alloc b3.size o3
  refine ⟨_, rfl, ?_, ?_, ?_, ?_, by simp, b4⟩
  · rw [Below.heap_alloc _ _ _ (by simp <;> omega), Below.heap_alloc _ _ _ (by simp <;> omega), Below.heap_alloc _ _ _ (by simp <;> omega)]; exact heap_alloc_new _ _
  · rw [Below.heap_alloc _ _ _ (by simp <;> omega), Below.heap_alloc _ _ _ (by simp <;> omega)]; exact (by simpa using heap_alloc_new (w.alloc o0) o1)
  · rw [Below.heap_alloc _ _ _ (by simp <;> omega)]; exact (by simpa using heap_alloc_new ((w.alloc o0).alloc o1) o2)
  · exact (by simpa using heap_alloc_new (((w.alloc o0).alloc o1).alloc o2) o3)

theorem Bx.low {b : Nat} {w w4 w' : World} (h : Bx b w4 w') (hb : Below w.heap.size w w4) (hlo : w.heap.size ≤ b) : Below w.heap.size w w' :=
  ⟨h.os.trans hb.os, h.tape.trans hb.tape, h.output.trans hb.output, Nat.le_trans hb.size h.size, fun k hk => (h.block k (Nat.lt_of_lt_of_le hk hb.size) (by omega)).trans (hb.block k hk)⟩

theorem orp_set {w : World} {B b : Nat} {v u : Value} {R : List (Array Value)} (h : ORp 36 6 w B v R) (hb : b < B) : ORp 36 6 (w.setCell ⟨b, 0, none⟩ u) B v R := h.move fun k hk => setCell_others w b 0 u k (by have := (h.lt k hk).1; omega)

set_option maxHeartbeats 4000000 in
theorem hWalk {w : World} {v : Value} {l : List Int} (h : SB w v l) (hB : Byt l) (limit : Int) (T : Tab w) (O : Odr w) :
    Calls Tryd.prog 7 #[v, .int .i64 limit] w (Wans w l limit) := by
  obtain ⟨w4, hw4, t0, t1, t2, t3, hsz, hb4⟩ := four8 (w := w) (.cells #[v] 22) (.cells #[.int .i64 limit] 3) (.cells #[.slice none 0 0] 28) (.cells #[.int .i64 0] 24)
  obtain ⟨k0, -⟩ := one_cell t0
  obtain ⟨k1, -⟩ := one_cell t1
  obtain ⟨k2, j2⟩ := one_cell t2
  obtain ⟨k3, j3⟩ := one_cell t3
  have hin := hwalk1 (W0 := w) k0 k1 k2 j2 (by omega) hb4 (h.below hb4) hB T O
  obtain ⟨w3, hw3⟩ : ∃ w3, ((w.alloc (.cells #[v] 22)).alloc (.cells #[.int .i64 limit] 3)).alloc (.cells #[.slice none 0 0] 28) = w3 := ⟨_, rfl⟩
  have hs3 : w3.heap.size = w.heap.size + 3 := by rw [← hw3]; simp
  rw [hw3] at hw4
  have HCA : Hid (Calls Tryd.prog 14 #[.func (.func 19) #[] #[.pointer (some ⟨w.heap.size, 0, none⟩), .pointer (some ⟨w.heap.size + 1, 0, none⟩), .pointer (some ⟨w.heap.size + 2, 0, none⟩)]] w3 fun e w' => ∃ E R a c, Wlk l limit E R ∧ e = .returned (.int .i64 E) ∧ (E = 0 → w'.cell? ⟨w.heap.size + 2, 0, none⟩ = some (.slice a R.length c)) ∧ (E ≠ 0 → R = [] ∧ a = none ∧ c = 0) ∧ ORp 36 6 w' (w.heap.size + 4) (.slice a R.length c) (R.map pcq) ∧ Below w.heap.size w w' ∧ R.length ≤ 268435456) := by
    refine (hcaught w3 19 _ (fun w => Tryd.call19 _ w)
      (fun w' => ∃ R a c, Wlk l limit 0 R ∧ w'.cell? ⟨w.heap.size + 2, 0, none⟩ = some (.slice a R.length c) ∧ ORp 36 6 w' (w.heap.size + 4) (.slice a R.length c) (R.map pcq) ∧ Bx (w.heap.size + 2) w4 w' ∧ R.length ≤ 268435456)
      (fun E w' => Wlk l limit E [] ∧ E ≠ 0 ∧ Bx (w.heap.size + 2) w4 w') ?_ ?_ ?_).mono ?_
    · rw [← hw4]
      refine hin.mono ?_
      rintro e w' ⟨E, R, hI, ⟨rfl, rfl, a, c, x2, x3, ho, hb, hl⟩ | ⟨he, rfl, hb⟩⟩
      · rw [hsz] at ho
        exact .inl ⟨rfl, R, a, c, hI, x2, ho, hb, hl⟩
      · refine .inr ⟨E, rfl, ?_, he, hb⟩
        rcases hI with ⟨hd, rfl, rfl⟩ | ⟨hd, ps, q, o', ht, ⟨h0, _⟩ | ⟨_, rfl⟩⟩
        · exact .inl ⟨hd, rfl, rfl⟩
        · exact absurd h0 he
        · exact .inr ⟨hd, ps, q, o', ht, .inr ⟨he, rfl⟩⟩
    · rintro w' ⟨R, a, c, -, -, -, hb, -⟩
      rw [hs3]
      have e3 := hb.block (w.heap.size + 3) (by omega) (by omega)
      exact ⟨(World.cell?_of_block e3).trans k3, (World.frozen?_of_block e3).trans j3, by have := hb.size; omega⟩
    · rintro E w' ⟨-, -, hb⟩
      rw [hs3]
      have e3 := hb.block (w.heap.size + 3) (by omega) (by omega)
      exact ⟨(World.cell?_of_block e3).trans k3, (World.frozen?_of_block e3).trans j3, by have := hb.size; omega⟩
    · rintro e w' (⟨rfl, w1, ⟨R, a, c, hI, x2, ho, hb, hl⟩, rfl⟩ | ⟨E, w1, rfl, ⟨hI, he, hb⟩, rfl⟩)
      · rw [hs3]
        exact ⟨0, R, a, c, hI, rfl, fun _ => cell_set x2 (by omega), fun h => absurd rfl h, orp_set ho (by omega), (hb.low hb4 (by omega)).setCell (p := ⟨w.heap.size + 3, 0, none⟩) (by dsimp only; omega) _, hl⟩
      · rw [hs3]
        have hbb : Below w.heap.size w (w1.setCell ⟨w.heap.size + 3, 0, none⟩ (.int .i64 E)) := (hb.low hb4 (by omega)).setCell (p := ⟨w.heap.size + 3, 0, none⟩) (by dsimp only; omega) _
        exact ⟨E, [], none, 0, hI, rfl, fun h => absurd h he, fun _ => ⟨rfl, rfl, rfl⟩, ORp.nil _ _ _ _, hbb.alloc hbb.size _, Nat.zero_le _⟩
  have HW3 := hide hw3
  have hmf : ∀ (fn : Fn) (first cap : Array Value) (w : World), (Instr.makeFunc fn first cap).run Tryd.prog w = .ok (.func fn first cap) w := fun _ _ _ _ => rfl
  obtain ⟨a, c, hva, -⟩ := h
  subst hva
  clear hw3 hw4 hin t0 t1 t2 t3 hsz hb4 k0 k1 k2 k3 j2 j3 hs3 T O hB
  go_enter Tryd.func7, Tryd.ntmps7
  go_wp2_with fail
  rw [HW3.out]
  refine HCA.out.mono ?_
  rintro e w6 ⟨E, R, a2, c2, hI, rfl, x2, x3, ho, hb, hl⟩
  obtain ⟨M, HM⟩ : ∃ M : Nat, Hid (M = R.length) := ⟨_, rfl⟩
  rw [← HM.out] at x2
  have HI := hide hI
  have HOO := hide ho
  have HBB := hide hb
  have HLL := hide hl
  have HX3 := hide x3
  clear hI ho hb hl HCA x3
  by_cases he : E = 0
  · have k2 := x2 he
    subst he
    clear x2
    go_wp2
    go_ret2
    exact ⟨0, R, a2, c2, HI.out, (by rw [← HM.out]; first | done | rfl), HOO.out.base (by omega), HBB.out, HLL.out⟩
  · have he' : (E != 0) = true := by simpa using he
    obtain ⟨r1, -, -⟩ := HX3.out he
    have HI2 : Hid (Wlk l limit E []) := by rw [← r1]; exact HI
    clear x2 he r1
    go_wp2
    go_ret2
    exact ⟨E, [], none, 0, HI2.out, rfl, ORp.nil _ _ _ _, HBB.out, Nat.zero_le _⟩
end Go.Proofs.YtippppcdongahaaDoor

namespace Go.Proofs.YtippppcdongahaaDoor
open Go.RowKit Go.Maps
set_option maxRecDepth 20000
set_option linter.unusedVariables false

theorem sy1_limit {l d row : List Int} {L L' p : Nat} {out : List Int} {b : Bool} {q : Nat} {o : List Int} (hl : out.length ≤ L') (h : sy1 l d row L p out = (0, b, q, o)) :
    (o.length ≤ L' → sy1 l d row L' p out = (0, b, q, o)) ∧ (L' < o.length → sy1 l d row L' p out = (85, false, p, out)) := by
  by_cases c0 : syE l row p ≠ 0
  · rw [sy1_bad c0] at h
    injection h with h
    exact absurd h c0
  have c0' : syE l row p = 0 := by omega
  rcases Nat.lt_trichotomy (nxS l row p) 256 with c | c | c
  · rw [sy1_lit c0' c] at h
    rw [sy1_lit c0' c]
    by_cases c1 : L < out.length + 1
    · rw [if_pos c1] at h; injection h with h; cases h
    · rw [if_neg c1] at h
      have ho : o.length = out.length + 1 := by
        injection h with _ h
        injection h with _ h
        injection h with h1 h2
        rw [← h2]; simp
      exact ⟨fun q => by rw [if_neg (by omega)]; exact h, fun q => by rw [if_pos (by omega)]⟩
  · rw [sy1_end c0' c] at h
    rw [sy1_end c0' c]
    have ho : o = out := by
      injection h with _ h
      injection h with _ h
      injection h with h1 h2
      exact h2.symm
    subst ho
    exact ⟨fun q => h, fun q => by omega⟩
  · rw [sy1_copy c0' c] at h
    rw [sy1_copy c0' c]
    by_cases c1 : lgE (nxS l row p) row (nxP l row p) ≠ 0
    · rw [if_pos c1] at h; injection h with h; exact absurd h c1
    rw [if_neg c1] at h ⊢
    by_cases c2 : dtE d row (lgP (nxS l row p) (nxP l row p)) ≠ 0
    · rw [if_pos c2] at h; injection h with h; exact absurd h c2
    rw [if_neg c2] at h ⊢
    obtain ⟨V, hV⟩ : ∃ V, lgV (nxS l row p) row (nxP l row p) = V := ⟨_, rfl⟩
    obtain ⟨D, hD⟩ : ∃ D, dtV d row (lgP (nxS l row p) (nxP l row p)) = D := ⟨_, rfl⟩
    rw [hV, hD] at h ⊢
    by_cases c3 : agE L out V D ≠ 0
    · rw [if_pos c3] at h; injection h with h; exact absurd h c3
    rw [if_neg c3] at h
    have ho : o.length = out.length + V := by
      injection h with _ h
      injection h with _ h
      injection h with h1 h2
      rw [← h2, cpy_len]
    have hfar : ¬ out.length < D := fun d1 => by
      apply c3; unfold agE; rw [if_pos d1]; decide
    refine ⟨fun q => ?_, fun q => ?_⟩
    · have e : agE L' out V D = 0 := by unfold agE; rw [if_neg hfar, if_neg (by omega)]
      rw [if_neg (by simp [e])]; exact h
    · have e : agE L' out V D = 85 := by unfold agE; rw [if_neg hfar, if_pos (by omega)]
      rw [if_pos (by simp [e]), e]

theorem Sys.limit {l d row : List Int} {L L' p : Nat} {out : List Int} {e : Int} {q : Nat} {o : List Int} (hb : Bit row) (hd : dcE l = 0) (h : Sys l d row L p out e q o) : e = 0 → out.length ≤ L' →
    (o.length ≤ L' → Sys l d row L' p out 0 q o) ∧ (L' < o.length → ∃ q' o', Sys l d row L' p out 85 q' o') := by
  induction h with
  | bad h1 h2 => exact fun h => absurd h h2
  | fin h1 =>
    intro _ hl
    have := sy1_limit hl h1
    exact ⟨fun c => Sys.fin (this.1 c), fun c => ⟨_, _, Sys.bad (this.2 c) (by decide)⟩⟩
  | go h1 h2 ih =>
    intro he hl
    have hs := sy1_limit hl h1
    have hm := h2.lt hb hd he
    rename_i p1 out1 q1 o1 e1 q2 o2
    by_cases c : o1.length ≤ L'
    · obtain ⟨i1, i2⟩ := ih he c
      refine ⟨fun k => Sys.go (hs.1 c) (i1 k), fun k => ?_⟩
      obtain ⟨q', o', hq⟩ := i2 k
      exact ⟨q', o', Sys.go (hs.1 c) hq⟩
    · exact ⟨fun k => by omega, fun k => ⟨_, _, Sys.bad (hs.2 (by omega)) (by decide)⟩⟩

theorem st1_limit {row : List Int} {L L' p : Nat} {out : List Int} {q : Nat} {o : List Int} (hb : Bit row) (hl : out.length ≤ L') (h : st1 row L p out = (0, q, o)) :
    (o.length ≤ L' → st1 row L' p out = (0, q, o)) ∧ (L' < o.length → st1 row L' p out = (85, p, out)) := by
  unfold st1 at h ⊢
  by_cases c0 : row.length < algn p + 32
  · rw [if_pos c0] at h; injection h with h; cases h
  rw [if_neg c0] at h ⊢
  by_cases c1 : ahead row (algn p) 16 + ahead row (algn p + 16) 16 ≠ 65535
  · rw [if_pos c1] at h; injection h with h; cases h
  rw [if_neg c1] at h ⊢
  by_cases c2 : L < out.length + (ahead row (algn p) 16).toNat
  · rw [if_pos c2] at h; injection h with h; cases h
  rw [if_neg c2] at h
  by_cases c3 : row.length < algn p + 32 + 8 * (ahead row (algn p) 16).toNat
  · rw [if_pos c3] at h; injection h with h; cases h
  rw [if_neg c3] at h
  have h4 : (pack ((row.drop (algn p + 32)).take (8 * (ahead row (algn p) 16).toNat))).length = (ahead row (algn p) 16).toNat := by
    rw [length_pack ((hb.drop _).take _), List.length_take, List.length_drop]; omega
  have ho : o.length = out.length + (ahead row (algn p) 16).toNat := by
    injection h with _ h
    injection h with h1 h2
    rw [← h2, List.length_append, h4]
  exact ⟨fun k => by rw [if_neg (by omega), if_neg c3]; exact h, fun k => by rw [if_pos (by omega)]⟩

theorem Blk.limit {row : List Int} {L L' p : Nat} {out : List Int} {f : Bool} {k : Int} {q : Nat} {o : List Int} {e : Int} (hb : Bit row) (hl : out.length ≤ L') (h : Blk row L p out e f k q o) (he : e = 0) :
    (o.length ≤ L' → Blk row L' p out 0 f k q o) ∧ (L' < o.length → ∃ f k q o, Blk row L' p out 85 f k q o) := by
  cases h with
  | short h1 => cases he
  | three h1 h2 => cases he
  | stored h1 h2 h3 =>
    subst he
    have := st1_limit hb hl h3
    exact ⟨fun c => Blk.stored h1 h2 (this.1 c), fun c => ⟨_, _, _, _, Blk.stored h1 h2 (this.2 c)⟩⟩
  | fixed h1 h2 h3 =>
    have := h3.limit hb fl_ok he hl
    refine ⟨fun c => Blk.fixed h1 h2 (this.1 c), fun c => ?_⟩
    obtain ⟨q', o', hq⟩ := this.2 c
    exact ⟨_, _, _, _, Blk.fixed h1 h2 hq⟩
  | head h1 h2 h3 => exact absurd he h3
  | dyn h1 h2 h3 h4 =>
    have := h4.limit hb (rd_good hb h3).1 he hl
    refine ⟨fun c => Blk.dyn h1 h2 h3 (this.1 c), fun c => ?_⟩
    obtain ⟨q', o', hq⟩ := this.2 c
    exact ⟨_, _, _, _, Blk.dyn h1 h2 h3 hq⟩

theorem Txt.mono {row : List Int} {L p : Nat} {out : List Int} {ps : List Pc} {e : Int} {q : Nat} {o : List Int} (hb : Bit row) (h : Txt row L p out ps e q o) : e = 0 → out.length ≤ o.length ∧ p < q ∧ q ≤ row.length := by
  induction h with
  | bad h1 h2 => exact fun h => absurd h h2
  | last h1 => intro _; have := h1.lt hb rfl; omega
  | go h1 h2 ih => intro he; have := h1.lt hb rfl; have := ih he; omega

theorem Txt.limit {row : List Int} {L L' p : Nat} {out : List Int} {ps : List Pc} {e : Int} {q : Nat} {o : List Int} (hb : Bit row) (h : Txt row L p out ps e q o) : e = 0 → out.length ≤ L' →
    (o.length ≤ L' → ∃ ps, Txt row L' p out ps 0 q o) ∧ (L' < o.length → ∃ ps q' o', Txt row L' p out ps 85 q' o') := by
  induction h with
  | bad h1 h2 => exact fun h => absurd h h2
  | last h1 =>
    intro _ hl
    obtain ⟨i1, i2⟩ := h1.limit hb hl rfl
    refine ⟨fun c => ⟨_, Txt.last (i1 c)⟩, fun c => ?_⟩
    obtain ⟨f, k, q', o', hq⟩ := i2 c
    exact ⟨_, _, _, Txt.bad hq (by decide)⟩
  | go h1 h2 ih =>
    intro he hl
    obtain ⟨i1, i2⟩ := h1.limit hb hl rfl
    have hm := h2.mono hb he
    rename_i p1 out1 k1 q1 o1 ps1 e1 q2 o2
    by_cases c : o1.length ≤ L'
    · obtain ⟨j1, j2⟩ := ih he c
      refine ⟨fun k => ?_, fun k => ?_⟩
      · obtain ⟨ps', h'⟩ := j1 k
        exact ⟨_, Txt.go (i1 c) h'⟩
      · obtain ⟨ps', q', o', h'⟩ := j2 k
        exact ⟨_, _, _, Txt.go (i1 c) h'⟩
    · refine ⟨fun k => by omega, fun k => ?_⟩
      obtain ⟨f, k', q', o', hq⟩ := i2 (by omega)
      exact ⟨_, _, _, Txt.bad hq (by decide)⟩

theorem Ifl.limit {data : List Int} {limit other : Int} {n : Nat} {o : List Int} (h : Ifl data limit 0 n o) (h0 : 0 ≤ other) (h1 : other ≤ 16777216) :
    (other < o.length → Ifl data other 85 0 []) ∧ (¬ other < o.length → Ifl data other 0 n o) := by
  rcases h with ⟨_, h, _⟩ | ⟨hd, ps, q, o', ht, ⟨_, rfl, rfl⟩ | ⟨h, _⟩⟩
  · cases h
  · have hl := ht.limit (L' := other.toNat) (bit_unpack data) rfl (Nat.zero_le _)
    refine ⟨fun c => ?_, fun c => ?_⟩
    · obtain ⟨ps', q', o'', h'⟩ := hl.2 (by omega)
      exact .inr ⟨⟨hd.1, h0, h1⟩, _, _, _, h', .inr ⟨by decide, rfl, rfl⟩⟩
    · obtain ⟨ps', h'⟩ := hl.1 (by omega)
      exact .inr ⟨⟨hd.1, h0, h1⟩, _, _, _, h', .inl ⟨rfl, rfl, rfl⟩⟩
  · exact absurd rfl h

theorem letter_is : Ifl [75, 4, 0] 1 0 18 [97] := by
  have hb : Bit (unpack [75, 4, 0]) := bit_unpack _
  have w1 := nx_word (l := FL) (row := unpack [75, 4, 0]) (p := 3) (s := 97) (rest := List.replicate 13 0) fl_ok ⟨by decide, by decide +kernel⟩ hb (by decide +kernel)
  have w2 := nx_word (l := FL) (row := unpack [75, 4, 0]) (p := 11) (s := 256) (rest := List.replicate 6 0) fl_ok ⟨by decide, by decide +kernel⟩ hb (by decide +kernel)
  have e1 : ln FL 97 = 8 := by decide +kernel
  have e2 : ln FL 256 = 7 := by decide +kernel
  rw [e1] at w1
  rw [e2] at w2
  have s1 : syE FL (unpack [75, 4, 0]) 3 = 0 := by unfold syE; rw [if_pos w1.1]
  have s2 : syE FL (unpack [75, 4, 0]) 11 = 0 := by unfold syE; rw [if_pos w2.1]
  have g1 : sy1 FL FD (unpack [75, 4, 0]) 1 3 [] = (0, false, 11, [97]) := by
    rw [sy1_lit s1 (by rw [w1.2.1]; decide), if_neg (by decide), w1.2.1, w1.2.2]; rfl
  have g2 : sy1 FL FD (unpack [75, 4, 0]) 1 11 [97] = (0, true, 18, [97]) := by
    rw [sy1_end s2 w2.2.1, w2.2.2]
  have hB : Blk (unpack [75, 4, 0]) 1 0 [] 0 (ahead (unpack [75, 4, 0]) 0 1 == 1) 1 18 [97] := Blk.fixed (by decide) (by decide +kernel) (Sys.go g1 (Sys.fin g2))
  have hf : (ahead (unpack [75, 4, 0]) 0 1 == 1) = true := by decide +kernel
  rw [hf] at hB
  exact .inr ⟨by decide, _, _, _, Txt.last hB, .inl ⟨rfl, rfl, rfl⟩⟩
end Go.Proofs.YtippppcdongahaaDoor

namespace Go.Proofs.YtippppcdongahaaDoor
open Go.RowKit Go.Maps
set_option maxRecDepth 20000
set_option linter.unusedVariables false

theorem Ifl.used {data : List Int} {limit : Int} {n : Nat} {o : List Int} (h : Ifl data limit 0 n o) : 0 < n ∧ n ≤ 8 * data.length ∧ o.length ≤ 16777216 ∧ data.length ≤ 33554432 ∧ (o.length : Int) ≤ limit := by
  rcases h with ⟨_, h, _⟩ | ⟨hd, ps, q, o', ht, ⟨_, rfl, rfl⟩ | ⟨h, _⟩⟩
  · cases h
  · have hm := ht.mono (bit_unpack data) rfl
    rw [length_unpack] at hm
    have hlim := ht.limit (L' := limit.toNat) (bit_unpack data) rfl (Nat.zero_le _)
    have hle : o.length ≤ limit.toNat := by
      rcases Nat.lt_or_ge limit.toNat o.length with c | c
      · obtain ⟨ps', q', o'', h'⟩ := hlim.2 c
        have := (ht.det h').2.1
        cases this
      · exact c
    omega
  · exact absurd rfl h

end Go.Proofs.YtippppcdongahaaDoor

namespace Go.Proofs.YtippppcdongahaaDoor
open Go.RowKit Go.Maps
set_option maxRecDepth 20000
set_option linter.unusedVariables false

def Exa (l : List Int) (size E : Int) (o : List Int) : Prop :=
  ∃ E0 n o0, Ifl l size E0 n o0 ∧ ((E0 ≠ 0 ∧ E = E0 ∧ o = []) ∨ (E0 = 0 ∧ (o0.length : Int) < size ∧ E = 87 ∧ o = []) ∨ (E0 = 0 ∧ ¬ (o0.length : Int) < size ∧ (n + 7) / 8 ≠ l.length ∧ E = 86 ∧ o = []) ∨ (E0 = 0 ∧ ¬ (o0.length : Int) < size ∧ (n + 7) / 8 = l.length ∧ E = 0 ∧ o = o0))

def Eans (w : World) (l : List Int) (size : Int) (e : Ending) (w' : World) : Prop :=
  ∃ E o a c, Exa l size E o ∧ e = .returned (.tuple #[.slice a o.length c, .int .i64 E]) ∧ OB w' w.heap.size (.slice a o.length c) o ∧ Below w.heap.size w w'

theorem Eans.none {w w' : World} {l : List Int} {size E : Int} (h : Exa l size E []) (hb : Below w.heap.size w w') : Eans w l size (.returned (.tuple #[.slice none 0 0, .int .i64 E])) w' :=
  ⟨E, [], .none, 0, h, rfl, World.ownsRow_nil _ _ _ _, hb⟩

set_option maxHeartbeats 4000000 in
theorem hExact {w : World} {v : Value} {l : List Int} (h : SB w v l) (hB : Byt l) (size : Int) (T : Tab w) (O : Odr w) :
    Calls Tryd.prog 11 #[v, .int .i64 size] w (Eans w l size) := by
  have HI := hide (hInflate h hB size T O)
  have HS := hide h
  obtain ⟨a0, x0, rfl, -⟩ := h
  clear hB T O
  go_enter Tryd.func11, Tryd.ntmps11
  go_wp2_with fail
  refine HI.out.mono ?_
  rintro e w2 ⟨E, n, o, a, c, hI, rfl, ho, hb⟩
  have HB := hide hb
  have HOO := hide ho
  have HII := hide hI
  clear hb ho hI HI
  obtain ⟨M, HM⟩ : ∃ M : Nat, Hid (M = o.length) := ⟨_, rfl⟩
  obtain ⟨N, HN⟩ : ∃ N : Nat, Hid (N = l.length) := ⟨_, rfl⟩
  rw [← HM.out, ← HN.out]
  by_cases he : E = 0
  case neg =>
    have he' : (E != 0) = true := by simpa using he
    have HE := hide he
    clear he
    go_wp2
    go_ret2
    exact Eans.none ⟨E, n, o, HII.out, .inl ⟨HE.out, rfl, rfl⟩⟩ HB.out
  subst he
  by_cases hs : (M : Int) < size
  · go_wp2
    go_ret2
    exact Eans.none ⟨0, n, o, HII.out, .inr (.inl ⟨rfl, by rw [← HM.out]; exact hs, rfl, rfl⟩)⟩ HB.out
  obtain ⟨u1, u2, u3, u4, u5⟩ := HII.out.used
  rw [← HN.out] at u2 u4
  obtain ⟨s, HSZ⟩ : ∃ s : Nat, Hid (s = (n + 7) / 8) := ⟨_, rfl⟩
  have hq : ((n : Int) + 7).tdiv 8 = (s : Int) := by rw [Int.tdiv_eq_ediv_of_nonneg (by omega), HSZ.out]; omega
  have hsN : s ≤ N := by rw [HSZ.out]; omega
  have hn28 : n ≤ 268435456 := by omega
  clear u1 u2 u3 u5
  by_cases hr : (s : Int) < (N : Int)
  · go_wp2
    go_ret2
    exact Eans.none ⟨0, n, o, HII.out, .inr (.inr (.inl ⟨rfl, by rw [← HM.out]; omega, by rw [← HN.out, ← HSZ.out]; omega, rfl, rfl⟩))⟩ HB.out
  · go_wp2
    go_ret2
    exact ⟨0, o, a, c, ⟨0, n, o, HII.out, .inr (.inr (.inr ⟨rfl, by rw [← HM.out]; omega, by rw [← HN.out, ← HSZ.out]; omega, rfl, rfl⟩))⟩, (by rw [← HM.out]; first | done | rfl), HOO.out, HB.out⟩
end Go.Proofs.YtippppcdongahaaDoor

