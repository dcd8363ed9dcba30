import Derived.Test.YtippppcdongahaaDoorG21Ibl
import Derived.Test.YtippppcdongahaaDoorG22Icb
import Derived.Test.YtippppcdongahaaDoorG23Ibo
import Derived.Test.YtippppcdongahaaDoorG24Ibp
namespace Go.Proofs.YtippppcdongahaaDoor
open Go.RowKit Go.Maps Go.Shelf
attribute [local go_sem] Oper.semAt_some
set_option maxRecDepth 20000
set_option linter.unusedVariables false

theorem eqInB_func {P : Program} (w : World) (d : Nat) (t : TypeId) {u : Array TypeId} {r : Array TypeId} {x : Bool} (h : P.underlying t = some (.func u r x)) (fn : Fn) (a b : Array Value) : (Op.equalIn (d + 1) t (.func fn a b) .nilFunc).run P w = .ok false w := by
  simp [Op.equalIn, run_underlying h]

theorem eqlB_func {P : Program} (w : World) (t : TypeId) {u : Array TypeId} {r : Array TypeId} {x : Bool} (h : P.underlying t = some (.func u r x)) (fn : Fn) (a b : Array Value) : (binOp .eql t (.func fn a b) .nilFunc).run P w = .ok (.bool false) w := by
  have h1 : (Op.equal t (.func fn a b) .nilFunc).run P w = .ok false w := eqInB_func w 9999 t h fn a b
  simp [binOp, h1]

theorem yldb_under : Tryd.prog.underlying 54 = some (.func #[36, 22] #[4] false) := by kernel_rfl

theorem Bhd.start {data : List Int} {limit : Int} {ps : List Pc} {o0 : List Int} {d : Bool} {J : Nat → (Nat → Prop) → World → Prop} {g r : Nat} {w w1 : World} {E : Int} {q : Nat} (ht : Txt (unpack data) limit.toNat 0 [] ps E q o0) (hj : J 0 (fun _ => False) w) (hJ : BBears J) (hX : TX w w1 g r (unpack data) 0 limit.toNat [] false []) :
    Bhd ps o0 (unpack data) limit.toNat w.heap.size J w1.heap.size g r false 0 (fun b => w.heap.size ≤ b ∧ b < w1.heap.size + 1) 0 [] (w1.alloc (.cells #[.pointer (some ⟨g, 0, none⟩)] 44)) := by
  have hb := hX.bel
  have hs := hb.size
  have ha := (Below.refl w1.heap.size w1).alloc (Nat.le_refl _) (.cells #[.pointer (some ⟨g, 0, none⟩)] 44)
  have hI : Ist (fun b => w.heap.size ≤ b ∧ b < w1.heap.size) w.heap.size w1 g r (unpack data) 0 limit.toNat [] false := by
    obtain ⟨Kt, Kr, Ko, a, c, fl, fd, HH, hf, hL⟩ := hX
    refine ⟨w, Kt, Kr, Ko, a, c, fl, fd, [], rfl, HH, hf, hL, fun d hd k hk => ?_⟩
    obtain ⟨i, hi⟩ := List.getElem?_of_mem hd
    exact ⟨HH.up i d hi k hk, d.2.sup (HH.rep i d hi) k hk⟩
  refine ⟨hI.move (by simp) (fun b hb2 => ha.block b hb2.2) (fun b hb2 => ⟨⟨hb2.1, by omega⟩, by omega⟩), heap_alloc_new _ _, ⟨by omega, by omega⟩, fun b hb2 => by simpa using hb2.2, hJ 0 (fun _ => False) _ w _ hj ⟨rfl |>.trans (ha.os.trans hb.os), ha.tape.trans hb.tape, ha.output.trans hb.output, by simp; omega, fun b h1 _ => (ha.block b (by omega)).trans (hb.block b h1)⟩ (fun b e => e.elim) (fun b e => e.elim) (fun b e => ⟨.inr e.1, by simpa using e.2⟩), Nat.zero_le _, .inl ⟨rfl, E, q, ht⟩⟩

set_option maxHeartbeats 4000000 in
theorem blk2_any (l dB lB : Nat) {data : List Int} {limit : Int} {ps : List Pc} {o0 : List Int} {v : Value} {J : Nat → (Nat → Prop) → World → Prop} {Jx : World → Prop} {w : World} {E : Int} {q0 : Nat} (hd : data.length ≤ 33554432 ∧ 0 ≤ limit ∧ limit ≤ 16777216) (ht : Txt (unpack data) limit.toNat 0 [] ps E q0 o0) (h : SB w v data) (hB : Byt data)
    (c0 : w.cell? ⟨dB, 0, none⟩ = some v) (c1 : w.cell? ⟨lB, 0, none⟩ = some (.int .i64 limit)) (hJ : BBears J) (hTO : ∀ k S W, J k S W → w.heap.size ≤ W.heap.size → Tab (wtake W w.heap.size) ∧ Odr (wtake W w.heap.size)) (hY : BTurns ps o0 l J Jx) (hj : J 0 (fun _ => False) w) (F : Fence) (hF : F = Fence.wide) :
    CallsIn F 2 Tryd.prog 23 #[.func (.yield l) #[] #[], .pointer (some ⟨dB, 0, none⟩), .pointer (some ⟨lB, 0, none⟩)] w fun e w' => (∃ v, e = .returned v) ∧ ((∃ S, J ps.length S w') ∨ Jx w') := by
  subst hF
  have HBG := hide (hbegin h hB limit)
  have HD := hide hd
  have HT := hide ht
  have HJ := hide hJ
  have HTO := hide hTO
  have HY := hide hY
  have HJ0 := hide hj
  have hyl : ∀ (fn : Fn) (a b : Array Value) (w : World), (binOp .eql 54 (.func fn a b) .nilFunc).run Tryd.prog w = .ok (.bool false) w := fun fn a b w => eqlB_func w _ yldb_under fn a b
  have hmf : ∀ (fn : Fn) (first cap : Array Value) (w : World), (Instr.makeFunc fn first cap).run Tryd.prog w = .ok (.func fn first cap) w := fun _ _ _ _ => rfl
  obtain ⟨a0, cc0, rfl, -⟩ := h
  clear hd ht hB hJ hTO hY hj
  refine callsIn_of_wp Tryd.func23 rfl trivial ?_ rfl
  simp only [Tryd.ntmps23, List.size_toArray, List.length_cons, List.length_nil, Nat.reduceAdd, Nat.reduceSub, Array.replicate_succ, Array.replicate_zero, List.push_toArray, List.append_toArray, List.nil_append, List.cons_append]
  gi_wp2_with fail
  refine ⟨trivial, (callsIn_wide.2 HBG.out).mono ?_⟩
  rintro e w1 (⟨-, g, r, rfl, h1⟩ | ⟨hn, -⟩)
  case inr => exact absurd HD.out hn
  have HS := hide (Bhd.start (d := true) HT.out HJ0.out HJ.out h1)
  clear h1 HBG HJ0 HT c0 c1
  obtain ⟨row, HROW⟩ : ∃ row, Hid (row = unpack data) := ⟨_, rfl⟩
  obtain ⟨L, HL⟩ : ∃ L, Hid (L = limit.toNat) := ⟨_, rfl⟩
  rw [← HROW.out, ← HL.out] at HS
  gi_wp2
  clear hyl
  obtain ⟨B, HBZ⟩ : ∃ B, Hid (w.heap.size = B) := ⟨_, rfl⟩
  obtain ⟨tB, HTB⟩ : ∃ tB, Hid (w1.heap.size = tB) := ⟨_, rfl⟩
  rw [HBZ.out, HTB.out] at HS
  rw [HBZ.out] at HTO
  rw [HTB.out]
  gi_loopw [5] (fun p5 wr => ∃ (k : Nat) (S : Nat → Prop) (p : Nat) (out : List Int) (dn : Bool), Hid (Bhd ps o0 row L B J tB g r dn k S p out wr)) (fun _ wr => row.length + 1 - (intOf ((wr.cell? ⟨r, 1, none⟩).getD undef)).toNat)
  case atStart => exact ⟨0, _, 0, [], false, HS⟩
  case round =>
    obtain ⟨k, S, p, out, dn, HX⟩ := hrel
    clear HS
    have HMS : Hid ((intOf ((wr.cell? ⟨r, 1, none⟩).getD undef)).toNat = p) := by
      obtain ⟨-, -, -, -, -, -, -, -, a, c, fl, fd, -, -, h3⟩ := HX.out.ist.fact
      show _ = _; rw [h3]; simp [intOf]
    have tb0 := (one_cell HX.out.box).1
    obtain ⟨-, -, -, -, -, -, -, -, aw, cw, fl, fd, hg, -, -⟩ := HX.out.ist.fact
    have g3 := (txO_cells hg).2.2.2.1
    clear hg
    cases dn with
    | true =>
      have HE : Hid (∃ S, J ps.length S wr) := by
        rcases HX.out.way with ⟨h0, _⟩ | ⟨_, h0⟩
        · cases h0
        · exact ⟨S, by rw [← h0]; exact HX.out.j⟩
      gi_wp2
      refine bodyPost_end (results_none rfl _ _ _) rfl ?_
      exact ⟨⟨_, rfl⟩, .inl HE.out⟩
    | false =>
    obtain ⟨w0, hw0⟩ : ∃ w0, wr.alloc (pcO 0 false 0 0 0 0) = w0 := ⟨_, rfl⟩
    have hb0 : Below wr.heap.size wr w0 := by rw [← hw0]; exact (Below.refl _ _).alloc (Nat.le_refl _) _
    have hz0 : w0.heap.size = wr.heap.size + 1 := by rw [← hw0]; simp
    have hp0 : w0.heap[wr.heap.size]? = some (pcO 0 false 0 0 0 0) := by rw [← hw0]; exact heap_alloc_new _ _
    have hBw := HX.out.ist.size
    have HCB : Hid (Calls Tryd.prog 14 #[.func (.func 24) #[] #[.pointer (some ⟨tB, 0, none⟩), .pointer (some ⟨wr.heap.size, 0, none⟩)]] w0 fun e w' => ∃ E f k q o, Blk row L p out E f k q o ∧ e = .returned (.int .i64 E) ∧ ((E = 0 ∧ Gone (fun b => S b ∧ b ≠ tB) B wr.heap.size w0 w' g r row p L out f k q o) ∨ (E ≠ 0 ∧ Mvb (fun b => S b ∧ b ≠ tB) w0 w'))) := by
      have hu := wtake_up (w := wr) (w' := w0) (B := B) (fun k hk => hb0.block k (by omega)) hb0.os hb0.tape hb0.output hBw (by omega)
      obtain ⟨hT, hO⟩ := HTO.out k S wr HX.out.j hBw
      exact hcaughtB (HX.out.ist.move hb0.size (fun b hb => hb0.block b (HX.out.bnd b hb.1)) (fun _ q => q)) (hT.mono hu) (hO.mono hu) (fun b hb => by have := HX.out.bnd b hb.1; omega) ((hb0.block tB (HX.out.bnd _ HX.out.sB)).trans HX.out.box) hp0 (fun e => e.2 rfl) (fun e => by have := HX.out.bnd _ e.1; omega)
    have HB0 := hide hb0
    have HZ0 := hide hz0
    have HW0 := hide hw0
    clear hw0 hb0 hz0 hp0 hBw
    gi_wp2_with fail
    rw [HW0.out]
    refine ⟨trivial, (callsIn_wide.2 HCB.out).mono ?_⟩
    rintro e w2 ⟨E, f, kk, q, o, hblk, rfl, ⟨rfl, hgo⟩ | ⟨he, hm⟩⟩
    case inr =>
      have HE : Hid (∃ S, J ps.length S w2) := by
        have h1 := (HX.out.one (pcO 0 false 0 0 0 0) (w2 := w2) hblk).1 he
        have hz := HZ0.out
        have hs := hm.size
        have h3 : J k (grb S wr w2) w2 := HJ.out k S _ wr w2 HX.out.j ⟨hm.os.trans HB0.out.os, hm.tape.trans HB0.out.tape, hm.output.trans HB0.out.output, by omega, fun b hb hS => (hm.blk b (by omega) (fun e => hS e.1)).trans (HB0.out.block b hb)⟩ HX.out.bnd (fun b e => .inl e) (fun b e => by
          rcases e with e | e
          · have := HX.out.bnd b e; exact ⟨.inl e, by omega⟩
          · exact ⟨.inr e.1, e.2⟩)
        exact ⟨_, by rw [← h1]; exact h3⟩
      have he' : (E != 0) = true := by simpa using he
      clear hm hblk he HCB tb0 g3
      gi_wp2
      refine bodyPost_ret (results_none rfl _ _ _) rfl ?_
      exact ⟨⟨_, rfl⟩, .inl HE.out⟩
    have HM : Hid (Bmid ps o0 row L B J tB g r wr.heap.size f k S p q out o ⟨kk, f, p, q, out.length, o.length⟩ wr w2) := (HX.out.one (pcO 0 false 0 0 0 0) hblk).2 rfl (by rw [HW0.out]; exact hgo)
    clear hgo hblk HCB tb0 g3 HX HB0 HZ0
    obtain ⟨pB, HPB⟩ : ∃ pB, Hid (wr.heap.size = pB) := ⟨_, rfl⟩
    rw [HPB.out] at HM
    rw [HPB.out]
    gi_wp2
    obtain ⟨N, HN⟩ : ∃ N : Nat, Hid (N = out.length) := ⟨_, rfl⟩
    obtain ⟨M, HM2⟩ : ∃ M : Nat, Hid (M = o.length) := ⟨_, rfl⟩
    obtain ⟨x0, x1, x2, x3, x4, x5, -⟩ := pc_cells HM.out.pbox
    have x6 := (one_cell HM.out.tbox).1
    obtain ⟨ao, cc, hob, x7⟩ : ∃ ao cc, OB w2 0 (.slice ao o.length cc) o ∧ w2.cell? ⟨g, 1, none⟩ = some (.slice ao o.length cc) := by
      obtain ⟨V, -, -, S', h3, -⟩ := HM.out.gone
      obtain ⟨-, -, -, -, -, -, -, -, a, c, fl, fd, hg, ho, -⟩ := h3.fact
      exact ⟨a, c, ho, (txO_cells hg).2.1⟩
    have hoL : o.length ≤ 16777216 := by
      obtain ⟨V, -, -, S', h3, -⟩ := HM.out.gone
      obtain ⟨-, -, -, -, h4, h5, -⟩ := h3.fact
      omega
    obtain ⟨sp, sc, hsl, hcl⟩ := seg_copy (x := ⟨kk, f, p, q, out.length, o.length⟩) hob HM.out.seg rfl rfl hoL
    have hpz := (Array.getElem?_eq_some_iff.1 HM.out.pbox).1
    simp only [← HN.out, ← HM2.out] at x0 x1 x2 x3 x4 x5 x7 hsl hcl
    refine reg5 (X := fun u w3 => OB w3 w2.heap.size u (sg o0 ⟨kk, f, p, q, N, M⟩) ∧ Below w2.heap.size w2 w3) (Y := fun c w4 => ∃ u w3, (OB w3 w2.heap.size u (sg o0 ⟨kk, f, p, q, N, M⟩) ∧ Below w2.heap.size w2 w3) ∧ BGo J Jx k (grb S wr w3) u w3 c w4) x0 x1 x2 x3 x4 x5 x6 x7 hsl hcl (fun u w3 h => h.2) hpz ?_ ?_ ?_
    · rintro u w3 ⟨ho, hb⟩
      obtain ⟨h1, h2⟩ := HM.out.turn HJ.out hb
      have h3 := HY.out k _ _ w3 u HM.out.got h1 h2 (by rw [← HN.out, ← HM2.out]; exact ho.base (Nat.zero_le _)) (fun b e => .inr ⟨Nat.le_trans HM.out.mvb.size (ho.lt b e).1, (ho.lt b e).2⟩)
      rw [← HN.out, ← HM2.out] at h3
      exact h3.mono fun e w4 ⟨c, he, hg⟩ => ⟨c, he, ⟨u, w3, ⟨ho, hb⟩, hg⟩, u, rfl, ho, hb⟩
    · intro c a d v w h
      simp (config := { zetaDelta := true }) only [Exit.then, Exit.inBlock] at h ⊢
      obtain ⟨-, ⟨v', hv⟩, -⟩ := h
      cases hv
    · rintro u w3 c w4 - ⟨u', w3', ⟨ho, hb⟩, hg⟩
      have HMM := HM
      clear hsl hcl x0 x1 x2 x3 x4 x5 x6 x7 hob hoL hpz
      rcases hg with ⟨rfl, hj, hk, hs⟩ | ⟨rfl, hjx⟩
      · have HNX := hide (HMM.out.next hb (fun b e => (ho.lt b e).1) hj hk hs)
        have HLT := hide HMM.out.lt
        clear hj hk hs ho hb HM HMM
        gi_wp2
        go_roundw
        case rel => exact ⟨k + 1, _, q, o, f, HNX⟩
        case measure =>
          obtain ⟨-, -, -, -, -, -, -, -, a, c, fl, fd, -, -, h3⟩ := HNX.out.ist.fact
          rw [HMS.out, h3]
          simp [intOf]
          have := HLT.out
          omega
      · have HJX := hide hjx
        clear hjx ho hb HM HMM
        gi_wp2
        refine bodyPost_ret (results_none rfl _ _ _) rfl ?_
        exact ⟨⟨_, rfl⟩, .inr HJX.out⟩
end Go.Proofs.YtippppcdongahaaDoor

