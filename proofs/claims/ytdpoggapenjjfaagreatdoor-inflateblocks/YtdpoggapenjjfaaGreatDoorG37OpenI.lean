import Derived.Test.YtdpoggapenjjfaaGreatDoorG36Ibo
import Derived.Test.YtdpoggapenjjfaaGreatDoorG24Pkq
import Derived.Test.YtdpoggapenjjfaaGreatDoorG00Rev
import Derived.Lib.SmallJoins
import Derived.Deep.Slices
namespace Go.Proofs.YtdpoggapenjjfaaGreatDoor
open Go.RowKit Go.Maps Go.Shelf
set_option maxRecDepth 20000
set_option linter.unusedVariables false
set_option linter.unusedSimpArgs false

theorem slice_none (wx : World) : (Instr.slice 22 (.slice none 0 0) (some (.int .i64 ((0 : Nat) : Int))) (some (.int .i64 ((0 : Nat) : Int))) none).run Tryz.prog wx = .ok (.slice none 0 0) wx := by
  go_simp

theorem slice_some (b N M cc : Nat) (h1 : N ≤ M) (h2 : M ≤ cc) (h3 : cc ≤ 9223372036854775807) (wx : World) :
    (Instr.slice 22 (.slice (some ⟨b, 0, none⟩) M cc) (some (.int .i64 (N : Int))) (some (.int .i64 (M : Int))) none).run Tryz.prog wx = .ok (.slice (some ⟨b, if cc = N then 0 else N, none⟩) (M - N) (cc - N)) wx := by
  have x1 : ¬ ((cc : Int) < (M : Int)) := by omega
  have x2 : ¬ ((M : Int) < (N : Int)) := by omega
  have x3 : (M : Int) ≤ (cc : Int) := by omega
  have x4 : (N : Int) ≤ (M : Int) := by omega
  by_cases h : cc = N
  · rw [if_pos h]
    go_simp
    intro hlt
    omega
  · rw [if_neg h]
    go_simp

theorem seg_copy {w2 : World} {ao : Option Addr} {cc : Nat} {out o o0 : List Int} {x : Pc} (hob : OB w2 0 (.slice ao o.length cc) o) (hs : ∃ s t, o = out ++ s ∧ o0 = o ++ t) (h0 : x.to0 = out.length) (h1 : x.to1 = o.length) (hL : o.length ≤ 16777216) :
    ∃ sp sc, (∀ wx : World, (Instr.slice 22 (.slice ao o.length cc) (some (.int .i64 (out.length : Int))) (some (.int .i64 (o.length : Int))) none).run Tryz.prog wx = .ok (.slice sp (o.length - out.length) sc) wx) ∧
      Calls Tryz.prog 13 #[.slice sp (o.length - out.length) sc] w2.drew fun e w' => ∃ u, e = .returned u ∧ OB w' w2.heap.size u (sgb o0 x) ∧ Below w2.heap.size w2 w' := by
  obtain ⟨s, t, rfl, rfl⟩ := hs
  have hse : sgb (out ++ s ++ t) x = s := sg_at h0 h1
  rw [hse]
  have hln : (out ++ s).length - out.length = s.length := by simp
  have key : ∀ sp sc, SB w2 (.slice sp s.length sc) s → Calls Tryz.prog 13 #[.slice sp s.length sc] w2.drew fun e w' => ∃ u, e = .returned u ∧ OB w' w2.heap.size u s ∧ Below w2.heap.size w2 w' := fun sp sc hsb => by
    refine (bclone_any _ s w2.drew (hsb.heap rfl) (by rw [List.length_append] at hL; omega)).mono ?_
    rintro e w' ⟨u, rfl, ho, hb⟩
    exact ⟨u, rfl, ho, (Below.refl _ _).drew.trans hb⟩
  rw [hln]
  rcases hob.2 with ⟨e, h2⟩ | ⟨g, cap, cur, e, h2, h3, h4, h5, h6, h7⟩
  · simp only [Value.slice.injEq] at e
    obtain ⟨rfl, e1, rfl⟩ := e
    have hz : (out ++ s).length = 0 := e1
    rw [List.length_append] at hz
    obtain rfl : out = [] := List.length_eq_zero_iff.1 (by omega)
    obtain rfl : s = [] := List.length_eq_zero_iff.1 (by omega)
    exact ⟨none, 0, slice_none, key none 0 (World.ownsRow_nil w2 0 5 1 |> fun (q : OB w2 0 (.slice none 0 0) []) => q.sb)⟩
  · simp only [Value.slice.injEq, Option.some.injEq] at e
    obtain ⟨rfl, -, rfl⟩ := e
    have hcap : (out ++ s).length ≤ cc ∧ cc ≤ 9223372036854775807 := by
      obtain ⟨ao', cap', he, a1, a2, -⟩ := hob.sb
      simp only [Value.slice.injEq] at he
      obtain ⟨-, -, rfl⟩ := he
      unfold maxLen at a2
      exact ⟨a1, by omega⟩
    refine ⟨some ⟨g, if cc = out.length then 0 else out.length, none⟩, cc - out.length, fun wx => ?_, ?_⟩
    · have := slice_some g out.length (out ++ s).length cc (by simp) hcap.1 hcap.2 wx
      rw [hln] at this
      exact this
    · by_cases hz : cc = out.length
      · have h8 := hcap.1
        rw [List.length_append] at h8
        obtain rfl : s = [] := List.length_eq_zero_iff.1 (by omega)
        exact key _ _ ⟨_, _, rfl, Nat.zero_le _, by unfold maxLen; omega, (fun q => by cases q), fun x _ i hi => by simp at hi⟩
      · rw [if_neg hz]
        have h9 := hob.sb.part8 (at' := out.length) (n := s.length) (by rw [List.length_append]; exact Nat.le_refl _)
        rw [Nat.zero_add, List.drop_left, List.take_length] at h9
        exact key _ _ h9
end Go.Proofs.YtdpoggapenjjfaaGreatDoor

namespace Go.Proofs.YtdpoggapenjjfaaGreatDoor
open Go.RowKit Go.Maps Go.Shelf
attribute [local go_sem] Oper.semAt_some
set_option maxRecDepth 20000
set_option linter.unusedVariables false

theorem eqInB_func {P : Program} (w : World) (d : Nat) (t : TypeId) {u : Array TypeId} {r : Array TypeId} {x : Bool} (h : P.underlying t = some (.func u r x)) (fn : Fn) (a b : Array Value) : (Op.equalIn (d + 1) t (.func fn a b) .nilFunc).run P w = .ok false w := by
  simp [Op.equalIn, run_underlying h]

theorem eqlB_func {P : Program} (w : World) (t : TypeId) {u : Array TypeId} {r : Array TypeId} {x : Bool} (h : P.underlying t = some (.func u r x)) (fn : Fn) (a b : Array Value) : (binOp .eql t (.func fn a b) .nilFunc).run P w = .ok (.bool false) w := by
  have h1 : (Op.equal t (.func fn a b) .nilFunc).run P w = .ok false w := eqInB_func w 9999 t h fn a b
  simp [binOp, h1]

theorem yldb_under : Tryz.prog.underlying 42 = some (.func #[36, 22] #[4] false) := by kernel_rfl

theorem Bhd.start {data : List Int} {limit : Int} {ps : List Pc} {o0 : List Int} {d : Bool} {J : Nat → (Nat → Prop) → World → Prop} {g r : Nat} {w w1 : World} {E : Int} {q : Nat} (ht : Txt (unpack data) limit.toNat 0 [] ps E q o0) (hj : J 0 (fun _ => False) w) (hJ : BBears J) (hX : TX w w1 g r (unpack data) 0 limit.toNat [] false []) :
    Bhd ps o0 (unpack data) limit.toNat w.heap.size J w1.heap.size g r false 0 (fun b => w.heap.size ≤ b ∧ b < w1.heap.size + 1) 0 [] (w1.alloc (.cells #[.pointer (some ⟨g, 0, none⟩)] 43)) := by
  have hb := hX.bel
  have hs := hb.size
  have ha := (Below.refl w1.heap.size w1).alloc (Nat.le_refl _) (.cells #[.pointer (some ⟨g, 0, none⟩)] 43)
  have hI : Ist (fun b => w.heap.size ≤ b ∧ b < w1.heap.size) w.heap.size w1 g r (unpack data) 0 limit.toNat [] false := by
    obtain ⟨Kt, Kr, Ko, a, c, fl, fd, HH, hf, hL⟩ := hX
    refine ⟨w, Kt, Kr, Ko, a, c, fl, fd, [], rfl, HH, hf, hL, fun d hd k hk => ?_⟩
    obtain ⟨i, hi⟩ := List.getElem?_of_mem hd
    exact ⟨HH.up i d hi k hk, d.2.sup (HH.rep i d hi) k hk⟩
  refine ⟨hI.move (by simp) (fun b hb2 => ha.block b hb2.2) (fun b hb2 => ⟨⟨hb2.1, by omega⟩, by omega⟩), heap_alloc_new _ _, ⟨by omega, by omega⟩, fun b hb2 => by simpa using hb2.2, hJ 0 (fun _ => False) _ w _ hj ⟨rfl |>.trans (ha.os.trans hb.os), ha.tape.trans hb.tape, ha.output.trans hb.output, by simp; omega, fun b h1 _ => (ha.block b (by omega)).trans (hb.block b h1)⟩ (fun b e => e.elim) (fun b e => e.elim) (fun b e => ⟨.inr e.1, by simpa using e.2⟩), Nat.zero_le _, .inl ⟨rfl, E, q, ht⟩⟩

set_option maxHeartbeats 4000000 in
theorem blk2_any (l dB lB : Nat) {data : List Int} {limit : Int} {ps : List Pc} {o0 : List Int} {v : Value} {J : Nat → (Nat → Prop) → World → Prop} {Jx : World → Prop} {w : World} {E : Int} {q0 : Nat} (hd : data.length ≤ 33554432 ∧ 0 ≤ limit ∧ limit ≤ 16777216) (ht : Txt (unpack data) limit.toNat 0 [] ps E q0 o0) (h : SB w v data) (hB : Byt data)
    (c0 : w.cell? ⟨dB, 0, none⟩ = some v) (c1 : w.cell? ⟨lB, 0, none⟩ = some (.int .i64 limit)) (hJ : BBears J) (hTO : ∀ k S W, J k S W → w.heap.size ≤ W.heap.size → Tab (wtake W w.heap.size) ∧ Odr (wtake W w.heap.size)) (hY : BTurns ps o0 l J Jx) (hj : J 0 (fun _ => False) w) (F : Fence) (hF : F = Fence.wide) :
    CallsIn F 2 Tryz.prog 14 #[.func (.yield l) #[] #[], .pointer (some ⟨dB, 0, none⟩), .pointer (some ⟨lB, 0, none⟩)] w fun e w' => (∃ v, e = .returned v) ∧ ((∃ S, J ps.length S w') ∨ Jx w') := by
  subst hF
  have HBG := hide (hbegin h hB limit)
  have HD := hide hd
  have HT := hide ht
  have HJ := hide hJ
  have HTO := hide hTO
  have HY := hide hY
  have HJ0 := hide hj
  have hyl : ∀ (fn : Fn) (a b : Array Value) (w : World), (binOp .eql 42 (.func fn a b) .nilFunc).run Tryz.prog w = .ok (.bool false) w := fun fn a b w => eqlB_func w _ yldb_under fn a b
  have hmf : ∀ (fn : Fn) (first cap : Array Value) (w : World), (Instr.makeFunc fn first cap).run Tryz.prog w = .ok (.func fn first cap) w := fun _ _ _ _ => rfl
  obtain ⟨a0, cc0, rfl, -⟩ := h
  clear hd ht hB hJ hTO hY hj
  refine callsIn_of_wp Tryz.func14 rfl trivial ?_ rfl
  simp only [Tryz.ntmps14, List.size_toArray, List.length_cons, List.length_nil, Nat.reduceAdd, Nat.reduceSub, Array.replicate_succ, Array.replicate_zero, List.push_toArray, List.append_toArray, List.nil_append, List.cons_append]
  gi_wp2_with fail
  refine ⟨trivial, (callsIn_wide.2 HBG.out).mono ?_⟩
  rintro e w1 (⟨-, g, r, rfl, h1⟩ | ⟨hn, -⟩)
  case inr => exact absurd HD.out hn
  have HS := hide (Bhd.start (d := true) HT.out HJ0.out HJ.out h1)
  clear h1 HBG HJ0 HT c0 c1
  obtain ⟨row, HROW⟩ : ∃ row, Hid (row = unpack data) := ⟨_, rfl⟩
  obtain ⟨L, HL⟩ : ∃ L, Hid (L = limit.toNat) := ⟨_, rfl⟩
  rw [← HROW.out, ← HL.out] at HS
  gi_wp2
  clear hyl
  obtain ⟨B, HBZ⟩ : ∃ B, Hid (w.heap.size = B) := ⟨_, rfl⟩
  obtain ⟨tB, HTB⟩ : ∃ tB, Hid (w1.heap.size = tB) := ⟨_, rfl⟩
  rw [HBZ.out, HTB.out] at HS
  rw [HBZ.out] at HTO
  rw [HTB.out]
  gi_loopw [5] (fun p5 wr => ∃ (k : Nat) (S : Nat → Prop) (p : Nat) (out : List Int) (dn : Bool), Hid (Bhd ps o0 row L B J tB g r dn k S p out wr)) (fun _ wr => row.length + 1 - (intOf ((wr.cell? ⟨r, 1, none⟩).getD undef)).toNat)
  case atStart => exact ⟨0, _, 0, [], false, HS⟩
  case round =>
    obtain ⟨k, S, p, out, dn, HX⟩ := hrel
    clear HS
    have HMS : Hid ((intOf ((wr.cell? ⟨r, 1, none⟩).getD undef)).toNat = p) := by
      obtain ⟨-, -, -, -, -, -, -, -, a, c, fl, fd, -, -, h3⟩ := HX.out.ist.fact
      show _ = _; rw [h3]; simp [intOf]
    have tb0 := (one_cell HX.out.box).1
    obtain ⟨-, -, -, -, -, -, -, -, aw, cw, fl, fd, hg, -, -⟩ := HX.out.ist.fact
    have g3 := (txO_cells hg).2.2.2.1
    clear hg
    cases dn with
    | true =>
      have HE : Hid (∃ S, J ps.length S wr) := by
        rcases HX.out.way with ⟨h0, _⟩ | ⟨_, h0⟩
        · cases h0
        · exact ⟨S, by rw [← h0]; exact HX.out.j⟩
      gi_wp2
      refine bodyPost_end (results_none rfl _ _ _) rfl ?_
      exact ⟨⟨_, rfl⟩, .inl HE.out⟩
    | false =>
    obtain ⟨w0, hw0⟩ : ∃ w0, wr.alloc (pcO 0 false 0 0 0 0) = w0 := ⟨_, rfl⟩
    have hb0 : Below wr.heap.size wr w0 := by rw [← hw0]; exact (Below.refl _ _).alloc (Nat.le_refl _) _
    have hz0 : w0.heap.size = wr.heap.size + 1 := by rw [← hw0]; simp
    have hp0 : w0.heap[wr.heap.size]? = some (pcO 0 false 0 0 0 0) := by rw [← hw0]; exact heap_alloc_new _ _
    have hBw := HX.out.ist.size
    have HCB : Hid (Calls Tryz.prog 16 #[.func (.func 17) #[] #[.pointer (some ⟨tB, 0, none⟩), .pointer (some ⟨wr.heap.size, 0, none⟩)]] w0 fun e w' => ∃ E f k q o, Blk row L p out E f k q o ∧ e = .returned (.int .i64 E) ∧ ((E = 0 ∧ Gone (fun b => S b ∧ b ≠ tB) B wr.heap.size w0 w' g r row p L out f k q o) ∨ (E ≠ 0 ∧ Mvb (fun b => S b ∧ b ≠ tB) w0 w'))) := by
      have hu := wtake_up (w := wr) (w' := w0) (B := B) (fun k hk => hb0.block k (by omega)) hb0.os hb0.tape hb0.output hBw (by omega)
      obtain ⟨hT, hO⟩ := HTO.out k S wr HX.out.j hBw
      exact hcaughtB (HX.out.ist.move hb0.size (fun b hb => hb0.block b (HX.out.bnd b hb.1)) (fun _ q => q)) (hT.mono hu) (hO.mono hu) (fun b hb => by have := HX.out.bnd b hb.1; omega) ((hb0.block tB (HX.out.bnd _ HX.out.sB)).trans HX.out.box) hp0 (fun e => e.2 rfl) (fun e => by have := HX.out.bnd _ e.1; omega)
    have HB0 := hide hb0
    have HZ0 := hide hz0
    have HW0 := hide hw0
    clear hw0 hb0 hz0 hp0 hBw
    gi_wp2_with fail
    rw [HW0.out]
    refine ⟨trivial, (callsIn_wide.2 HCB.out).mono ?_⟩
    rintro e w2 ⟨E, f, kk, q, o, hblk, rfl, ⟨rfl, hgo⟩ | ⟨he, hm⟩⟩
    case inr =>
      have HE : Hid (∃ S, J ps.length S w2) := by
        have h1 := (HX.out.one (pcO 0 false 0 0 0 0) (w2 := w2) hblk).1 he
        have hz := HZ0.out
        have hs := hm.size
        have h3 : J k (grb S wr w2) w2 := HJ.out k S _ wr w2 HX.out.j ⟨hm.os.trans HB0.out.os, hm.tape.trans HB0.out.tape, hm.output.trans HB0.out.output, by omega, fun b hb hS => (hm.blk b (by omega) (fun e => hS e.1)).trans (HB0.out.block b hb)⟩ HX.out.bnd (fun b e => .inl e) (fun b e => by
          rcases e with e | e
          · have := HX.out.bnd b e; exact ⟨.inl e, by omega⟩
          · exact ⟨.inr e.1, e.2⟩)
        exact ⟨_, by rw [← h1]; exact h3⟩
      have he' : (E != 0) = true := by simpa using he
      clear hm hblk he HCB tb0 g3
      gi_wp2
      refine bodyPost_ret (results_none rfl _ _ _) rfl ?_
      exact ⟨⟨_, rfl⟩, .inl HE.out⟩
    have HM : Hid (Bmid ps o0 row L B J tB g r wr.heap.size f k S p q out o ⟨kk, f, p, q, out.length, o.length⟩ wr w2) := (HX.out.one (pcO 0 false 0 0 0 0) hblk).2 rfl (by rw [HW0.out]; exact hgo)
    clear hgo hblk HCB tb0 g3 HX HB0 HZ0
    obtain ⟨pB, HPB⟩ : ∃ pB, Hid (wr.heap.size = pB) := ⟨_, rfl⟩
    rw [HPB.out] at HM
    rw [HPB.out]
    gi_wp2
    obtain ⟨N, HN⟩ : ∃ N : Nat, Hid (N = out.length) := ⟨_, rfl⟩
    obtain ⟨M, HM2⟩ : ∃ M : Nat, Hid (M = o.length) := ⟨_, rfl⟩
    obtain ⟨x0, x1, x2, x3, x4, x5, -⟩ := pc_cells HM.out.pbox
    have x6 := (one_cell HM.out.tbox).1
    obtain ⟨ao, cc, hob, x7⟩ : ∃ ao cc, OB w2 0 (.slice ao o.length cc) o ∧ w2.cell? ⟨g, 1, none⟩ = some (.slice ao o.length cc) := by
      obtain ⟨V, -, -, S', h3, -⟩ := HM.out.gone
      obtain ⟨-, -, -, -, -, -, -, -, a, c, fl, fd, hg, ho, -⟩ := h3.fact
      exact ⟨a, c, ho, (txO_cells hg).2.1⟩
    have hoL : o.length ≤ 16777216 := by
      obtain ⟨V, -, -, S', h3, -⟩ := HM.out.gone
      obtain ⟨-, -, -, -, h4, h5, -⟩ := h3.fact
      omega
    obtain ⟨sp, sc, hsl, hcl⟩ := seg_copy (x := ⟨kk, f, p, q, out.length, o.length⟩) hob HM.out.seg rfl rfl hoL
    have hpz := (Array.getElem?_eq_some_iff.1 HM.out.pbox).1
    simp only [← HN.out, ← HM2.out] at x0 x1 x2 x3 x4 x5 x7 hsl hcl
    refine reg5 (X := fun u w3 => OB w3 w2.heap.size u (sgb o0 ⟨kk, f, p, q, N, M⟩) ∧ Below w2.heap.size w2 w3) (Y := fun c w4 => ∃ u w3, (OB w3 w2.heap.size u (sgb o0 ⟨kk, f, p, q, N, M⟩) ∧ Below w2.heap.size w2 w3) ∧ BGo J Jx k (grb S wr w3) u w3 c w4) x0 x1 x2 x3 x4 x5 x6 x7 hsl hcl (fun u w3 h => h.2) hpz ?_ ?_ ?_
    · rintro u w3 ⟨ho, hb⟩
      obtain ⟨h1, h2⟩ := HM.out.turn HJ.out hb
      have h3 := HY.out k _ _ w3 u HM.out.got h1 h2 (by rw [← HN.out, ← HM2.out]; exact ho.base (Nat.zero_le _)) (fun b e => .inr ⟨Nat.le_trans HM.out.mvb.size (ho.lt b e).1, (ho.lt b e).2⟩)
      rw [← HN.out, ← HM2.out] at h3
      exact h3.mono fun e w4 ⟨c, he, hg⟩ => ⟨c, he, ⟨u, w3, ⟨ho, hb⟩, hg⟩, u, rfl, ho, hb⟩
    · intro c a d v w h
      simp (config := { zetaDelta := true }) only [Exit.then, Exit.inBlock] at h ⊢
      obtain ⟨-, ⟨v', hv⟩, -⟩ := h
      cases hv
    · rintro u w3 c w4 - ⟨u', w3', ⟨ho, hb⟩, hg⟩
      have HMM := HM
      clear hsl hcl x0 x1 x2 x3 x4 x5 x6 x7 hob hoL hpz
      rcases hg with ⟨rfl, hj, hk, hs⟩ | ⟨rfl, hjx⟩
      · have HNX := hide (HMM.out.next hb (fun b e => (ho.lt b e).1) hj hk hs)
        have HLT := hide HMM.out.lt
        clear hj hk hs ho hb HM HMM
        gi_wp2
        go_roundw
        case rel => exact ⟨k + 1, _, q, o, f, HNX⟩
        case measure =>
          obtain ⟨-, -, -, -, -, -, -, -, a, c, fl, fd, -, -, h3⟩ := HNX.out.ist.fact
          rw [HMS.out, h3]
          simp [intOf]
          have := HLT.out
          omega
      · have HJX := hide hjx
        clear hjx ho hb HM HMM
        gi_wp2
        refine bodyPost_ret (results_none rfl _ _ _) rfl ?_
        exact ⟨⟨_, rfl⟩, .inr HJX.out⟩
end Go.Proofs.YtdpoggapenjjfaaGreatDoor

namespace Go.Proofs.YtdpoggapenjjfaaGreatDoor
open Go.RowKit
variable {F : Fence} {n : Nat} {P : Program}

def roundEnd3 {σ : Type} (R : σ → σ → Prop) (I : σ → Obj → World → Prop) (Ix : Code → Obj → World → Prop) (m : σ) (o : Obj) : Exit → Act → World → Prop
  | .normal, _, W => ∃ m', R m m' ∧ I m' o W
  | .ret, _, W => Ix .ret o W
  | .exit id, _, W => Ix (.exit id) o W
  | .goto t, _, W => Ix (.goto t) o W
  | .panic _, _, _ => False
  | .outgrown, _, _ => False

theorem wp_range3 {α σ : Type} (R : σ → σ → Prop) {g : Operand} {ps : Array Tmp} {assign body : Code} {Q : Exit → Act → World → Prop} {a : Act} {w : World} (m0 : σ)
    (hro : F.round = none) (h1 : 1 ≤ n) {gf : Nat} {lb : Array Value} (hg : a.eval g = .func (.func gf) #[] lb) (hFg : F.fn gf) (eg : ∀ args w, (callFunc gf args).run P w = .ok (.enter gf args) w)
    {encs : α → Array Value} (hps : ∀ x, (encs x).size = ps.size)
    (I : σ → Obj → World → Prop) (Iy : σ → α → Obj → World → Prop) (Ie : Obj → World → Prop) (Ix : Code → Obj → World → Prop)
    (rI : ∀ m, H4.Rec (w.heap.size + 1) (I m)) (ry : ∀ m x, H4.Rec (w.heap.size + 1) (Iy m x)) (re : H4.Rec (w.heap.size + 1) Ie) (rx : ∀ c, H4.Rec (w.heap.size + 1) (Ix c))
    (h0 : ∀ o, I m0 o ((w.alloc (.deferred (some []))).alloc o))
    (hseq : ∀ (o : Obj) (Jx : World → Prop), (∀ m x W, Iy m x o W → YieldAt F (n - 1 - 1) P (w.heap.size + 1) (encs x) W fun e W' => (e = .returned (.bool true) ∧ ∃ m', R m m' ∧ I m' o W') ∨ (e = .returned (.bool false) ∧ Jx W')) →
      ∀ W, I m0 o W → CallsIn F (n - 1) P gf (#[.func (.yield (w.heap.size + 1)) #[] #[]] ++ lb) W fun e W' => (∃ v, e = .returned v) ∧ (Ie o W' ∨ Jx W'))
    (Iz : σ → α → Act → Obj → World → Prop) (rz : ∀ m x b, H4.Rec (w.heap.size + 1) (Iz m x b))
    (hassign : ∀ m (x : α) o (W : World) (K : Act → World → Prop), Iy m x o W → (∀ b W', Iz m x b o W' → K b W') →
      assign.wpIn (F.inRound (w.heap.size + 1)) (n - 1 - 1) P (Exit.then K (fun _ _ _ => False)) { tmps := (ps.zip (encs x)).foldl (fun t (p, v) => t.setIfInBounds p v) a.tmps, defers := [] } W)
    (hbody : ∀ m x b o W, Iz m x b o W → body.wpIn (F.inRound (w.heap.size + 1)) (n - 1 - 1) P (roundEnd3 R I Ix m o) b W)
    (hdone : ∀ o W, Ie o W → Q .normal { a with defers := { target := .collected w.heap.size, args := #[] } :: a.defers } W)
    (hstop : ∀ c o W, Ix c o W → c.wpIn F n P Q { a with defers := { target := .collected w.heap.size, args := #[] } :: a.defers } W) :
    (Code.rangeFunc g ps assign body).wpIn F n P Q a w := by
  refine wpIn_rangeFunc ?_
  intro fn hfn
  rw [hro]
  obtain ⟨rec, hrec⟩ : ∃ rec : LoopState → Option Code → Loop, rec = fun st pe => { state := st, pending := pe, fn, tmps := a.tmps, params := ps, assign, body, defers := w.heap.size } := ⟨_, rfl⟩
  obtain ⟨W1, hW1⟩ : ∃ W1, (w.alloc (.deferred (some []))).alloc (.loop (rec .ready none)) = W1 := ⟨_, rfl⟩
  have hI1 : I m0 (.loop (rec .ready none)) W1 := by rw [← hW1]; exact h0 _
  refine ⟨w.heap.size + 1, [{ target := .collected w.heap.size, args := #[] }], W1, { target := .fn (.func gf) lb, args := #[.func (.yield (w.heap.size + 1)) #[] #[]] }, W1, gf,
    #[.func (.yield (w.heap.size + 1)) #[] #[]] ++ lb, W1, ?_, ?_, ?_, ?_, fun _ => h1, ?_⟩
  · rw [← hW1, hrec]; exact run_enterLoop_outer _ _ _ _ _
  · simp only [resolve, hg]
    simp [go_sem]
  · intro f' hf'; simp [Target.leads] at hf'; subst hf'; exact hFg
  · simp [invoke, go_sem, eg]
  · refine (hseq (.loop (rec .ready none)) (fun W => ∃ c, Ix c (.loop (rec .done (some c))) W) ?_ W1 hI1).mono ?_
    · rintro m x W hi
      have hl := (ry m x).get _ _ hi
      have hlt : w.heap.size + 1 < W.heap.size := (Array.getElem?_eq_some_iff.1 hl).1
      have hy := run_yield (P := P) (args := encs x) hl (by rw [hrec]; exact hps x)
      rw [hrec] at hy
      refine ⟨fn, _, assign, body, hy, roundIn_of_wpIn hfn (hassign m x _ W _ hi ?_)⟩
      intro b W' hz
      refine ⟨_, run_beginRound ((rz m x b).get _ _ hz) (by rw [hrec]), ?_⟩
      refine wpIn_mono (hbody m x b (.loop { rec .ready none with state := .busy }) _ ((rz m x b).put _ _ _ hz)) ?_
      have fin : ∀ (jump : Option Code) (W3 : World), W3.heap[w.heap.size + 1]? = some (.loop { rec .ready none with state := .busy }) →
          (Instr.endRound (w.heap.size + 1) jump).run P W3 = .ok (.bool jump.isNone) (W3.putObj (w.heap.size + 1) (.loop (rec (if jump.isNone then .ready else .done) jump))) := fun jump W3 hl3 => by
        have := run_endRound (P := P) jump hl3
        rw [hrec] at this ⊢
        exact this
      rintro e a3 W3 hp
      cases e with
      | normal =>
        obtain ⟨m', hm', hi3⟩ := hp
        exact ⟨_, _, fin none W3 ((rI m').get _ _ hi3), .inl ⟨rfl, m', hm', (rI m').put _ _ _ hi3⟩⟩
      | ret => exact ⟨_, _, fin (some .ret) W3 ((rx _).get _ _ hp), .inr ⟨rfl, .ret, (rx _).put _ _ _ hp⟩⟩
      | exit id => exact ⟨_, _, fin (some (.exit id)) W3 ((rx _).get _ _ hp), .inr ⟨rfl, .exit id, (rx _).put _ _ _ hp⟩⟩
      | goto t => exact ⟨_, _, fin (some (.goto t)) W3 ((rx _).get _ _ hp), .inr ⟨rfl, .goto t, (rx _).put _ _ _ hp⟩⟩
      | panic ch => exact hp.elim
      | outgrown => exact hp.elim
    · rintro e W2 ⟨⟨v, rfl⟩, (hi | ⟨c, hi⟩)⟩
      · exact ⟨none, _, by have := run_endLoop (P := P) (re.get _ _ hi) (by rw [hrec]; simp); rw [hrec] at this; exact this, hdone _ _ (re.put _ _ _ hi)⟩
      · exact ⟨some c, _, by have := run_endLoop (P := P) ((rx c).get _ _ hi) (by rw [hrec]; simp); rw [hrec] at this; exact this, hstop c _ _ ((rx c).put _ _ _ hi)⟩

end Go.Proofs.YtdpoggapenjjfaaGreatDoor

namespace Go.Proofs.YtdpoggapenjjfaaGreatDoor
open Go.RowKit Go.Maps Go.Shelf
set_option maxRecDepth 20000
set_option linter.unusedVariables false

/-! A loop over what Blocks hands back. -/

def blkEnd (T : Nat → (Nat → Prop) → Obj → World → Prop) (Ix : Code → Obj → World → Prop) (u : Value) (k : Nat) (S : Nat → Prop) (o : Obj) (W0 : World) : Exit → Act → World → Prop
  | .normal, _, W => T (k + 1) (fun b => S b ∧ u.ownBlock ≠ some b) o W ∧ (∀ b, S b → u.ownBlock ≠ some b → W.heap[b]? = W0.heap[b]?) ∧ W0.heap.size ≤ W.heap.size
  | .ret, _, W => Ix .ret o W
  | .exit id, _, W => Ix (.exit id) o W
  | .goto t, _, W => Ix (.goto t) o W
  | .panic _, _, _ => False
  | .outgrown, _, _ => False

def BI (T : Nat → (Nat → Prop) → Obj → World → Prop) (q : Nat × (Nat → Prop) × World × Value) (o : Obj) (W : World) : Prop :=
  T q.1 q.2.1 o W ∧ (∀ b, q.2.1 b → b < q.2.2.1.heap.size ∧ W.heap[b]? = q.2.2.1.heap[b]?) ∧ q.2.2.1.heap.size ≤ W.heap.size

theorem putObj_at8 (W : World) {l b : Nat} (o : Obj) (h : b ≠ l) : (W.putObj l o).heap[b]? = W.heap[b]? := by
  show (W.heap.setIfInBounds l o)[b]? = _
  rw [Array.getElem?_setIfInBounds_ne (fun e => h e.symm)]

theorem putObj_size8 (W : World) (l : Nat) (o : Obj) : (W.putObj l o).heap.size = W.heap.size := by show (W.heap.setIfInBounds l o).size = _; simp

theorem bi_rec {T : Nat → (Nat → Prop) → Obj → World → Prop} {l : Nat} (rT : ∀ k S, H4.Rec l (T k S)) (hnS : ∀ k S o W, T k S o W → ¬ S l) (q : Nat × (Nat → Prop) × World × Value) : H4.Rec l (BI T q) :=
  ⟨fun o W h => (rT _ _).get _ _ h.1, fun o o' W h => ⟨(rT _ _).put _ _ _ h.1, fun b hb => by
    refine ⟨(h.2.1 b hb).1, ?_⟩
    rw [putObj_at8 _ _ (fun e => hnS _ _ _ _ h.1 (by subst e; exact hb))]
    exact (h.2.1 b hb).2, by rw [putObj_size8]; exact h.2.2⟩⟩

theorem heap_two8 (w : World) (x y : Obj) : ((w.alloc x).alloc y).heap[w.heap.size + 1]? = some y ∧ ((w.alloc x).alloc y).heap[w.heap.size]? = some x := by
  have e1 := heap_alloc_new (w.alloc x) y
  rw [size_alloc'] at e1
  exact ⟨e1, (Below.heap_alloc _ _ _ (by simp)).trans (heap_alloc_new w x)⟩

theorem wp_blocks {g : Operand} {pm : Array Tmp} {assign body : Code} {Q : Exit → Act → World → Prop} {a : Act} {w : World} (dB lB : Nat) {data : List Int} {limit : Int} {ps : List Pc} {o0 : List Int} {v : Value} {E : Int} {q0 : Nat}
    (hg : a.eval g = .func (.func 14) #[] #[.pointer (some ⟨dB, 0, none⟩), .pointer (some ⟨lB, 0, none⟩)]) (hps : pm.size = 2) (hdm : data.length ≤ 33554432 ∧ 0 ≤ limit ∧ limit ≤ 16777216) (ht : Txt (unpack data) limit.toNat 0 [] ps E q0 o0) (hB : Byt data)
    (T : Nat → (Nat → Prop) → Obj → World → Prop) (Ix : Code → Obj → World → Prop) (rT : ∀ k S, H4.Rec (w.heap.size + 1) (T k S)) (hnS : ∀ k S o W, T k S o W → ¬ S (w.heap.size + 1)) (rx : ∀ c, H4.Rec (w.heap.size + 1) (Ix c))
    (hdd : ∀ o W, T 0 (fun _ => False) o W → SB W v data ∧ W.cell? ⟨dB, 0, none⟩ = some v ∧ W.cell? ⟨lB, 0, none⟩ = some (.int .i64 limit)) (hmv : ∀ o, BBears fun k S W => T k S o W)
    (hTO : ∀ o k S W B, T k S o W → w.heap.size + 2 ≤ B → B ≤ W.heap.size → Tab (wtake W B) ∧ Odr (wtake W B))
    (hsz : ∀ k S o W, T k S o W → w.heap.size + 2 ≤ W.heap.size)
    (h0 : ∀ o, T 0 (fun _ => False) o ((w.alloc (.deferred (some []))).alloc o)) (act : Pc → Value → Nat → Act)
    (hassign : ∀ (x : Pc) (u : Value) (V : World) (c : Nat) (K : Act → World → Prop), V.heap.size = c → K (act x u c) (V.alloc (.cells (pcq x) 36)) →
      assign.wpIn (Fence.wide.inRound (w.heap.size + 1)) 1 Tryz.prog (Exit.then K (fun _ _ _ => False)) { tmps := (pm.zip #[.agg (pcq x), u]).foldl (fun t (p, v) => t.setIfInBounds p v) a.tmps, defers := [] } V)
    (hbody : ∀ k x S o V c u, ps[k]? = some x → T k S o V → (∀ b, S b → b < V.heap.size) → V.heap[c]? = some (.cells (pcq x) 36 (0, 0)) → w.heap.size + 1 < c → ¬ S c → OB V 0 u (sgb o0 x) → (∀ b, u.ownBlock = some b → S b) → body.wpIn (Fence.wide.inRound (w.heap.size + 1)) 1 Tryz.prog (blkEnd T Ix u k S o V) (act x u c) V)
    (hdone : ∀ S o V, T ps.length S o V → Q .normal { a with defers := { target := .collected w.heap.size, args := #[] } :: a.defers } V)
    (hstop : ∀ c o V, Ix c o V → c.wpIn Fence.wide 3 Tryz.prog Q { a with defers := { target := .collected w.heap.size, args := #[] } :: a.defers } V) :
    (Code.rangeFunc g pm assign body).wpIn Fence.wide 3 Tryz.prog Q a w := by
  refine wp_range3 (α := Pc × Value) (fun p q => q = (p.1 + 1, (fun b => p.2.1 b ∧ p.2.2.2.ownBlock ≠ some b), p.2.2.1, p.2.2.2)) (0, (fun _ => False), w, .slice none 0 0) rfl (by decide) hg trivial (enters_of Tryz.func14 (by kernel_rfl) rfl) (encs := fun x => #[.agg (pcq x.1), x.2]) (fun _ => hps.symm)
    (BI T) (fun q x o V => x.2 = q.2.2.2 ∧ ps[q.1]? = some x.1 ∧ BI T q o V ∧ OB V 0 x.2 (sgb o0 x.1) ∧ ∀ b, x.2.ownBlock = some b → q.2.1 b) (fun o V => ∃ S, T ps.length S o V) Ix
    (bi_rec rT hnS) (fun q x => ⟨fun o V hh => (bi_rec rT hnS q).get _ _ hh.2.2.1, fun o o' V hh => ⟨hh.1, hh.2.1, (bi_rec rT hnS q).put _ _ _ hh.2.2.1, hh.2.2.2.1.move fun k hk => putObj_at8 _ _ (fun e => hnS _ _ _ _ hh.2.2.1.1 (by subst e; exact hh.2.2.2.2 _ hk)), hh.2.2.2.2⟩⟩)
    ⟨fun o V ⟨S, hh⟩ => (rT _ S).get _ _ hh, fun o o' V ⟨S, hh⟩ => ⟨S, (rT _ S).put _ _ _ hh⟩⟩ rx ?_ ?_
    (fun q x b o V => x.2 = q.2.2.2 ∧ ps[q.1]? = some x.1 ∧ BI T q o V ∧ OB V 0 x.2 (sgb o0 x.1) ∧ (∀ b, x.2.ownBlock = some b → q.2.1 b) ∧ ∃ c, b = act x.1 x.2 c ∧ V.heap[c]? = some (.cells (pcq x.1) 36 (0, 0)) ∧ w.heap.size + 1 < c ∧ ¬ q.2.1 c)
    (fun q x b => ⟨fun o V hh => (bi_rec rT hnS q).get _ _ hh.2.2.1, fun o o' V ⟨h1, h2, h3, h4, h5, c, h6, h7, h8, h9⟩ => ⟨h1, h2, (bi_rec rT hnS q).put _ _ _ h3, h4.move fun k hk => putObj_at8 _ _ (fun e => hnS _ _ _ _ h3.1 (by subst e; exact h5 _ hk)), h5, c, h6, (putObj_at8 _ _ (by omega)).trans h7, h8, h9⟩⟩) ?_ ?_ ?_ hstop
  · intro o
    exact ⟨h0 o, fun b hb => hb.elim, by simp; omega⟩
  · intro o Jx hY V hV
    obtain ⟨v1, v2, v3⟩ := hV
    obtain ⟨d1, d2, d3⟩ := hdd _ _ v1
    refine blk2_any (w.heap.size + 1) dB lB (J := fun k S W => T k S o W) (Jx := Jx) hdm ht d1 hB d2 d3 (hmv o) (fun k S W hW hB2 => hTO o k S W _ hW (hsz _ _ _ _ v1) hB2) ?_ v1 Fence.wide rfl
    · intro k x S U u hk hj hSb ho hu
      refine (hY (k, S, U, u) (x, u) U ⟨rfl, hk, ⟨hj, fun b hb => ⟨hSb b hb, rfl⟩, Nat.le_refl _⟩, ho, hu⟩).mono ?_
      rintro e U' (⟨rfl, q, rfl, hq1, hq2, hq3⟩ | ⟨rfl, hq⟩)
      · exact ⟨true, rfl, .inl ⟨rfl, hq1, fun b hb hne => (hq2 b ⟨hb, hne⟩).2, hq3⟩⟩
      · exact ⟨false, rfl, .inr ⟨rfl, hq⟩⟩
  · rintro ⟨k, S, U, u⟩ ⟨x, u'⟩ o V K ⟨hx, hk, ⟨v1, v2, v3⟩, ho, hu⟩ hK
    have hl := (Array.getElem?_eq_some_iff.1 ((rT k S).get _ _ v1)).1
    have hb : Below V.heap.size V (V.alloc (.cells (pcq x) 36)) := (Below.refl _ _).alloc (Nat.le_refl _) _
    have hSb : ∀ b, S b → b < V.heap.size := fun b e => Nat.lt_of_lt_of_le (v2 b e).1 v3
    refine hassign x u' V _ K rfl (hK _ _ ⟨hx, hk, ⟨hmv o k S S V _ v1 (Mvb.of hb) hSb (fun b e => e) (fun b e => ⟨.inl e, Nat.lt_of_lt_of_le (hSb b e) hb.size⟩), fun b e => ⟨(v2 b e).1, (hb.block b (hSb b e)).trans (v2 b e).2⟩, Nat.le_trans v3 hb.size⟩, ho.alloc _, hu, _, rfl, heap_alloc_new V _, hl, fun e => ?_⟩)
    have := hSb _ e
    omega
  · rintro ⟨k, S, U, u⟩ ⟨x, u'⟩ b o V ⟨hx, hk, ⟨v1, v2, v3⟩, ho, hu, c, rfl, h5, h6, h7⟩
    obtain rfl : u' = u := hx
    refine wpIn_mono (hbody k x S o V c u' hk v1 (fun b hb => Nat.lt_of_lt_of_le (v2 b hb).1 v3) h5 h6 h7 ho hu) ?_
    rintro e a3 V3 hp
    cases e with
    | normal =>
      obtain ⟨q1, q2, q3⟩ := hp
      exact ⟨_, rfl, q1, fun b hb => ⟨(v2 b hb.1).1, (q2 b hb.1 hb.2).trans (v2 b hb.1).2⟩, Nat.le_trans v3 q3⟩
    | ret => exact hp
    | exit id => exact hp
    | goto t => exact hp
    | panic ch => exact hp
    | outgrown => exact hp
  · rintro o V ⟨S, hh⟩
    exact hdone S o V hh
end Go.Proofs.YtdpoggapenjjfaaGreatDoor

namespace Go.Proofs.YtdpoggapenjjfaaGreatDoor
open Go.RowKit Go.Maps Go.Shelf
set_option maxRecDepth 20000
set_option linter.unusedVariables false

theorem wp_blocks_no {g : Operand} {pm : Array Tmp} {assign body : Code} {Q : Exit → Act → World → Prop} {a : Act} {w : World} (hg : a.eval g = .func (.func 12) #[] #[]) (hps : pm.size = 2) (T : Obj → World → Prop) (rT : H4.Rec (w.heap.size + 1) T) (h0 : ∀ o, T o ((w.alloc (.deferred (some []))).alloc o))
    (hdone : ∀ o V, T o V → Q .normal { a with defers := { target := .collected w.heap.size, args := #[] } :: a.defers } V) :
    (Code.rangeFunc g pm assign body).wpIn Fence.wide 3 Tryz.prog Q a w := by
  refine wp_range3 (α := Unit) (fun (_ _ : Unit) => True) () rfl (by decide) hg trivial (enters_of Tryz.func12 (by kernel_rfl) rfl) (encs := fun _ => #[.slice none 0 0, .slice none 0 0]) (fun _ => hps.symm)
    (fun _ o V => T o V) (fun _ _ _ _ => False) (fun o V => T o V) (fun _ _ _ => False)
    (fun _ => rT) (fun _ _ => ⟨fun o V h => h.elim, fun o o' V h => h.elim⟩) rT (fun _ => ⟨fun o V h => h.elim, fun o o' V h => h.elim⟩) h0 ?_
    (fun _ _ _ _ _ => False) (fun _ _ _ => ⟨fun o V h => h.elim, fun o o' V h => h.elim⟩) ?_ ?_ ?_ ?_
  · intro o Jx _ V hV
    refine callsIn_wide.2 ?_
    have HV := hide hV
    clear hV hdone h0 rT
    go_enter Tryz.func12, Tryz.ntmps12
    go_wp2
    refine bodyPost_end (results_none rfl _ _ _) rfl ?_
    exact ⟨⟨_, rfl⟩, .inl HV.out⟩
  · intro m x o V K h _; exact h.elim
  · intro m x b o V h; exact h.elim
  · exact fun o V h => hdone o V h
  · exact fun c o V h => h.elim

theorem wp_blocks_any {g : Operand} {pm : Array Tmp} {assign body : Code} {Q : Exit → Act → World → Prop} {a : Act} {w : World} (dB lB : Nat) {data : List Int} {limit : Int} {ps : List Pc} {o0 : List Int} {v : Value} (T : Nat → (Nat → Prop) → Obj → World → Prop) (Ix : Code → Obj → World → Prop)
    (hit : (a.eval g = .func (.func 12) #[] #[] ∧ ps = []) ∨ (a.eval g = .func (.func 14) #[] #[.pointer (some ⟨dB, 0, none⟩), .pointer (some ⟨lB, 0, none⟩)] ∧ (data.length ≤ 33554432 ∧ 0 ≤ limit ∧ limit ≤ 16777216) ∧ (∃ E q0, Txt (unpack data) limit.toNat 0 [] ps E q0 o0) ∧ ∀ o W, T 0 (fun _ => False) o W → SB W v data ∧ W.cell? ⟨dB, 0, none⟩ = some v ∧ W.cell? ⟨lB, 0, none⟩ = some (.int .i64 limit))) (hps : pm.size = 2) (hB : Byt data)
    (rT : ∀ k S, H4.Rec (w.heap.size + 1) (T k S)) (hnS : ∀ k S o W, T k S o W → ¬ S (w.heap.size + 1)) (rx : ∀ c, H4.Rec (w.heap.size + 1) (Ix c))
    (hmv : ∀ o, BBears fun k S W => T k S o W)
    (hTO : ∀ o k S W B, T k S o W → w.heap.size + 2 ≤ B → B ≤ W.heap.size → Tab (wtake W B) ∧ Odr (wtake W B))
    (hsz : ∀ k S o W, T k S o W → w.heap.size + 2 ≤ W.heap.size)
    (h0 : ∀ o, T 0 (fun _ => False) o ((w.alloc (.deferred (some []))).alloc o)) (act : Pc → Value → Nat → Act)
    (hassign : ∀ (x : Pc) (u : Value) (V : World) (c : Nat) (K : Act → World → Prop), V.heap.size = c → K (act x u c) (V.alloc (.cells (pcq x) 36)) →
      assign.wpIn (Fence.wide.inRound (w.heap.size + 1)) 1 Tryz.prog (Exit.then K (fun _ _ _ => False)) { tmps := (pm.zip #[.agg (pcq x), u]).foldl (fun t (p, v) => t.setIfInBounds p v) a.tmps, defers := [] } V)
    (hbody : ∀ k x S o V c u, ps[k]? = some x → T k S o V → (∀ b, S b → b < V.heap.size) → V.heap[c]? = some (.cells (pcq x) 36 (0, 0)) → w.heap.size + 1 < c → ¬ S c → OB V 0 u (sgb o0 x) → (∀ b, u.ownBlock = some b → S b) → body.wpIn (Fence.wide.inRound (w.heap.size + 1)) 1 Tryz.prog (blkEnd T Ix u k S o V) (act x u c) V)
    (hdone : ∀ S o V, T ps.length S o V → Q .normal { a with defers := { target := .collected w.heap.size, args := #[] } :: a.defers } V)
    (hstop : ∀ c o V, Ix c o V → c.wp Tryz.prog Q { a with defers := { target := .collected w.heap.size, args := #[] } :: a.defers } V) :
    (Code.rangeFunc g pm assign body).wp Tryz.prog Q a w := by
  refine (wpIn_wide (n := 3)).1 ?_
  rcases hit with ⟨hg, rfl⟩ | ⟨hg, hdm, ⟨E, q0, ht⟩, hdd⟩
  · exact wp_blocks_no hg hps (T 0 (fun _ => False)) (rT _ _) h0 (fun o V h => hdone _ o V h)
  · exact wp_blocks dB lB hg hps hdm ht hB T Ix rT hnS rx hdd hmv hTO hsz h0 act hassign hbody hdone (fun c o V h => wpIn_wide.2 (hstop c o V h))

set_option maxHeartbeats 1000000 in
theorem hBlocks {w : World} {v : Value} {data : List Int} (h : SB w v data) (limit : Int) :
    Calls Tryz.prog 5 #[v, .int .i64 limit] w fun e w' => Below w.heap.size w w' ∧ ((¬ (data.length ≤ 33554432 ∧ 0 ≤ limit ∧ limit ≤ 16777216) ∧ e = .returned (.func (.func 12) #[] #[])) ∨
      ((data.length ≤ 33554432 ∧ 0 ≤ limit ∧ limit ≤ 16777216) ∧ ∃ u, e = .returned (.func (.func 14) #[] #[.pointer (some ⟨w.heap.size, 0, none⟩), .pointer (some ⟨w.heap.size + 1, 0, none⟩)]) ∧ w'.heap[w.heap.size]? = some (.cells #[u] 22 (0, 0)) ∧ w'.heap[w.heap.size + 1]? = some (.cells #[.int .i64 limit] 3 (0, 0)) ∧ OB w' (w.heap.size + 2) u data)) := by
  obtain ⟨w2, hw2⟩ : ∃ w2, (w.alloc (.cells #[v] 22)).alloc (.cells #[.int .i64 limit] 3) = w2 := ⟨_, rfl⟩
  have hmf : ∀ (fn : Fn) (first cap : Array Value) (w : World), (Instr.makeFunc fn first cap).run Tryz.prog w = .ok (.func fn first cap) w := fun _ _ _ _ => rfl
  have b2 : Below w.heap.size w w2 := by
    rw [← hw2]
    have b1 : Below w.heap.size w (w.alloc (.cells #[v] 22)) := (Below.refl _ _).alloc (Nat.le_refl _) _
    exact b1.alloc b1.size _
  have s2 : w2.heap.size = w.heap.size + 2 := by rw [← hw2]; simp
  have e0 : w2.heap[w.heap.size]? = some (.cells #[v] 22 (0, 0)) := by rw [← hw2]; exact (Below.heap_alloc _ _ _ (by simp)).trans (heap_alloc_new w _)
  have e1 : w2.heap[w.heap.size + 1]? = some (.cells #[.int .i64 limit] 3 (0, 0)) := by rw [← hw2]; exact heap_alloc2_new w _ _
  have k0 := (one_cell e0).1
  have k1 := (one_cell e1).1
  have hsb := h.below b2
  obtain ⟨a, c, rfl, -⟩ := h
  have HM := hide (hmayBe a data.length c limit w2 _ rfl)
  have HW := hide hw2
  have HB2 := hide b2
  have HS2 := hide s2
  have HE0 := hide e0
  have HE1 := hide e1
  have HSB := hide hsb
  clear hw2 b2 s2 e0 e1 hsb
  go_enter Tryz.func5, Tryz.ntmps5
  go_wp2_with fail
  rw [HW.out]
  refine HM.out.mono ?_
  rintro e w3 ⟨rfl, hw3⟩
  subst hw3
  by_cases hc : data.length ≤ 33554432 ∧ 0 ≤ limit ∧ limit ≤ 16777216
  · rw [decide_eq_true hc]
    have HC := hide hc
    have HCL := hide (bclone_any _ data w3 HSB.out hc.1)
    clear hc HM
    go_wp2_with fail
    refine HCL.out.mono ?_
    rintro e w4 ⟨u, rfl, ho, hb⟩
    obtain ⟨ua, uc, rfl⟩ := ho.shape
    have f0 : w4.heap[w.heap.size]? = some (.cells #[.slice a data.length c] 22 (0, 0)) := (hb.block _ (by rw [HS2.out]; omega)).trans HE0.out
    have f1 : w4.heap[w.heap.size + 1]? = some (.cells #[.int .i64 limit] 3 (0, 0)) := (hb.block _ (by rw [HS2.out]; omega)).trans HE1.out
    obtain ⟨g0, g1⟩ := one_cell f0
    have HW4 := hide (wrt_set f0 (.slice ua data.length uc))
    have HO := hide ho
    have HB := hide hb
    have HF1 := hide f1
    clear ho hb f0 f1 HCL k0 k1
    go_wp2
    go_ret
    have hz := HS2.out
    refine ⟨?_, .inr ⟨HC.out, _, rfl, HW4.out.at, (HW4.out.ne _ (by omega)).trans HF1.out, ?_⟩⟩
    · exact (HB2.out.trans (HB.out.mono HB2.out.size)).setCell (p := ⟨w.heap.size, 0, none⟩) (Nat.le_refl _) _
    · have := HO.out.move (w' := w4.setCell ⟨w.heap.size, 0, none⟩ (.slice ua data.length uc)) fun k hk => HW4.out.ne k (by have := (HO.out.lt k hk).1; omega)
      rw [← hz]; exact this
  · rw [decide_eq_false hc]
    have HC := hide hc
    clear hc HM
    go_wp2
    go_ret
    exact ⟨HB2.out, .inl ⟨HC.out, rfl⟩⟩
end Go.Proofs.YtdpoggapenjjfaaGreatDoor

namespace Go.Proofs.YtdpoggapenjjfaaGreatDoor
open Go.ChangeShapes Go.WideShapes Go.ChangeAt Go.RowKit Go.Joins Go.Deep

theorem own : ownKnob Tryz.prog.godebug = none := by kernel_rfl
theorem laidOut : laidOutB Tryz.prog = true := by kernel_rfl
theorem bytesByte : Tryz.prog.bytesOf 5 = 1 := by kernel_rfl

theorem byte_wf {n : Int} (h : (Lit.int .u8 n).wf = true) : 0 ≤ n ∧ n < 256 := by
  simp [Lit.wf, IntKind.min, IntKind.max, IntKind.signed, IntKind.bits] at h
  omega

theorem i64_in {n : Int} (h : (Lit.int .i64 n).wf = true) : -9223372036854775808 ≤ n ∧ n ≤ 9223372036854775807 := by
  simp [Lit.wf, IntKind.min, IntKind.max, IntKind.signed, IntKind.bits] at h
  omega

theorem open_bytes {H : Type} {enc : TypeId × Value → H} {W : World} {ao : Option Addr} {len cap : Nat} {d : DataW H} {ps : List MemPlace}
    (h : DataW.Trod enc Tryz.prog W 0 (fun _ => true) true 22 (.slice ao len cap) d ps) :
    ∃ l, SB W (.slice ao len cap) l ∧ Byt l ∧ (l = [] ∨ ∃ elems spare, d = .slice elems spare ∧ l.length ≤ elems.length + spare.length) := by
  obtain ⟨fuel, hf⟩ := h
  rcases open_ints Tryz.underlying22 Tryz.underlying5 (by kernel_rfl) hf with ⟨hcs, _⟩ | ⟨x, ll, c, zs, hcs, _, hl, hm, hz, hx, hcell, hwz⟩
  · simp [Value.cells] at hcs
    obtain ⟨rfl, rfl, rfl⟩ := hcs
    exact ⟨[], ⟨none, 0, rfl, Nat.le_refl _, Nat.zero_le _, fun _ => rfl, fun x hx => by cases hx⟩, (fun i => by simp), .inl rfl⟩
  · simp [Value.cells] at hcs
    obtain ⟨rfl, rfl, rfl⟩ := hcs
    simp only [if_true] at hz
    have e : (zs.take len).length = len := by rw [List.length_take]; omega
    simp only [Prod.mk.injEq] at hx
    have hbz : Byt zs := by
      intro i
      by_cases hi : i < zs.length
      · have : zs.getD i 0 = zs[i] := by simp [hi]
        rw [this]
        exact byte_wf (hwz _ (List.getElem_mem hi))
      · have : zs.getD i 0 = 0 := by simp [hi]
        rw [this]; decide
    refine ⟨zs.take len, ⟨some x, cap, by rw [e], by omega, hm, (fun h => by cases h), fun y hy i hi => ?_⟩, byt_take hbz _, .inr ⟨_, _, hx.1, ?_⟩⟩
    · cases hy
      rw [e] at hi
      rw [hcell i (by omega)]
      simp [List.getD, hi]
    · simp [lits]

theorem reach_bytes {H : Type} {ts : List TypeId} {ds : List (DataW H)} {j : Nat} {l : List Int} {d : DataW H} (h : (DataW.weightsEach Tryz.prog ts ds).all (· ≤ reachBytes) = true) (ht : ts[j]? = some 22) (hd : ds[j]? = some d)
    (hl : l = [] ∨ ∃ elems spare, d = .slice elems spare ∧ l.length ≤ elems.length + spare.length) : l.length ≤ 140737488351232 := by
  rcases hl with rfl | ⟨elems, spare, rfl, hl⟩
  · simp
  · have := sized_slice h ht hd Tryz.underlying22
    rw [bytesByte] at this
    simp only [reachBytes] at this
    omega

end Go.Proofs.YtdpoggapenjjfaaGreatDoor

namespace Go.Proofs.YtdpoggapenjjfaaGreatDoor
open Go.ChangeShapes Go.WideShapes Go.ChangeAt Go.RowKit Go.Joins Go.Deep

end Go.Proofs.YtdpoggapenjjfaaGreatDoor

