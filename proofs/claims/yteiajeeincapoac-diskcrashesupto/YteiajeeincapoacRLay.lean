import Derived.Test.YteiajeeincapoacRUpd
import Derived.Deep.RegionHeld3
namespace Go.Proofs.Yteiajeeincapoac
open Go.RowKit Go.Maps

def pcOf (from' : Nat) (data : List Int) (s : Nat) : Nat × Nat × List Int := (s, max from' (s * 512), (data.drop (max from' (s * 512) - from')).take (min (from' + data.length) ((s + 1) * 512) - max from' (s * 512)))

def RP (from' : Nat) (data : List Int) (k : Nat) (qs : List (Nat × Nat × List Int)) : Prop := ∀ s, qs.filter (fun p => p.1 == s) = if s * 512 < from' + k ∧ from' < (s + 1) * 512 ∧ 0 < k then [pcOf from' data s] else []

theorem RP.nil (from' : Nat) (data : List Int) : RP from' data 0 [] := fun s => by rw [if_neg (by omega)]; rfl

theorem RP.step {from' : Nat} {data : List Int} {k : Nat} {qs : List (Nat × Nat × List Int)} (h : RP from' data k qs) (h3 : k = 0 ∨ (from' + k) % 512 = 0 ∨ k = data.length) (hlt : k < data.length) :
    RP from' data (min (((from' + k) / 512 + 1) * 512) (from' + data.length) - from') (qs ++ [((from' + k) / 512, from' + k, (data.drop k).take (min (((from' + k) / 512 + 1) * 512) (from' + data.length) - from' - k))]) := by
  intro s
  rw [List.filter_append, h s]
  by_cases hs : s = (from' + k) / 512
  · subst hs
    rw [if_neg (by omega), if_pos (by omega)]
    simp only [List.nil_append, List.filter_cons, List.filter_nil, beq_self_eq_true, if_true]
    unfold pcOf
    have e1 : max from' ((from' + k) / 512 * 512) = from' + k := by omega
    rw [e1, show from' + k - from' = k by omega, Nat.min_comm (from' + data.length)]
    congr 4
    omega
  · have e : ((from' + k) / 512 == s) = false := beq_eq_false_iff_ne.2 (fun e => hs e.symm)
    have e2 : ∀ X : Nat × List Int, List.filter (fun p => p.1 == s) [((from' + k) / 512, X)] = [] := fun X => by simp [e]
    rw [e2, List.append_nil]
    by_cases hc : s * 512 < from' + k ∧ from' < (s + 1) * 512 ∧ 0 < k
    · rw [if_pos hc, if_pos (by omega)]
    · rw [if_neg hc, if_neg (by omega)]

theorem infoPiece : (Try.prog.info? 79).map (fun i => (i.zero, i.size, i.bytes)) = some (some (.agg #[.int .i64 0, .int .i64 0, .slice none 0 0]), 3, 40) := by kernel_rfl

theorem SB.cut0 {w : World} {a : Option Addr} {c : Nat} {d : List Int} (h : SB w (.slice a d.length c) d) (lo n : Nat) (hn : lo + n ≤ d.length) (hp : 0 < n) : ∃ b o, a = some ⟨b, o, none⟩ ∧ SB w (.slice (some ⟨b, o + lo, none⟩) n (c - lo)) ((d.drop lo).take n) := by
  obtain ⟨ao, cap, he, h1, h2, h3, h4⟩ := id h
  simp only [Value.slice.injEq] at he
  obtain ⟨rfl, -, rfl⟩ := he
  cases a with
  | none => have := h3 rfl; omega
  | some x =>
    obtain ⟨b, o, rfl, hh⟩ := h.cut lo n hn hp
    exact ⟨b, o, rfl, hh⟩

theorem step_call1 {P : Program} {ops : Array Oper} {o : Oper} {a : Act} {w : World} {K : Act → World → Prop} {Q : Exit → Act → World → Prop} {E : Prop} (hgd : o.guard = none) (x : Operand) (t : TypeId) (f : FuncId)
    (ho : o.op = .call { callee := .value (.func f), args := #[x], argTypes := #[t] }) (hcall : ∀ args w, (callFunc f args).run P w = .ok (.enter f args) w) (v : Value) (hx : a.eval x = v) {R : Value → World → Prop}
    (hc : Calls P f #[v] w fun e w' => ∃ u, e = .returned u ∧ R u w') (h : ∀ v w', R v w' → K (a.put o.dst v) w') :
    if Region.wanted o (yielded ops a.tmps) = true then Oper.wp P o a w K Q else E := by
  have hw : Region.wanted o (yielded ops a.tmps) = true := by simp [Region.wanted, hgd]
  rw [if_pos hw]
  have hrun : (execOp a.eval o).run P w = .ok (.enter f #[v]) w := by
    obtain ⟨dst, op, type, pos, after, guard⟩ := o
    simp only [] at ho
    subst ho
    rw [execOp_call_go, hcall]
    simp [hx]
  unfold Oper.wp
  rw [hrun, Oper.upon_enter]
  refine hc.mono fun e w'' hh => ?_
  obtain ⟨v, rfl, hr⟩ := hh
  exact h _ _ hr

theorem rClone_step (v : Value) (l : List Int) (w : World) (h : SB w v l) (hr : l.length ≤ 140737488351232) (n : Nat) (hn : l.length = n) :
    Calls Try.prog 35 #[v] w fun e w' => ∃ u, e = .returned u ∧ ∃ gg, u = .slice (some ⟨gg, 0, none⟩) n n ∧ OB w' w.heap.size (.slice (some ⟨gg, 0, none⟩) n n) l ∧ Below w.heap.size w w' := by
  refine (rClone_any v l w h hr).mono ?_
  rintro e w1 ⟨_, rfl, rfl, hg, hb1⟩
  subst hn
  exact ⟨_, rfl, _, rfl, hg, hb1⟩

def nowLen (w : World) (g : Nat) : Nat :=
  match w.cell? ⟨g, 1, none⟩ with
  | some (.slice _ n _) => n
  | _ => 0

theorem nowLen_rep {w : World} {K : Nat → Nat} {g : Nat} {st : RSt} (h : RRep w K g st) : nowLen w g = st.now.length := by
  obtain ⟨vn, vd, vp, vs, h⟩ := h
  obtain ⟨_, c1, _⟩ := h.rc.at
  obtain ⟨a, c, e⟩ := h.hn.shape
  unfold nowLen
  rw [c1, e]

theorem resz_step (l : List Int) (n : Nat) (h : l.length ≤ n) : resz l n ++ [0] = resz l (n + 1) := by
  unfold resz
  rw [if_neg (show ¬ n + 1 ≤ l.length by omega)]
  by_cases e : n ≤ l.length
  · rw [if_pos e, show n = l.length by omega, List.take_length, show l.length + 1 - l.length = 1 by omega]
    rfl
  · rw [if_neg e, List.append_assoc, show n + 1 - l.length = (n - l.length) + 1 by omega, List.replicate_succ']

theorem resz_self (l : List Int) : resz l l.length = l := by
  unfold resz
  rw [if_pos (Nat.le_refl _), List.take_length]

theorem rgrow_fin {wr w6 w : World} {K K' : Nat → Nat} {g : Nat} {st : RSt} {vn vd vp vs v' : Value} {l : List Int} {O : Obj} (hV : RRepV wr K' g st vn vd vp vs) (hF : Fr K K' w wr) (hob : OB w6 0 v' l) (hgr : (wr.alloc O).grownBy w6 vn.ownBlock) (hloc : v'.ownBlock = vn.ownBlock ∨ v'.ownBlock = some (wr.heap.size + 1)) :
    ∃ K'', RRep (w6.setCell ⟨g, 1, none⟩ v') K'' g { st with now := l } ∧ Fr K K'' w (w6.setCell ⟨g, 1, none⟩ v') := by
  have hg2 : wr.grownBy w6 vn.ownBlock := (World.grownBy_alloc wr _ _).trans hgr
  obtain ⟨K2, h1, h2⟩ := hV.setNow hob hg2 (hloc.elim .inl (fun e => .inr fun k hk => by rw [e] at hk; simp at hk; omega))
  exact ⟨K2, ⟨_, _, _, _, h1⟩, hF.trans h2⟩

theorem rlay_fin {wc w5 w6 w : World} {K K' : Nat → Nat} {g : Nat} {st : RSt} {vn vd vs : Value} {ar : Option Addr} {nr cr : Nat} {cs0 : List Value} {gg5 nx gg cap6 sc fk : Nat} {ik : Int} {pd : List Int} {O : Obj}
    (hV : RRepV wc K' g st vn vd (.slice ar nr cr) vs) (hF : Fr K K' w wc) (hpk : PcsOK wc K' cs0 st.rps) (hnr : st.rps.length = nr) (hik : ik = (fk : Int))
    (ho5 : OB w5 wc.drew.heap.size (.slice (some ⟨gg5, 0, none⟩) nx nx) pd) (hb5 : Below wc.drew.heap.size wc.drew w5)
    (hown6 : w6.ownsRow 0 79 3 (.slice (some ⟨gg, 0, none⟩) (nr + 1) cap6) (nr + 1) (cs0 ++ [.int .i64 sc, .int .i64 ik, .slice (some ⟨gg5, 0, none⟩) nx nx]))
    (hgrow6 : (w5.alloc O).grownBy w6 (Value.slice ar nr cr).ownBlock) (hat6 : (Value.slice ar nr cr).ownBlock = some gg ∨ gg = w5.heap.size + 1) (hlt6 : gg < w6.heap.size) :
    ∃ K'', RRep (w6.setCell ⟨g, 3, none⟩ (.slice (some ⟨gg, 0, none⟩) (nr + 1) cap6)) K'' g { st with rps := st.rps ++ [(sc, fk, pd)] } ∧ Fr K K'' w (w6.setCell ⟨g, 3, none⟩ (.slice (some ⟨gg, 0, none⟩) (nr + 1) cap6)) := by
  subst hnr hik
  have hb : Below wc.heap.size wc w5 := (Below.refl wc.heap.size wc).drew.trans hb5
  obtain ⟨K2, h1, h2⟩ := hV.addPiece hb ho5 hpk hown6 hgrow6 hat6 hlt6
  exact ⟨K2, ⟨_, _, _, _, h1⟩, hF.trans h2⟩

set_option linter.unusedSimpArgs false in
set_option maxRecDepth 20000 in
set_option maxHeartbeats 4000000 in
theorem rlay_any {w : World} {K : Nat → Nat} {g : Nat} {st : RSt} {vdat : Value} {data : List Int} (from' : Nat) (h : RRep w K g st) (hn : st.now.length ≤ 16777216) (hf : from' ≤ st.now.length) (he : from' + data.length ≤ 16777216) (hpl : st.rps.length ≤ 3000000000000) (hd : SB w vdat data) (hk0 : Role K vdat 0) (hpos : 0 < data.length) :
    Calls Try.prog 48 #[.pointer (some ⟨g, 0, none⟩), .int .i64 from', vdat] w fun e w' => e = .returned (.tuple #[]) ∧ ∃ K' qs, RP from' data data.length qs ∧ qs.length ≤ 40000 ∧ RRep w' K' g { st with now := splice (resz st.now (max st.now.length (from' + data.length))) from' data, rps := st.rps ++ qs } ∧ Fr K K' w w' := by
  have HR := hide h
  have HSB := hide hd
  have HK0 := hide hk0
  obtain ⟨ad, cd, hv, hd1, hd2, _⟩ := hd
  subst hv
  unfold maxLen at hd2
  have HDL : Hid (∀ k, (Value.slice ad data.length cd).ownBlock = some k → 0 < data.length → k < w.heap.size) := fun k hk hpos => by
    obtain ⟨b, o, e, hh⟩ := HSB.out.cut0 0 data.length (by omega) hpos
    obtain ⟨a', c', e1, _, _, _, k4⟩ := HSB.out
    simp only [Value.slice.injEq] at e1
    have := k4 _ (by rw [← e1.1]; exact e) 0 hpos
    have := World.block_lt_of_cell? _ _ this
    rw [add_block] at this
    rw [e] at hk
    simp only [Value.ownBlock, Option.some.injEq] at hk
    simp only [] at this
    omega
  obtain ⟨i0, hi, hz0, hz1, hz2⟩ := info_parts infoPiece
  clear h hk0
  go_enter Try.func48, Try.ntmps48
  go_wp2_with fail
  go_loopw [6] (fun i wr => ∃ (k : Nat) (K' : Nat → Nat) (qs : List (Nat × Nat × List Int)), i = .int .i64 k ∧ k ≤ data.length ∧ (k = 0 ∨ (from' + k) % 512 = 0 ∨ k = data.length) ∧ qs.length ≤ rnds from' (from' + k) ∧ Hid (RP from' data k qs) ∧ Hid (RRep wr K' g { st with rps := st.rps ++ qs }) ∧ Hid (Fr K K' w wr)) (fun i _ => data.length - (intOf i).toNat)
  case atStart => exact ⟨0, K, [], rfl, Nat.zero_le _, .inl rfl, Nat.zero_le _, RP.nil _ _, by show RRep _ _ _ _; rw [List.append_nil]; exact HR.out, Fr.refl _ _⟩
  case round =>
    obtain ⟨k, K', qs, rfl, hk, hk3, hql, HRP, HRR, HFR⟩ := hrel
    have HK3 := hide hk3
    clear hk3
    by_cases hlt : k < data.length
    · have hlt' : (k : Int) < (data.length : Int) := by omega
      obtain ⟨nx, hnx⟩ : ∃ nx, min (((from' + k) / 512 + 1) * 512) (from' + data.length) - from' - k = nx := ⟨_, rfl⟩
      have hnx1 : 0 < nx := by omega
      have hnx2 : k + nx ≤ data.length := by omega
      obtain ⟨sc, hsc⟩ : ∃ sc, (from' + k) / 512 = sc := ⟨_, rfl⟩
      have HSI : Hid (((from' : Int) + (k : Int)) / 512 = (sc : Int)) := by show _ = _; omega
      have hsr : rnds from' (from' + k) + 1 ≤ rnds from' (from' + (k + nx)) := by
        have := rnds_step (a0 := from') (a := from' + k) (e := from' + data.length) (by omega) (by have := HK3.out; omega) (by omega)
        rw [show min (((from' + k) / 512 + 1) * 512) (from' + data.length) = from' + (k + nx) by omega] at this
        exact this
      have hrb : rnds from' (from' + (k + nx)) ≤ 39999 := rnds_le _ _ (by omega)
      have HST : Hid (RP from' data (k + nx) (qs ++ [(sc, from' + k, (data.drop k).take nx)])) := by
        have h1 := HRP.out.step HK3.out hlt
        rw [hnx, show min (((from' + k) / 512 + 1) * 512) (from' + data.length) - from' = k + nx by omega, hsc] at h1
        exact h1
      have HK4 : Hid (k + nx = 0 ∨ (from' + (k + nx)) % 512 = 0 ∨ k + nx = data.length) := by show _ ∨ _; omega
      have HQL : Hid (∀ x : Nat × Nat × List Int, (qs ++ [x]).length ≤ rnds from' (from' + (k + nx))) := fun x => by rw [List.length_append, List.length_singleton]; exact Nat.le_trans (Nat.add_le_add_right hql 1) hsr
      have HNX := hide hnx
      have HSC := hide hsc
      have hsc2 : sc * 512 ≤ from' + k ∧ from' + k < (sc + 1) * 512 := by omega
      obtain ⟨hsc3, hsc4⟩ := hsc2
      go_upto_if 29 with (fail)
      go_cut [8] (fun n8 wd => n8 = .int .i64 nx ∧ wd = wr)
      case first =>
        by_cases hmin : (sc + 1) * 512 ≤ from' + data.length
        · have hm1 : ¬ (data.length : Int) - (k : Int) < (((from' : Int) + (k : Int)) / 512 + 1) * 512 - ((from' : Int) + (k : Int)) := by rw [HSI.out]; omega
          have HM2 : Hid ((((from' : Int) + (k : Int)) / 512 + 1) * 512 - ((from' : Int) + (k : Int)) = (nx : Int)) := by show _ = _; rw [HSI.out]; have := HNX.out; have := HSC.out; omega
          go_wp2_with fail
          go_meet
          case rel => exact ⟨by rw [HM2.out], rfl⟩
        · have hm1 : (data.length : Int) - (k : Int) < (((from' : Int) + (k : Int)) / 512 + 1) * 512 - ((from' : Int) + (k : Int)) := by rw [HSI.out]; omega
          have HM2 : Hid ((data.length : Int) - (k : Int) = (nx : Int)) := by show _ = _; have := HNX.out; have := HSC.out; omega
          go_wp2_with fail
          go_meet
          case rel => exact ⟨by rw [HM2.out], rfl⟩
      case rest =>
        obtain ⟨rfl, rfl⟩ := hcut
        rw [HSI.out]
        obtain ⟨vn, vd, vp, vs, hV⟩ := HRR.out
        obtain ⟨_, _, _, g3, _⟩ := hV.rc.at
        have hfz := hV.rc.free
        obtain ⟨cs0, hpk, hprow⟩ := hV.hp
        obtain ⟨nr, hnr⟩ : ∃ nr, (st.rps ++ qs).length = nr := ⟨_, rfl⟩
        have hnr2 : nr ≤ 3000000040000 := by rw [← hnr, List.length_append]; omega
        obtain ⟨ar, cr, hvs⟩ : ∃ ar cr, vp = .slice ar nr cr := by
          rcases hprow.2 with ⟨e1, e2⟩ | ⟨b, c, cur, e1, _⟩
          · exact ⟨none, 0, by rw [e1, ← hnr]; congr 1; exact e2.symm⟩
          · exact ⟨_, _, by rw [e1, ← hnr]⟩
        subst hvs
        have HPR : Hid (wc.ownsRow 0 79 3 (.slice ar nr cr) nr cs0) := by rw [← hnr]; rw [← hnr] at hprow; exact hprow
        have HV := hide hV
        have HPK := hide hpk
        have HNR := hide hnr
        have hsbw : SB wc (.slice ad data.length cd) data := HSB.out.same fun q hq => HFR.out.block q (HDL.out q hq (by omega)) (.inl (HK0.out q hq))
        obtain ⟨b, o, hab, hcut⟩ := hsbw.cut0 k nx hnx2 hnx1
        have HCUT := hide hcut
        have hlenx : ((data.drop k).take nx).length = nx := by simp; omega
        have HLX := hide hlenx
        have hcd1 : ((k : Int) + (nx : Int)) ≤ (cd : Int) := by omega
        have hks : (k : Int) + (nx : Int) - (k : Int) = (nx : Int) := by omega
        subst hab
        clear hV hpk hprow hnr hsbw hcut hlenx
        have HCL : Hid (Calls Try.prog 35 #[.slice (some ⟨b, o + k, none⟩) nx (cd - k)] wc.drew fun e w' => ∃ u, e = .returned u ∧ ∃ gg, u = .slice (some ⟨gg, 0, none⟩) nx nx ∧ OB w' wc.drew.heap.size (.slice (some ⟨gg, 0, none⟩) nx nx) ((data.drop k).take nx) ∧ Below wc.drew.heap.size wc.drew w') := rClone_step _ _ wc.drew HCUT.out (by rw [HLX.out]; omega) _ HLX.out
        have HROW : Hid (∀ W : World, Below wc.heap.size wc W → W.ownsRow 0 79 3 (.slice ar nr cr) nr cs0) := fun W hW => ownsRow_same HPR.out fun q hq => hW.block q (HV.out.sup q (by rw [HV.out.kp q hq]; omega))
        have hck : k < cd := by omega
        have hw1 : IntKind.i64.wrap ((from' : Int) + (k : Int)) = (from' : Int) + (k : Int) := by rw [IntKind.wrap_i64]; omega
        have hw2 : IntKind.i64.wrap ((k : Int) + (nx : Int)) = (k : Int) + (nx : Int) := by rw [IntKind.wrap_i64]; omega
        have hs0 : (0 : Int) ≤ (k : Int) + (nx : Int) := by omega
        have hs1 : (k : Int) ≤ (k : Int) + (nx : Int) := by omega
        have hs2 : ¬ cd = k := by omega
        have hs3 : ((k : Int) + (nx : Int)).toNat - k = nx := by omega
        have HGNE : Hid (some g ≠ (Value.slice ar nr cr).ownBlock) := fun e => by have := HV.out.kp g e.symm; rw [HV.out.kg] at this; omega
        have HG6 : Hid (∀ (w5 w6 : World) (O : Obj), Below wc.drew.heap.size wc.drew w5 → (w5.alloc O).grownBy w6 (Value.slice ar nr cr).ownBlock → w6.cell? ⟨g, 3, none⟩ = some (.slice ar nr cr) ∧ ∀ q, w6.frozen? ⟨g, q, none⟩ = false) := fun w5 w6 O hb hg => by
          have gl := HV.out.rc.lt
          have s5 : wc.heap.size ≤ w5.heap.size := hb.size
          have e1 : w6.heap[g]? = wc.heap[g]? := by
            rw [hg.block g (by rw [size_alloc']; omega) HGNE.out, Below.heap_alloc _ _ g (by omega)]
            exact hb.block g gl
          have hrc := HV.out.rc.of_heap e1
          exact ⟨hrc.at.2.2.2.1, hrc.free⟩
        have HFK : Hid ((from' : Int) + (k : Int) = ((from' + k : Nat) : Int)) := by show _ = _; omega
        have HI0 := hide hi
        have HZ0 := hide hz0
        have HZ1 := hide hz1
        have HZ2 := hide hz2
        have HP3 : Hid (0 < 3) := by show 0 < 3; omega
        have HP1 : Hid (0 < 1) := by show 0 < 1; omega
        have HPM : Hid (nr + 1 ≤ maxLen) := by show _ ≤ _; unfold maxLen; omega
        have HPB : Hid ((nr + 1) * 40 ≤ 140737488355328) := by show _ ≤ _; omega
        have H1C : Hid (∀ gg5 : Nat, ∀ u ∈ [Value.int .i64 sc, .int .i64 ((from' : Int) + (k : Int)), .slice (some ⟨gg5, 0, none⟩) nx nx], u.oneCell' = true) := fun gg5 u hu => by
          simp only [List.mem_cons, List.not_mem_nil, or_false] at hu
          rcases hu with rfl | rfl | rfl <;> rfl
        have HHK := hide hk
        have HDD : Hid (data.length ≤ 16777216) := by show _ ≤ _; omega
        have HHQ := hide hql
        have HHX := hide hnx2
        clear hi hz0 hz1 hz2 hsr hrb hnx hsc hsc3 hsc4 hnr2 hn hf he hpl hlt hlt' hnx2 hk hql
        go_wp2_with fail
        go_region_law (first
          | (refine step_call1 rfl (.tmp 48) 22 35 rfl Try.call35 (.slice (some ⟨b, o + k, none⟩) nx (cd - k)) (by simp [Act.eval, Act.put]) HCL.out ?_; rintro v w5 ⟨gg5, rfl, ho5, hb5⟩; have HO5 := hide ho5; have HB5 := hide hb5; have k0 := keep1 hb5 g3; have k1 := keep1 ((Below.refl w5.heap.size w5).alloc (Nat.le_refl _) (.cells #[.int .i64 sc, .int .i64 ((from' : Int) + (k : Int)), .slice (some ⟨gg5, 0, none⟩) nx nx] 79)) k0; clear ho5 hb5)
          | (refine step_append_lies _ (by rfl) _ _ _ (by rfl) 0 79 i0 _ 3 40 Try.underlying63 HI0.out HZ0.out HZ1.out HZ2.out rfl HP3.out (.slice ar nr cr) nr cs0 (by simp [Act.eval, Act.put]) (HROW.out _ (((Below.refl wc.heap.size wc).drew.trans HB5.out).alloc HB5.out.size _)) ⟨w5.heap.size, 0, none⟩ 1 1 [.int .i64 sc, .int .i64 ((from' : Int) + (k : Int)), .slice (some ⟨gg5, 0, none⟩) nx nx] (by simp [Act.eval, Act.put]) (by rfl) (World.news_of_block (cs := #[.int .i64 sc, .int .i64 ((from' : Int) + (k : Int)), .slice (some ⟨gg5, 0, none⟩) nx nx]) (t := 79) (fr := (0, 0)) (heap_alloc_new w5 _)) (H1C.out gg5) HP1.out HPM.out HPB.out (Nat.zero_le _) (w5.heap.size + 1) (size_alloc' _ _) ?_; intro gg cap6 w6 hown6 hgrow6 hat6 hlt6; have HALL := hide (And.intro hown6 (And.intro hgrow6 (And.intro hat6 hlt6))); obtain ⟨t3, tf⟩ := HG6.out w5 w6 _ HB5.out hgrow6; clear hown6 hgrow6 hat6 hlt6))
        all_goals
          obtain ⟨hown6, hgrow6, hat6, hlt6⟩ := HALL.out
          obtain ⟨K7, HR7, HF7⟩ := rlay_fin HV.out HFR.out HPK.out HNR.out HFK.out HO5.out HB5.out hown6 hgrow6 hat6 hlt6
          have HR7 := hide HR7
          have HF7 := hide HF7
          clear hown6 hgrow6 hat6 hlt6 HALL t3 tf k0 k1 HO5 HB5 HCL HROW HG6 g3 hfz hw1 hw2 hs0 hs1 hs2 hs3 hcd1
          have hx2 := HHX.out
          have hx3 := HDD.out
          go_wp2
          go_roundw
          case rel =>
            refine ⟨k + nx, K7, qs ++ [(sc, from' + k, (data.drop k).take nx)], by go_num, HHX.out, HK4.out, HQL.out _, HST, ?_, HF7⟩
            show RRep _ _ _ _
            rw [← List.append_assoc]
            exact HR7.out
          case measure => simp [intOf]; omega
    · have hlt' : ¬ (k : Int) < (data.length : Int) := by omega
      have ek : k = data.length := by omega
      subst ek
      have hqs : qs.length ≤ 40000 := Nat.le_trans hql (Nat.le_trans (rnds_le _ _ (by omega)) (by omega))
      have HQS := hide hqs
      have HWP : Hid (RRep wr K' g { st with now := resz st.now st.now.length, rps := st.rps ++ qs }) := by show RRep _ _ _ _; rw [resz_self]; exact HRR.out
      obtain ⟨N, hN⟩ : ∃ N, N = max st.now.length (from' + data.length) := ⟨_, rfl⟩
      clear HK3 hql HRR hqs
      obtain ⟨i5, hi5, hz50, hz51, hz52⟩ := info_parts info5
      go_wp2_with fail
      go_loopw [67] (fun _ wq => ∃ (n : Nat) (K2 : Nat → Nat), st.now.length ≤ n ∧ n ≤ N ∧ Hid (RRep wq K2 g { st with now := resz st.now n, rps := st.rps ++ qs }) ∧ Hid (Fr K K2 w wq)) (fun _ wq => N - nowLen wq g)
      case atStart => exact ⟨st.now.length, K', Nat.le_refl _, by omega, HWP.out, HFR.out⟩
      case round =>
        clear HWP HFR
        obtain ⟨n, K2, hn1, hn2, HRR, HFR⟩ := hrel
        have HNL : Hid (nowLen wr g = n) := (nowLen_rep HRR.out).trans (length_resz _ _)
        obtain ⟨vn, vd, vp, vs, hV⟩ := HRR.out
        obtain ⟨_, c1, _⟩ := hV.rc.at
        have hfz := hV.rc.free
        obtain ⟨an, cn, hvn⟩ := hV.hn.shape
        simp only [length_resz] at hvn
        subst hvn
        have HV := hide hV
        by_cases hlt2 : n < from' + data.length
        · have hlt3 : (n : Int) < (from' : Int) + (data.length : Int) := by omega
          have HOW : Hid (wr.ownsRow 0 5 1 (.slice an n cn) n ((resz st.now n).map (Value.int .u8))) := by
            have := hV.hn
            unfold OB at this
            simp only [length_resz] at this
            exact this
          clear hV
          go_wp2_with (at_builtin; go_must (refine wpList_append_own_at _ rfl _ _ 22 rfl 0 5 i5 (.int .u8 0) 1 1 Try.underlying22 hi5 hz50 hz51 hz52 rfl (by decide) _ _ _ rfl (HOW.out.alloc _) ⟨wr.heap.size, 0, none⟩ 1 1 [.int .u8 0] rfl rfl (cell_one_new _ _ _) (fun u hu => by rw [List.mem_singleton.1 hu]; rfl) (by unfold maxLen; omega) (by omega) (Nat.zero_le _) ?_))
          intro v' w6 hown hgrow _ hloc
          have hob : OB w6 0 v' (resz st.now (n + 1)) := by
            rw [← resz_step _ _ hn1]
            show w6.ownsRow 0 5 1 v' (resz st.now n ++ [0]).length _
            rw [List.length_append, length_resz, List.map_append]
            exact hown
          obtain ⟨K6, hR6, hF6⟩ := rgrow_fin HV.out HFR.out hob hgrow hloc
          obtain ⟨a6, c6, hv6⟩ := hob.shape
          rw [length_resz] at hv6
          have gl := HV.out.rc.lt
          have hgne : some g ≠ (Value.slice an n cn).ownBlock := fun e => by have := HV.out.kn g e.symm; rw [HV.out.kg] at this; omega
          have hrc6 := HV.out.rc.of_heap (w' := w6) ((hgrow.block g (by rw [size_alloc']; omega) hgne).trans (Below.heap_alloc _ _ g gl))
          obtain ⟨_, t1, _⟩ := hrc6.at
          have tf := hrc6.free
          have HR6 := hide hR6
          have HF6 := hide hF6
          have HNL6 : Hid (nowLen (w6.setCell ⟨g, 1, none⟩ v') g = n + 1) := (nowLen_rep hR6).trans (length_resz _ _)
          clear hown hgrow hloc hob hR6 hF6 hrc6 c1 hfz hgne
          rw [hv6] at HR6 HF6 HNL6 ⊢
          clear hv6
          go_wp2
          go_roundw
          case rel => exact ⟨n + 1, K6, by omega, by omega, HR6.out, HF6.out⟩
          case measure => rw [HNL6.out, HNL.out]; omega
        · have hlt3 : ¬ (n : Int) < (from' : Int) + (data.length : Int) := by omega
          have en : n = N := by omega
          have hl0 : (resz st.now n).length = n := length_resz _ _
          obtain ⟨gn, c, sp, hvn, hcm, hcs, hgn⟩ := hV.hn.row (by simp only [length_resz]; omega)
          simp only [length_resz] at hvn hcs
          simp only [Value.slice.injEq] at hvn
          obtain ⟨rfl, -, rfl⟩ := hvn
          unfold maxLen at hcm
          have HCM : Hid (cn ≤ maxLen) := by show _ ≤ _; unfold maxLen; omega
          have HCS := hide hcs
          have HGN := hide hgn
          have HEN := hide en
          have hsbw : SB wr (.slice ad data.length cd) data := HSB.out.same fun q hq => HFR.out.block q (HDL.out q hq (by omega)) (.inl (HK0.out q hq))
          obtain ⟨bd, od, hab, hcell⟩ : ∃ bd od, ad = some ⟨bd, od, none⟩ ∧ ∀ j, j < data.length → wr.cell? ⟨bd, od + j, none⟩ = some (.int .u8 (data.getD j 0)) := by
            obtain ⟨ao, cap, e1, h1, h2, h3, h4⟩ := hsbw
            simp only [Value.slice.injEq] at e1
            obtain ⟨rfl, -, rfl⟩ := e1
            cases ad with
            | none => have := h3 rfl; omega
            | some x =>
              obtain ⟨b, o, rfl⟩ := addr_lit (h4 x rfl 0 hpos)
              exact ⟨b, o, rfl, fun j hj => by have := h4 _ rfl j hj; rwa [Addr.add_lit] at this⟩
          subst hab
          have HCELL := hide hcell
          obtain ⟨xs, hxs⟩ : ∃ xs, xs = data.map (Value.int .u8) := ⟨_, rfl⟩
          have HXS := hide hxs
          have C1 : Hid (xs.length = Nat.min data.length (n - from')) := by show _ = _; rw [hxs, List.length_map]; exact (Nat.min_eq_left (by omega)).symm
          have C2 : Hid (0 < xs.length → (some (⟨gn, from', none⟩ : Addr)) = some ⟨gn, from', none⟩ ∧ ∃ x, (some (⟨bd, od, none⟩ : Addr)) = some x ∧ ∀ j v, xs[j]? = some v → wr.cell? (x.add j) = some v) := by
            intro _
            refine ⟨rfl, _, rfl, fun j u hj => ?_⟩
            rw [HXS.out] at hj
            obtain ⟨hjl, rfl⟩ := List.getElem?_eq_some_iff.1 hj
            have hjl' : j < data.length := by simpa using hjl
            rw [Addr.add_lit, HCELL.out j hjl']
            simp [hjl']
          have C3 : Hid (from' + xs.length ≤ ((resz st.now n).map (Value.int .u8) ++ sp).length) := by show _ ≤ _; rw [hxs]; simp [length_resz]; omega
          have C4 : Hid (∀ v ∈ xs, v.oneCell' = true) := by rw [hxs]; intro u hu; obtain ⟨n, _, rfl⟩ := List.mem_map.1 hu; rfl
          have hfn : (from' : Int) ≤ (n : Int) := by omega
          have hnc : (n : Int) ≤ (cn : Int) := by omega
          have hfc : ¬ cn = from' := by omega
          clear hV hcs hgn en hsbw hcell hxs hl0 hcm
          go_wp2_with (refine wpList_copy_gr rfl _ _ 22 22 rfl 5 Try.underlying22 sizeByte _ _ _ _ _ _ rfl rfl gn from' ((resz st.now n).map (Value.int .u8) ++ sp) 5 HGN.out xs C1.out C2.out C3.out C4.out ?_)
          intro w2 HW2 hgr2
          have hfin : splice ((resz st.now n).map (Value.int .u8) ++ sp) from' xs = (splice (resz st.now n) from' data).map (Value.int .u8) ++ sp := by
            rw [HXS.out, map_splice, splice_append _ _ _ _ (by simp [length_resz]; omega)]
          have hspl : (splice (resz st.now n) from' data).length = n := by rw [length_splice _ _ _ (by rw [length_resz]; omega), length_resz]
          have hob : OB w2 0 (.slice (some ⟨gn, 0, none⟩) n cn) (splice (resz st.now n) from' data) := by
            have := OB.of_row (w := w2) (l := splice (resz st.now n) from' data) (g := gn) (c := cn) (sp := sp) HCM.out (by rw [hspl]; exact HCS.out) (by rw [HW2.out, hfin])
            rw [hspl] at this
            exact this
          obtain ⟨hr2, hf2⟩ := HV.out.paintNow hob hgr2
          have HR2 := hide hr2
          have HF2 := hide hf2
          clear hfin hspl hob hr2 hf2 hgr2 HW2 c1 hfz
          go_wp2
          go_end0
          rw [← hN, ← HEN.out]
          exact ⟨rfl, K2, qs, HRP.out, HQS.out, ⟨_, _, _, _, HR2.out⟩, HFR.out.trans HF2.out⟩
end Go.Proofs.Yteiajeeincapoac
