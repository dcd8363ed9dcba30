import Derived.Test.YtklffkbcigehfabWrs3
import Derived.Deep.RegionHeld3
namespace Go.Proofs.Ytklffkbcigehfab
open Go.RowKit Go.Maps
set_option maxRecDepth 20000

/-- The script of writers. -/
def WSc (w : World) (v : Value) (ops : List WOp) : Prop :=
  ∃ ao cap, v = .slice ao ops.length cap ∧ ops.length ≤ cap ∧ cap ≤ maxLen ∧ ∀ (i : Nat) (o : WOp), ops[i]? = some o → ∃ b of, ao = some ⟨b, of, none⟩ ∧ w.cell? ⟨b, of + i * 6, none⟩ = some (.int .i64 o.kind) ∧ w.cell? ⟨b, of + i * 6 + 1, none⟩ = some (.int .i64 o.on) ∧ w.cell? ⟨b, of + i * 6 + 2, none⟩ = some (.int .i64 o.other) ∧ w.cell? ⟨b, of + i * 6 + 3, none⟩ = some (.int .u32 o.v) ∧ w.cell? ⟨b, of + i * 6 + 4, none⟩ = some (.int .i64 o.n) ∧ w.cell? ⟨b, of + i * 6 + 5, none⟩ = some o.d

def WOk (w : World) (ops : List WOp) : Prop := ∀ o ∈ ops, (0 ≤ o.v ∧ o.v < 4294967296) ∧ SB w o.d o.l ∧ Byt o.l ∧ o.l.length ≤ 140737488351232

theorem WSc.len {w : World} {v : Value} {ops : List WOp} (h : WSc w v ops) : ∃ a c, v = .slice a ops.length c ∧ ops.length ≤ c ∧ c ≤ 9223372036854775807 := by
  obtain ⟨a, c, h, h1, h2, _⟩ := h
  unfold maxLen at h2
  exact ⟨a, c, h, h1, h2⟩

theorem WSc.item {W w : World} {ao : Option Addr} {cap : Nat} {ops : List WOp} (h : WSc W (.slice ao ops.length cap) ops) (hb : Below W.heap.size W w) {k : Nat} {o : WOp} (ho : ops[k]? = some o) :
    ∃ b of, ao = some ⟨b, of, none⟩ ∧ w.cell? ⟨b, of + k * 6, none⟩ = some (.int .i64 o.kind) ∧ w.cell? ⟨b, of + k * 6 + 1, none⟩ = some (.int .i64 o.on) ∧ w.cell? ⟨b, of + k * 6 + 2, none⟩ = some (.int .i64 o.other) ∧ w.cell? ⟨b, of + k * 6 + 3, none⟩ = some (.int .u32 o.v) ∧ w.cell? ⟨b, of + k * 6 + 4, none⟩ = some (.int .i64 o.n) ∧ w.cell? ⟨b, of + k * 6 + 5, none⟩ = some o.d := by
  obtain ⟨ao', cap', hue, hc1, hc2, hc3⟩ := h
  simp only [Value.slice.injEq] at hue
  obtain ⟨rfl, -, rfl⟩ := hue
  obtain ⟨b, of, rfl, h0, h1, h2, h3, h4, h5⟩ := hc3 k o ho
  have hk : ∀ {i : Nat} {u : Value}, W.cell? ⟨b, i, none⟩ = some u → w.cell? ⟨b, i, none⟩ = some u := fun hc => (hb.cell (World.block_lt_of_cell? _ _ hc)).trans hc
  exact ⟨b, of, rfl, hk h0, hk h1, hk h2, hk h3, hk h4, hk h5⟩

theorem W3.bel {W w : World} {Bw : Nat} (h : W3 W w Bw) : Below W.heap.size W w := by
  obtain ⟨_, _, _, _, _, _, h⟩ := h
  exact h.bel

theorem step3_any {W w : World} {Bw : Nat} (h : W3 W w Bw) (o : WOp) (da : Option Addr) (dc : Nat) (hd : o.d = .slice da o.l.length dc) (hv : 0 ≤ o.v) (hv1 : o.v < 4294967296) (hS0 : SB W o.d o.l) (hB : Byt o.l) (hl : o.l.length ≤ 140737488351232) :
    Calls Try.prog 41 #[.pointer (some ⟨Bw, 0, none⟩), .agg #[.int .i64 o.kind, .int .i64 o.on, .int .i64 o.other, .int .u32 o.v, .int .i64 o.n, .slice da o.l.length dc]] w fun e w' => e = .returned (.bool true) ∧ W3 W w' Bw := by
  obtain ⟨Kw, K, L, g, x, row, H⟩ := h
  exact step_any H o da dc hd hv hv1 hS0 hB hl

theorem step_call1g {P : Program} {ops : Array Oper} {o : Oper} {a : Act} {w : World} {K : Act → World → Prop} {Q : Exit → Act → World → Prop} {E : Prop} (hw : Region.wanted o (yielded ops a.tmps) = true) (x0 : Operand) (t0 : TypeId) (f : FuncId)
    (ho : o.op = .call { callee := .value (.func f), args := #[x0], argTypes := #[t0] }) (hcall : ∀ args w, (callFunc f args).run P w = .ok (.enter f args) w) (v0 : Value) (h0 : a.eval x0 = v0) {R : Value → World → Prop}
    (hc : Calls P f #[v0] w fun e w' => ∃ u, e = .returned u ∧ R u w') (h : ∀ v w', R v w' → K (a.put o.dst v) w') :
    if Region.wanted o (yielded ops a.tmps) = true then Oper.wp P o a w K Q else E := by
  rw [if_pos hw]
  have hrun : (execOp a.eval o).run P w = .ok (.enter f #[v0]) w := by
    obtain ⟨dst, op, type, pos, after, guard⟩ := o
    simp only [] at ho
    subst ho
    rw [execOp_call_go, hcall]
    simp [h0]
  unfold Oper.wp
  rw [hrun, Oper.upon_enter]
  refine hc.mono fun e w'' hh => ?_
  obtain ⟨v, rfl, hr⟩ := hh
  exact h _ _ hr

theorem step_call2g {P : Program} {ops : Array Oper} {o : Oper} {a : Act} {w : World} {K : Act → World → Prop} {Q : Exit → Act → World → Prop} {E : Prop} (hw : Region.wanted o (yielded ops a.tmps) = true) (x0 x1 : Operand) (t0 t1 : TypeId) (f : FuncId)
    (ho : o.op = .call { callee := .value (.func f), args := #[x0, x1], argTypes := #[t0, t1] }) (hcall : ∀ args w, (callFunc f args).run P w = .ok (.enter f args) w) (v0 v1 : Value) (h0 : a.eval x0 = v0) (h1 : a.eval x1 = v1) {R : Value → World → Prop}
    (hc : Calls P f #[v0, v1] w fun e w' => ∃ u, e = .returned u ∧ R u w') (h : ∀ v w', R v w' → K (a.put o.dst v) w') :
    if Region.wanted o (yielded ops a.tmps) = true then Oper.wp P o a w K Q else E := by
  rw [if_pos hw]
  have hrun : (execOp a.eval o).run P w = .ok (.enter f #[v0, v1]) w := by
    obtain ⟨dst, op, type, pos, after, guard⟩ := o
    simp only [] at ho
    subst ho
    rw [execOp_call_go, hcall]
    simp [h0, h1]
  unfold Oper.wp
  rw [hrun, Oper.upon_enter]
  refine hc.mono fun e w'' hh => ?_
  obtain ⟨v, rfl, hr⟩ := hh
  exact h _ _ hr

set_option linter.unusedSimpArgs false in
set_option maxHeartbeats 8000000 in
theorem writes_walk (vo : Value) (ops : List WOp) (w : World) (hI : WSc w vo ops) (hO : WOk w ops) :
    Calls Try.prog 8 #[vo] w fun e w' => e = .returned (.bool true) ∧ Below w.heap.size w w' := by
  obtain ⟨ao, cap, hvo, hcap1, hcap2⟩ := hI.len
  subst hvo
  have HI := hide hI
  have HO := hide hO
  clear hI hO
  go_enter Try.func8, Try.ntmps8
  go_wp2_with fail
  refine (begin_any w).mono ?_
  rintro e w1 ⟨Bw, rfl, hW⟩
  have H1 := hide hW
  clear hW
  go_wp2
  go_loopw [5] (fun i wr => ∃ k : Nat, k ≤ ops.length ∧ i = .int .i64 k ∧ Hid (W3 w wr Bw)) (fun i _ => ops.length - (intOf i).toNat)
  case atStart => exact ⟨0, Nat.zero_le _, rfl, H1.out⟩
  case round =>
    clear H1
    obtain ⟨k, hk, rfl, HQ⟩ := hrel
    by_cases hlt : k < ops.length
    · have hlt' : (k : Int) < (ops.length : Int) := by omega
      obtain ⟨o, ho⟩ : ∃ o, ops[k]? = some o := ⟨ops[k], by simp [hlt]⟩
      obtain ⟨b, of, hab, q0, q1, q2, q3, q4, q5⟩ := HI.out.item HQ.out.bel ho
      subst hab
      obtain ⟨⟨hv0, hv1⟩, hos, hoB, hol⟩ := HO.out o (List.mem_of_getElem? ho)
      obtain ⟨da, dc, hd⟩ := hos.len
      have HD := hide hd
      have HOS := hide hos
      have HOB := hide hoB
      rw [hd] at q5
      clear ho hd hos hoB
      go_wp2_with fail
      refine (step3_any HQ.out o da dc HD.out hv0 hv1 HOS.out HOB.out hol).mono ?_
      rintro e w2 ⟨rfl, hW⟩
      have HN := hide hW
      clear hW
      go_wp2
      go_roundw
      case rel => exact ⟨k + 1, by omega, by go_num, HN.out⟩
      case measure => simp [intOf]; omega
    · have hlt' : ¬ (k : Int) < (ops.length : Int) := by omega
      obtain ⟨Kw, K, L, g, x, row, hH⟩ := HQ.out
      have H2 := hide hH
      have HE : Hid (∀ (wq : World) (zs : List ((Nat → Nat) × Thing)), Herd w wq (L7 Kw K L Bw g x row row ++ zs) → ∀ i, i < 3 → wq.cell? ⟨Bw, i, none⟩ = some (.pointer (some ⟨g i, 0, none⟩)) ∧ wq.cell? ⟨Bw, 3 + i, none⟩ = some (.pointer (some ⟨x i, 0, none⟩))) := fun wq zs h i hi => ⟨cell_p h hi, cell_d h hi⟩
      clear hH HQ
      go_wp2
      go_loopw [6] (fun n wr => ∃ i : Nat, i ≤ 3 ∧ n = .int .i64 i ∧ Hid (Herd w wr (L7 Kw K L Bw g x row row))) (fun n _ => 3 - (intOf n).toNat)
      case atStart => exact ⟨0, by omega, rfl, H2.out⟩
      case round =>
        clear H2
        obtain ⟨i, hi, rfl, H2⟩ := hrel
        by_cases hi3 : i < 3
        · have hi3' : (i : Int) < 3 := by omega
          have H2z : Hid (Herd w wr (L7 Kw K L Bw g x row row ++ [])) := by rw [List.append_nil]; exact H2.out
          obtain ⟨y1, y2⟩ := HE.out wr [] H2z.out i hi3
          obtain ⟨T, HT⟩ : ∃ T, Hid (T = pack (row i)) := ⟨_, rfl⟩
          obtain ⟨N, HNn⟩ : ∃ N : Nat, Hid (N = (row i).length) := ⟨_, rfl⟩
          have HL1 : Hid (∀ n, Calls Try.prog 24 #[.pointer (some ⟨g i, 0, none⟩)] (wr.drewN n) fun e w' => ∃ u, e = .returned u ∧ (u = .int .i64 N ∧ Herd w w' (L7 Kw K L Bw g x row row ++ []))) := fun n => by
            refine (hlen (H2z.out.drewN n) (1 + i) (get_p hi3)).mono ?_
            rintro e w2 ⟨rfl, hH⟩
            exact ⟨_, rfl, by rw [HNn.out], hH⟩
          have HL2 : Hid (∀ wq, Herd w wq (L7 Kw K L Bw g x row row ++ []) → Calls Try.prog 42 #[.pointer (some ⟨x i, 0, none⟩)] wq fun e w' => ∃ u, e = .returned u ∧ (u = .int .i64 N ∧ Herd w w' (L7 Kw K L Bw g x row row ++ []))) := fun wq h => by
            refine (hxlen h (4 + i) (get_d hi3)).mono ?_
            rintro e w2 ⟨rfl, hH⟩
            exact ⟨_, rfl, by rw [HNn.out], hH⟩
          have HL3 : Hid (∀ wq, Herd w wq (L7 Kw K L Bw g x row row ++ []) → Calls Try.prog 14 #[.pointer (some ⟨g i, 0, none⟩)] wq fun e w' => ∃ u, e = .returned u ∧ (∃ a5 c5 K5, u = .slice a5 T.length c5 ∧ Herd w w' (L7 Kw K L Bw g x row row ++ [(K5, tl (.slice a5 T.length c5) T)]))) := fun wq h => by
            refine (hbytes h (1 + i) (get_p hi3)).mono ?_
            rintro e w2 ⟨a5, c5, K5, rfl, hH⟩
            rw [← HT.out, List.append_nil] at hH
            exact ⟨_, rfl, a5, c5, K5, by rw [HT.out], hH⟩
          have HL4 : Hid (∀ wq zs, Herd w wq (L7 Kw K L Bw g x row row ++ zs) → Calls Try.prog 43 #[.pointer (some ⟨x i, 0, none⟩)] wq fun e w' => ∃ u, e = .returned u ∧ (∃ a6 c6 K6, u = .slice a6 T.length c6 ∧ Herd w w' (L7 Kw K L Bw g x row row ++ zs ++ [(K6, tl (.slice a6 T.length c6) T)]))) := fun wq zs h => by
            refine (hxbytes h (4 + i) (get_d hi3)).mono ?_
            rintro e w2 ⟨a6, c6, K6, rfl, hH⟩
            rw [← HT.out] at hH
            exact ⟨_, rfl, a6, c6, K6, by rw [HT.out], hH⟩
          have HL5 : Hid (∀ wq a5 c5 K5 a6 c6 K6, Herd w wq (L7 Kw K L Bw g x row row ++ [(K5, tl (.slice a5 T.length c5) T)] ++ [(K6, tl (.slice a6 T.length c6) T)]) → Calls Try.prog 12 #[.slice a5 T.length c5, .slice a6 T.length c6] wq fun e w' => ∃ u, e = .returned u ∧ (u = .bool true ∧ Herd w w' (L7 Kw K L Bw g x row row))) := fun wq a5 c5 K5 a6 c6 K6 h => by
            refine (same_any _ _ T T _ (h.sb 7 rfl) (h.sb 8 rfl)).mono ?_
            rintro e w2 ⟨rfl, n2, rfl⟩
            exact ⟨_, rfl, by simp [eqB], Herd.popn (Herd.popn (h.drewN n2))⟩
          clear H2 H2z
          go_wp2
          go_region_held3 (fun w' => w'.cell? ⟨Bw, i, none⟩ = some (.pointer (some ⟨g i, 0, none⟩)) ∧ w'.cell? ⟨Bw, 3 + i, none⟩ = some (.pointer (some ⟨x i, 0, none⟩))) (go_keep)
            (first
              | (go_at_call 24; refine (HL1.out 1).mono ?_; rintro e w3 ⟨u, rfl, rfl, hH⟩; have HA3 := hide hH; clear hH; obtain ⟨y31, y32⟩ := HE.out w3 [] HA3.out i hi3)
              | (go_at_call 42; refine (HL2.out w3 HA3.out).mono ?_; rintro e w4 ⟨u, rfl, rfl, hH⟩; have HA4 := hide hH; clear hH; obtain ⟨y41, y42⟩ := HE.out w4 [] HA4.out i hi3)
              | (go_at_call 14; refine (HL3.out w4 HA4.out).mono ?_; rintro e w5 ⟨u, rfl, a5, c5, K5, rfl, hH⟩; have HA5 := hide hH; clear hH; obtain ⟨y51, y52⟩ := HE.out w5 _ HA5.out i hi3)
              | (go_at_call 43; refine (HL4.out w5 _ HA5.out).mono ?_; rintro e w6 ⟨u, rfl, a6, c6, K6, rfl, hH⟩; have HA6 := hide hH; clear hH; obtain ⟨y61, y62⟩ := HE.out w6 _ (by have := HA6.out; rwa [List.append_assoc] at this) i hi3)
              | (go_at_call 12; refine (HL5.out w6 a5 c5 K5 a6 c6 K6 HA6.out).mono ?_; rintro e w7 ⟨u, rfl, rfl, hH⟩; have HA7 := hide hH; clear hH; obtain ⟨y71, y72⟩ := HE.out w7 [] (by rw [List.append_nil]; exact HA7.out) i hi3))
          all_goals
            clear HL1 HL2 HL3 HL4 HL5
            go_wp2
            go_roundw
            case rel => exact ⟨i + 1, by omega, by go_num, HA7.out⟩
            case measure => simp [intOf]; omega
        · have hi3' : ¬ (i : Int) < 3 := by omega
          have HB := hide H2.out.bel
          go_wp2
          go_ret
          exact ⟨rfl, HB.out⟩
end Go.Proofs.Ytklffkbcigehfab
