import Derived.Test.YtklffkbcigehfabRds
namespace Go.Proofs.Ytklffkbcigehfab
open Go.RowKit Go.Maps
set_option maxRecDepth 20000

/-- The script of readers. -/
def RSc (w : World) (v : Value) (ops : List (Int × Int × Int)) : Prop :=
  ∃ ao cap, v = .slice ao ops.length cap ∧ ops.length ≤ cap ∧ cap ≤ maxLen ∧ ∀ (i : Nat) (o : Int × Int × Int), ops[i]? = some o → ∃ b of, ao = some ⟨b, of, none⟩ ∧ w.cell? ⟨b, of + i * 3, none⟩ = some (.int .i64 o.1) ∧ w.cell? ⟨b, of + i * 3 + 1, none⟩ = some (.int .i64 o.2.1) ∧ w.cell? ⟨b, of + i * 3 + 2, none⟩ = some (.int .i64 o.2.2)

theorem RSc.item {W w : World} {ao : Option Addr} {cap : Nat} {ops : List (Int × Int × Int)} (h : RSc W (.slice ao ops.length cap) ops) (hb : Below W.heap.size W w) {k : Nat} {o : Int × Int × Int} (ho : ops[k]? = some o) :
    ∃ b of, ao = some ⟨b, of, none⟩ ∧ w.cell? ⟨b, of + k * 3, none⟩ = some (.int .i64 o.1) ∧ w.cell? ⟨b, of + k * 3 + 1, none⟩ = some (.int .i64 o.2.1) ∧ w.cell? ⟨b, of + k * 3 + 2, none⟩ = some (.int .i64 o.2.2) := by
  obtain ⟨ao', cap', hue, hc1, hc2, hc3⟩ := h
  simp only [Value.slice.injEq] at hue
  obtain ⟨rfl, -, rfl⟩ := hue
  obtain ⟨b, of, rfl, h0, h1, h2⟩ := hc3 k o ho
  have hk : ∀ {i : Nat} {u : Value}, W.cell? ⟨b, i, none⟩ = some u → w.cell? ⟨b, i, none⟩ = some u := fun hc => (hb.cell (World.block_lt_of_cell? _ _ hc)).trans hc
  exact ⟨b, of, rfl, hk h0, hk h1, hk h2⟩

theorem RSc.len {w : World} {v : Value} {ops : List (Int × Int × Int)} (h : RSc w v ops) : ∃ a c, v = .slice a ops.length c ∧ ops.length ≤ c ∧ c ≤ 9223372036854775807 := by
  obtain ⟨a, c, h, h1, h2, _⟩ := h
  unfold maxLen at h2
  exact ⟨a, c, h, h1, h2⟩

/-- Some of the herd, in any order. -/
theorem Herd.sub {W w : World} {xs ys : List ((Nat → Nat) × Thing)} (h : Herd W w xs) (f : Nat → Nat) (hf : ∀ i d, ys[i]? = some d → xs[f i]? = some d) (hi : ∀ i j, i < ys.length → j < ys.length → f i = f j → i = j) : Herd W w ys :=
  ⟨h.bel, fun i d hd => h.rep (f i) d (hf i d hd), fun i d hd => h.up (f i) d (hf i d hd), fun i j d e hd he hne => h.sep (f i) (f j) d e (hf i d hd) (hf j e he) fun e2 => hne (hi i j (List.getElem?_eq_some_iff.1 hd).1 (List.getElem?_eq_some_iff.1 he).1 e2)⟩

def swp (i : Nat) : Nat := if i = 3 then 5 else if i = 4 then 6 else if i = 5 then 3 else if i = 6 then 4 else i

theorem swp_inj (i j : Nat) (h : swp i = swp j) : i = j := by
  unfold swp at h
  split at h <;> split at h <;> (try omega) <;> (repeat' split at h) <;> omega

theorem Herd.swap7 {W w : World} {A B C D E F G : (Nat → Nat) × Thing} (h : Herd W w [A, B, C, D, E, F, G]) : Herd W w [A, B, C, F, G, D, E] := by
  refine h.sub swp (fun i d hd => ?_) (fun i j _ _ => swp_inj i j)
  match i, hd with
  | 0, hd => exact hd
  | 1, hd => exact hd
  | 2, hd => exact hd
  | 3, hd => exact hd
  | 4, hd => exact hd
  | 5, hd => exact hd
  | 6, hd => exact hd
  | n + 7, hd => simp at hd

/-- A cell of a block is written. -/
theorem Herd.setb {W w : World} {xs : List ((Nat → Nat) × Thing)} (h : Herd W w xs) (n : Nat) {K : Nat → Nat} {B T : Nat} {cs : Array Value} (hn : xs[n]? = some (K, tb B (.cells cs T (0, 0)))) (j : Nat) (u : Value) : Herd W (w.setCell ⟨B, j, none⟩ u) (xs.set n (K, tb B (.cells (cs.setIfInBounds j u) T (0, 0)))) := by
  have hp : (tb B (.cells cs T (0, 0))).P w K := h.rep n _ hn
  have hp1 : w.heap[B]? = some (.cells cs T (0, 0)) := hp.1
  refine h.op n hn (x' := tb B (.cells (cs.setIfInBounds j u) T (0, 0))) ⟨heap_setCell_at u hp1, hp.2.1, fun k hk => by rw [size_setCell]; exact hp.2.2 k hk⟩ ⟨rfl, rfl, rfl, by rw [size_setCell]; exact Nat.le_refl _, fun k _ h0 => setCell_others w B j u k fun e => hp.2.1 (by rw [← e]; exact h0), fun _ _ => rfl⟩

theorem Herd.frozen {W w : World} {xs : List ((Nat → Nat) × Thing)} (h : Herd W w xs) (n : Nat) {K : Nat → Nat} {B T : Nat} {cs : Array Value} (hn : xs[n]? = some (K, tb B (.cells cs T (0, 0)))) (j : Nat) : w.frozen? ⟨B, j, none⟩ = false := by
  have hp : (tb B (.cells cs T (0, 0))).P w K := h.rep n _ hn
  have hp1 : w.heap[B]? = some (.cells cs T (0, 0)) := hp.1
  simp [World.frozen?, hp1]

theorem step_call3 {P : Program} {ops : Array Oper} {o : Oper} {a : Act} {w : World} {K : Act → World → Prop} {Q : Exit → Act → World → Prop} {E : Prop} (hgd : o.guard = none) (x y z : Operand) (t u s : TypeId) (f : FuncId)
    (ho : o.op = .call { callee := .value (.func f), args := #[x, y, z], argTypes := #[t, u, s] }) (hcall : ∀ args w, (callFunc f args).run P w = .ok (.enter f args) w) (v1 v2 v3 : Value) (hx : a.eval x = v1) (hy : a.eval y = v2) (hz : a.eval z = v3) {R : Value → World → Prop}
    (hc : Calls P f #[v1, v2, v3] w fun e w' => ∃ u, e = .returned u ∧ R u w') (h : ∀ v w', R v w' → K (a.put o.dst v) w') :
    if Region.wanted o (yielded ops a.tmps) = true then Oper.wp P o a w K Q else E := by
  have hw : Region.wanted o (yielded ops a.tmps) = true := by simp [Region.wanted, hgd]
  rw [if_pos hw]
  have hrun : (execOp a.eval o).run P w = .ok (.enter f #[v1, v2, v3]) w := by
    obtain ⟨dst, op, type, pos, after, guard⟩ := o
    simp only [] at ho
    subst ho
    rw [execOp_call_go, hcall]
    simp [hx, hy, hz]
  unfold Oper.wp
  rw [hrun, Oper.upon_enter]
  refine hc.mono fun e w'' hh => ?_
  obtain ⟨v, rfl, hr⟩ := hh
  exact h _ _ hr

def sel1 (i : Nat) : Nat := if i < 3 then i else i + 1
def sel2 (i : Nat) : Nat := if i < 5 then i else i + 1

theorem Herd.drop3 {W w : World} {A B C D E F : (Nat → Nat) × Thing} (h : Herd W w [A, B, C, D, E, F]) : Herd W w [A, B, C, E, F] := by
  refine h.sub sel1 (fun i d hd => ?_) (fun i j _ _ e => by unfold sel1 at e; split at e <;> split at e <;> omega)
  match i, hd with
  | 0, hd => exact hd
  | 1, hd => exact hd
  | 2, hd => exact hd
  | 3, hd => exact hd
  | 4, hd => exact hd
  | n + 5, hd => simp at hd

theorem Herd.drop5 {W w : World} {A B C D E F G H : (Nat → Nat) × Thing} (h : Herd W w [A, B, C, D, E, F, G, H]) : Herd W w [A, B, C, D, E, G, H] := by
  refine h.sub sel2 (fun i d hd => ?_) (fun i j _ _ e => by unfold sel2 at e; split at e <;> split at e <;> omega)
  match i, hd with
  | 0, hd => exact hd
  | 1, hd => exact hd
  | 2, hd => exact hd
  | 3, hd => exact hd
  | 4, hd => exact hd
  | 5, hd => exact hd
  | 6, hd => exact hd
  | n + 7, hd => simp at hd

def selA (i : Nat) : Nat := if i = 3 then 8 else if i = 4 then 9 else i
def selB (i : Nat) : Nat := if i = 5 then 8 else if i = 6 then 9 else i

theorem Herd.pickA {W w : World} {A B C D E F G X Y Z : (Nat → Nat) × Thing} (h : Herd W w [A, B, C, D, E, F, G, X, Y, Z]) : Herd W w [A, B, C, Y, Z, F, G] := by
  refine h.sub selA (fun i d hd => ?_) (fun i j hi hj e => by simp only [List.length_cons, List.length_nil] at hi hj; unfold selA at e; split at e <;> split at e <;> (try omega) <;> (repeat' split at e) <;> omega)
  match i, hd with
  | 0, hd => exact hd
  | 1, hd => exact hd
  | 2, hd => exact hd
  | 3, hd => exact hd
  | 4, hd => exact hd
  | 5, hd => exact hd
  | 6, hd => exact hd
  | n + 7, hd => simp at hd

theorem Herd.pickB {W w : World} {A B C D E F G X Y Z : (Nat → Nat) × Thing} (h : Herd W w [A, B, C, D, E, F, G, X, Y, Z]) : Herd W w [A, B, C, D, E, Y, Z] := by
  refine h.sub selB (fun i d hd => ?_) (fun i j hi hj e => by simp only [List.length_cons, List.length_nil] at hi hj; unfold selB at e; split at e <;> split at e <;> (try omega) <;> (repeat' split at e) <;> omega)
  match i, hd with
  | 0, hd => exact hd
  | 1, hd => exact hd
  | 2, hd => exact hd
  | 3, hd => exact hd
  | 4, hd => exact hd
  | 5, hd => exact hd
  | 6, hd => exact hd
  | n + 7, hd => simp at hd

/-- The two readers of either kind, and the arrays that hold them. -/
def RSt (w wr : World) (B0 B1 B2 : Nat) (dobj : Obj) (U1 U2 : List Int) : Prop := ∃ Ka Kb Kc K1 L1 K2 L2 g1 r1 g2 r2 p1 p2,
  Herd w wr [(Ka, tb B0 dobj), (Kb, tb B1 (.cells #[.pointer (some ⟨g1, 0, none⟩), .pointer (some ⟨g2, 0, none⟩)] 66 (0, 0))), (Kc, tb B2 (.cells #[.pointer (some ⟨r1, 0, none⟩), .pointer (some ⟨r2, 0, none⟩)] 68 (0, 0))), (K1, tr g1 U1 p1), (L1, tq r1 U1 p1), (K2, tr g2 U2 p2), (L2, tq r2 U2 p2)]

set_option linter.unusedSimpArgs false in
set_option maxHeartbeats 4000000 in
theorem readsW_walk (v1 v2 vo : Value) (l1 l2 : List Int) (ops : List (Int × Int × Int)) (w : World) (h1 : SB w v1 l1) (b1 : Byt l1) (h2 : SB w v2 l2) (b2 : Byt l2) (h3 : RSc w vo ops) :
    Calls Try.prog 7 #[v1, v2, vo] w fun e w' => e = .returned (.bool true) ∧ Below w.heap.size w w' := by
  obtain ⟨a1, c1, hv1⟩ := h1.len
  subst hv1
  obtain ⟨a2, c2, hv2⟩ := h2.len
  subst hv2
  obtain ⟨ao, co, hvo, hco1, hco2⟩ := h3.len
  subst hvo
  have HS1 := hide h1
  have HS2 := hide h2
  have HB1 := hide b1
  have HB2 := hide b2
  have HSC := hide h3
  have H0 := hide (Herd.nil w)
  clear h1 h2 b1 b2 h3
  by_cases hl1 : 33554432 < l1.length
  · have hl1' : (33554432 : Int) < l1.length := by omega
    go_enter Try.func7, Try.ntmps7
    go_wp2
    go_ret
    exact ⟨rfl, Below.refl _ _⟩
  by_cases hl2 : 33554432 < l2.length
  · have hl2' : (33554432 : Int) < l2.length := by omega
    have hl1' : (l1.length : Int) ≤ 33554432 := by omega
    go_enter Try.func7, Try.ntmps7
    go_wp2
    go_ret
    exact ⟨rfl, Below.refl _ _⟩
  have hl1' : (l1.length : Int) ≤ 33554432 := by omega
  have hl2' : (l2.length : Int) ≤ 33554432 := by omega
  have hl1n : l1.length ≤ 33554432 := by omega
  have hl2n : l2.length ≤ 33554432 := by omega
  clear hl1 hl2
  go_enter Try.func7, Try.ntmps7
  go_wp2
  obtain ⟨V, HV⟩ : ∃ V, Hid (V = (((w.alloc (.cells #[.slice a1 l1.length c1, .slice a2 l2.length c2] 65)).alloc (.cells #[.pointer none, .pointer none] 66)).alloc (.cells #[.pointer none, .pointer none] 68))) := ⟨_, rfl⟩
  obtain ⟨B2, HE2⟩ : ∃ B, Hid (B = w.heap.size + 1 + 1) := ⟨_, rfl⟩
  obtain ⟨B1, HE1⟩ : ∃ B, Hid (B = w.heap.size + 1) := ⟨_, rfl⟩
  obtain ⟨B0, HE0⟩ : ∃ B, Hid (B = w.heap.size) := ⟨_, rfl⟩
  have HVV : Hid (∃ Ka Kb Kc, Herd w V [(Ka, tb B0 (.cells #[.slice a1 l1.length c1, .slice a2 l2.length c2] 65 (0, 0))), (Kb, tb B1 (.cells #[.pointer none, .pointer none] 66 (0, 0))), (Kc, tb B2 (.cells #[.pointer none, .pointer none] 68 (0, 0)))]) := by
    obtain ⟨Ka, h1⟩ := H0.out.alloc (.cells #[.slice a1 l1.length c1, .slice a2 l2.length c2] 65)
    obtain ⟨Kb, h2⟩ := h1.alloc (.cells #[.pointer none, .pointer none] 66)
    obtain ⟨Kc, h3⟩ := h2.alloc (.cells #[.pointer none, .pointer none] 68)
    rw [← HV.out] at h3
    refine ⟨Ka, Kb, Kc, ?_⟩
    rw [HE2.out, HE1.out, HE0.out]
    simp only [size_alloc'] at h3
    exact h3
  rw [← HV.out, ← HE2.out, ← HE1.out]
  obtain ⟨Ka, Kb, Kc, hH⟩ := HVV.out
  have H1 := hide hH
  clear hH HVV
  obtain ⟨U1, HU1⟩ : ∃ U, Hid (U = unpack l1) := ⟨_, rfl⟩
  obtain ⟨U2, HU2⟩ : ∃ U, Hid (U = unpack l2) := ⟨_, rfl⟩
  (try rw [← HE0.out])
  refine wp_loop_rounds 3 ?_
  rw [rounds_succ]
  have y0 : V.cell? ⟨B0, 0, none⟩ = some (.slice a1 l1.length c1) := H1.out.box 0 rfl 0
  have HSa := hide (HS1.out.below H1.out.bel)
  go_wp2_with fail
  refine (copied_any _ l1 _ HSa.out (by omega)).mono ?_
  rintro e w2 ⟨a5, c5, rfl, ho5, hb5⟩
  obtain ⟨K5, hH⟩ := H1.out.list hb5 ho5
  have H2 := hide hH
  clear hH ho5 hb5
  go_wp2_with fail
  refine (hnewR H2.out _ l1 (H2.out.sb 3 rfl) HB1.out hl1n).mono ?_
  rintro e w3 ⟨g1, K6, rfl, hH⟩
  rw [← HU1.out] at hH
  have H3 := hide hH
  clear hH
  have z0 : w3.cell? ⟨B1, 0, none⟩ = some (.pointer none) := H3.out.box 1 rfl 0
  have zf : w3.frozen? ⟨B1, 0, none⟩ = false := H3.out.frozen 1 rfl 0
  have H4 := hide (H3.out.setb 1 rfl 0 (.pointer (some ⟨g1, 0, none⟩)))
  obtain ⟨V4, HV4⟩ : ∃ V4, Hid (V4 = w3.setCell ⟨B1, 0, none⟩ (.pointer (some ⟨g1, 0, none⟩))) := ⟨_, rfl⟩
  rw [← HV4.out] at H4
  have y4 : V4.cell? ⟨B0, 0, none⟩ = some (.slice a1 l1.length c1) := H4.out.box 0 rfl 0
  have HSb := hide (HS1.out.below H4.out.bel)
  have y4' := y4
  rw [HV4.out] at y4'
  go_wp2_with fail
  rw [← HV4.out]
  refine (hqnew H4.out _ l1 HSb.out HB1.out hl1n).mono ?_
  rintro e w5 ⟨r1, K7, rfl, hH⟩
  rw [← HU1.out] at hH
  have H5 := hide hH
  clear hH
  have z5 : w5.cell? ⟨B2, 0, none⟩ = some (.pointer none) := H5.out.box 2 rfl 0
  have zf5 : w5.frozen? ⟨B2, 0, none⟩ = false := H5.out.frozen 2 rfl 0
  have H6 := hide (H5.out.setb 2 rfl 0 (.pointer (some ⟨r1, 0, none⟩)))
  have y6 : (w5.setCell ⟨B2, 0, none⟩ (.pointer (some ⟨r1, 0, none⟩))).cell? ⟨B1, 0, none⟩ = some (.pointer (some ⟨g1, 0, none⟩)) := H6.out.box 1 rfl 0
  go_wp2
  obtain ⟨V6, HV6⟩ : ∃ V6, Hid (V6 = w5.setCell ⟨B2, 0, none⟩ (.pointer (some ⟨r1, 0, none⟩))) := ⟨_, rfl⟩
  rw [← HV6.out]
  rw [← HV6.out] at H6
  have H7 : Hid (Herd w V6 [(Ka, tb B0 (.cells #[.slice a1 l1.length c1, .slice a2 l2.length c2] 65 (0, 0))), (Kb, tb B1 (.cells #[.pointer (some ⟨g1, 0, none⟩), .pointer none] 66 (0, 0))), (Kc, tb B2 (.cells #[.pointer (some ⟨r1, 0, none⟩), .pointer none] 68 (0, 0))), (K6, tr g1 U1 0), (K7, tq r1 U1 0)]) := Herd.drop3 H6.out
  clear H1 H2 H3 H4 H5 H6 y6 y4 y4' y0 z0 zf z5 zf5
  rw [rounds_succ]
  have y0 : V6.cell? ⟨B0, 1, none⟩ = some (.slice a2 l2.length c2) := H7.out.box 0 rfl 1
  have HSc := hide (HS2.out.below H7.out.bel)
  go_wp2_with fail
  refine (copied_any _ l2 _ HSc.out (by omega)).mono ?_
  rintro e w8 ⟨a8, c8, rfl, ho8, hb8⟩
  obtain ⟨K8, hH⟩ := H7.out.list hb8 ho8
  have H8 := hide hH
  clear hH ho8 hb8
  go_wp2_with fail
  refine (hnewR H8.out _ l2 (H8.out.sb 5 rfl) HB2.out hl2n).mono ?_
  rintro e w9 ⟨g2, K9, rfl, hH⟩
  rw [← HU2.out] at hH
  have H9 := hide hH
  clear hH
  have z0 : w9.cell? ⟨B1, 1, none⟩ = some (.pointer none) := H9.out.box 1 rfl 1
  have zf : w9.frozen? ⟨B1, 1, none⟩ = false := H9.out.frozen 1 rfl 1
  have H10 := hide (H9.out.setb 1 rfl 1 (.pointer (some ⟨g2, 0, none⟩)))
  obtain ⟨V10, HV10⟩ : ∃ V10, Hid (V10 = w9.setCell ⟨B1, 1, none⟩ (.pointer (some ⟨g2, 0, none⟩))) := ⟨_, rfl⟩
  rw [← HV10.out] at H10
  have y10 : V10.cell? ⟨B0, 1, none⟩ = some (.slice a2 l2.length c2) := H10.out.box 0 rfl 1
  have HSd := hide (HS2.out.below H10.out.bel)
  have y10' := y10
  rw [HV10.out] at y10'
  go_wp2_with fail
  rw [← HV10.out]
  refine (hqnew H10.out _ l2 HSd.out HB2.out hl2n).mono ?_
  rintro e w11 ⟨r2, K11, rfl, hH⟩
  rw [← HU2.out] at hH
  have H11 := hide hH
  clear hH
  have z11 : w11.cell? ⟨B2, 1, none⟩ = some (.pointer none) := H11.out.box 2 rfl 1
  have zf11 : w11.frozen? ⟨B2, 1, none⟩ = false := H11.out.frozen 2 rfl 1
  have H12 := hide (H11.out.setb 2 rfl 1 (.pointer (some ⟨r2, 0, none⟩)))
  have y12 : (w11.setCell ⟨B2, 1, none⟩ (.pointer (some ⟨r2, 0, none⟩))).cell? ⟨B1, 1, none⟩ = some (.pointer (some ⟨g2, 0, none⟩)) := H12.out.box 1 rfl 1
  go_wp2
  obtain ⟨V12, HV12⟩ : ∃ V12, Hid (V12 = w11.setCell ⟨B2, 1, none⟩ (.pointer (some ⟨r2, 0, none⟩))) := ⟨_, rfl⟩
  rw [← HV12.out]
  rw [← HV12.out] at H12
  have H13 : Hid (RSt w V12 B0 B1 B2 (.cells #[.slice a1 l1.length c1, .slice a2 l2.length c2] 65 (0, 0)) U1 U2) := ⟨Ka, Kb, Kc, K6, K7, K9, K11, g1, r1, g2, r2, 0, 0, Herd.drop5 H12.out⟩
  clear H7 H8 H9 H10 H11 H12 y12 y10 y10' y0 z0 zf z11 zf11
  rw [rounds_succ]
  go_wp2
  go_loopw [11] (fun i wr => ∃ k : Nat, k ≤ ops.length ∧ i = .int .i64 k ∧ Hid (RSt w wr B0 B1 B2 (.cells #[.slice a1 l1.length c1, .slice a2 l2.length c2] 65 (0, 0)) U1 U2)) (fun i _ => ops.length - (intOf i).toNat)
  case atStart => exact ⟨0, Nat.zero_le _, rfl, H13.out⟩
  case round =>
    clear H13
    obtain ⟨k, hk, rfl, HQ⟩ := hrel
    obtain ⟨Ka, Kb, Kc, K1, L1, K2, L2, g1, r1, g2, r2, p1, p2, hH⟩ := HQ.out
    have H5 := hide hH
    clear hH HQ
    by_cases hlt : k < ops.length
    · have hlt' : (k : Int) < (ops.length : Int) := by omega
      obtain ⟨o, ho⟩ : ∃ o, ops[k]? = some o := ⟨ops[k], by simp [hlt]⟩
      obtain ⟨b, of, hab, q0, q1, q2⟩ := HSC.out.item H5.out.bel ho
      subst hab
      clear ho
      rcases (show o.2.1 % 2 = 0 ∨ o.2.1 % 2 = 1 by omega) with hon | hon
      · have HON := hide hon
        clear hon
        by_cases k8 : o.1 = 8
        · rw [k8] at q0
          clear k8
          have y0 : wr.cell? ⟨B0, 0, none⟩ = some (.slice a1 l1.length c1) := H5.out.box 0 rfl 0
          have HSc := hide (HS1.out.below H5.out.bel)
          go_wp2_with fail
          refine (which_any o.2.1 2 (by omega) (by omega) _).mono ?_
          rintro e wx ⟨rfl, hwx⟩
          subst hwx
          rw [HON.out]
          go_wp2_with fail
          refine (copied_any _ l1 _ HSc.out (by omega)).mono ?_
          rintro e w8 ⟨a8, c8, rfl, ho8, hb8⟩
          obtain ⟨K8, hH⟩ := H5.out.list hb8 ho8
          have H8 := hide hH
          clear hH ho8 hb8
          go_wp2_with fail
          refine (hnewR H8.out _ l1 (H8.out.sb 7 rfl) HB1.out hl1n).mono ?_
          rintro e w9 ⟨gn, K9, rfl, hH⟩
          rw [← HU1.out] at hH
          have H9 := hide hH
          clear hH
          have z0 : w9.cell? ⟨B1, 0, none⟩ = some (.pointer (some ⟨g1, 0, none⟩)) := H9.out.box 1 rfl 0
          have zf : w9.frozen? ⟨B1, 0, none⟩ = false := H9.out.frozen 1 rfl 0
          have H10 := hide (H9.out.setb 1 rfl 0 (.pointer (some ⟨gn, 0, none⟩)))
          obtain ⟨V10, HV10⟩ : ∃ V10, Hid (V10 = w9.setCell ⟨B1, 0, none⟩ (.pointer (some ⟨gn, 0, none⟩))) := ⟨_, rfl⟩
          rw [← HV10.out] at H10
          have y10 : V10.cell? ⟨B0, 0, none⟩ = some (.slice a1 l1.length c1) := H10.out.box 0 rfl 0
          have HSd := hide (HS1.out.below H10.out.bel)
          rw [HV10.out] at y10
          go_wp2_with fail
          rw [← HV10.out]
          refine (hqnew H10.out _ l1 HSd.out HB1.out hl1n).mono ?_
          rintro e w11 ⟨rn, K11, rfl, hH⟩
          rw [← HU1.out] at hH
          have H11 := hide hH
          clear hH
          have z11 : w11.cell? ⟨B2, 0, none⟩ = some (.pointer (some ⟨r1, 0, none⟩)) := H11.out.box 2 rfl 0
          have zf11 : w11.frozen? ⟨B2, 0, none⟩ = false := H11.out.frozen 2 rfl 0
          have H12 := hide (H11.out.setb 2 rfl 0 (.pointer (some ⟨rn, 0, none⟩)))
          have y12 : (w11.setCell ⟨B2, 0, none⟩ (.pointer (some ⟨rn, 0, none⟩))).cell? ⟨B1, 0, none⟩ = some (.pointer (some ⟨gn, 0, none⟩)) := H12.out.box 1 rfl 0
          have HN : Hid (RSt w (w11.setCell ⟨B2, 0, none⟩ (.pointer (some ⟨rn, 0, none⟩))) B0 B1 B2 (.cells #[.slice a1 l1.length c1, .slice a2 l2.length c2] 65 (0, 0)) U1 U2) := ⟨Ka, Kb, Kc, K9, K11, K2, L2, gn, rn, g2, r2, 0, p2, Herd.pickA H12.out⟩
          clear H5 H8 H9 H10 H11 H12
          go_wp2
          go_roundw
          case rel => exact ⟨k + 1, by omega, by go_num, HN.out⟩
          case measure => simp [intOf]; omega
        · have k8' : (o.1 == 8) = false := by simpa using k8
          have H6 := hide (H5.out.swap7)
          have y1 : wr.cell? ⟨B1, 0, none⟩ = some (.pointer (some ⟨g1, 0, none⟩)) := H5.out.box 1 rfl 0
          have y2 : wr.cell? ⟨B2, 0, none⟩ = some (.pointer (some ⟨r1, 0, none⟩)) := H5.out.box 2 rfl 0
          go_wp2_with fail
          refine (which_any o.2.1 2 (by omega) (by omega) _).mono ?_
          rintro e wx ⟨rfl, hwx⟩
          subst hwx
          rw [HON.out]
          have HCL : Hid (∀ n, Calls Try.prog 37 #[.pointer (some ⟨g1, 0, none⟩), .pointer (some ⟨r1, 0, none⟩), .agg #[.int .i64 o.1, .int .i64 o.2.1, .int .i64 o.2.2]] (wx.drewN n) fun e w' => ∃ u, e = .returned u ∧ (u = .bool true ∧ RSt w w' B0 B1 B2 (.cells #[.slice a1 l1.length c1, .slice a2 l2.length c2] 65 (0, 0)) U1 U2)) := fun n => by
            refine (reads_any rfl (H6.out.drewN n) o.1 o.2.1 o.2.2).mono ?_
            rintro e w8 ⟨rfl, p', hH⟩
            exact ⟨_, rfl, rfl, ⟨Ka, Kb, Kc, K1, L1, K2, L2, g1, r1, g2, r2, p', p2, hH.swap7⟩⟩
          clear H5 H6
          go_wp2
          go_region_law (refine step_call3 rfl _ _ _ _ _ _ 37 rfl Try.call37 (.pointer (some ⟨g1, 0, none⟩)) (.pointer (some ⟨r1, 0, none⟩)) (.agg #[.int .i64 o.1, .int .i64 o.2.1, .int .i64 o.2.2]) (by simp [Act.eval, Act.put]) (by simp [Act.eval, Act.put]) (by simp [Act.eval, Act.put]) (HCL.out 1) ?_; rintro v w8 ⟨rfl, hN⟩; have HN := hide hN; clear hN)
          all_goals
            go_wp2
            go_roundw
            case rel => exact ⟨k + 1, by omega, by go_num, HN.out⟩
            case measure => simp [intOf]; omega
      · have HON := hide hon
        clear hon
        by_cases k8 : o.1 = 8
        · rw [k8] at q0
          clear k8
          have y0 : wr.cell? ⟨B0, 1, none⟩ = some (.slice a2 l2.length c2) := H5.out.box 0 rfl 1
          have HSc := hide (HS2.out.below H5.out.bel)
          go_wp2_with fail
          refine (which_any o.2.1 2 (by omega) (by omega) _).mono ?_
          rintro e wx ⟨rfl, hwx⟩
          subst hwx
          rw [HON.out]
          go_wp2_with fail
          refine (copied_any _ l2 _ HSc.out (by omega)).mono ?_
          rintro e w8 ⟨a8, c8, rfl, ho8, hb8⟩
          obtain ⟨K8, hH⟩ := H5.out.list hb8 ho8
          have H8 := hide hH
          clear hH ho8 hb8
          go_wp2_with fail
          refine (hnewR H8.out _ l2 (H8.out.sb 7 rfl) HB2.out hl2n).mono ?_
          rintro e w9 ⟨gn, K9, rfl, hH⟩
          rw [← HU2.out] at hH
          have H9 := hide hH
          clear hH
          have z0 : w9.cell? ⟨B1, 1, none⟩ = some (.pointer (some ⟨g2, 0, none⟩)) := H9.out.box 1 rfl 1
          have zf : w9.frozen? ⟨B1, 1, none⟩ = false := H9.out.frozen 1 rfl 1
          have H10 := hide (H9.out.setb 1 rfl 1 (.pointer (some ⟨gn, 0, none⟩)))
          obtain ⟨V10, HV10⟩ : ∃ V10, Hid (V10 = w9.setCell ⟨B1, 1, none⟩ (.pointer (some ⟨gn, 0, none⟩))) := ⟨_, rfl⟩
          rw [← HV10.out] at H10
          have y10 : V10.cell? ⟨B0, 1, none⟩ = some (.slice a2 l2.length c2) := H10.out.box 0 rfl 1
          have HSd := hide (HS2.out.below H10.out.bel)
          rw [HV10.out] at y10
          go_wp2_with fail
          rw [← HV10.out]
          refine (hqnew H10.out _ l2 HSd.out HB2.out hl2n).mono ?_
          rintro e w11 ⟨rn, K11, rfl, hH⟩
          rw [← HU2.out] at hH
          have H11 := hide hH
          clear hH
          have z11 : w11.cell? ⟨B2, 1, none⟩ = some (.pointer (some ⟨r2, 0, none⟩)) := H11.out.box 2 rfl 1
          have zf11 : w11.frozen? ⟨B2, 1, none⟩ = false := H11.out.frozen 2 rfl 1
          have H12 := hide (H11.out.setb 2 rfl 1 (.pointer (some ⟨rn, 0, none⟩)))
          have y12 : (w11.setCell ⟨B2, 1, none⟩ (.pointer (some ⟨rn, 0, none⟩))).cell? ⟨B1, 1, none⟩ = some (.pointer (some ⟨gn, 0, none⟩)) := H12.out.box 1 rfl 1
          have HN : Hid (RSt w (w11.setCell ⟨B2, 1, none⟩ (.pointer (some ⟨rn, 0, none⟩))) B0 B1 B2 (.cells #[.slice a1 l1.length c1, .slice a2 l2.length c2] 65 (0, 0)) U1 U2) := ⟨Ka, Kb, Kc, K1, L1, K9, K11, g1, r1, gn, rn, p1, 0, Herd.pickB H12.out⟩
          clear H5 H8 H9 H10 H11 H12
          go_wp2
          go_roundw
          case rel => exact ⟨k + 1, by omega, by go_num, HN.out⟩
          case measure => simp [intOf]; omega
        · have k8' : (o.1 == 8) = false := by simpa using k8
          have H6 := hide H5.out
          have y1 : wr.cell? ⟨B1, 1, none⟩ = some (.pointer (some ⟨g2, 0, none⟩)) := H5.out.box 1 rfl 1
          have y2 : wr.cell? ⟨B2, 1, none⟩ = some (.pointer (some ⟨r2, 0, none⟩)) := H5.out.box 2 rfl 1
          go_wp2_with fail
          refine (which_any o.2.1 2 (by omega) (by omega) _).mono ?_
          rintro e wx ⟨rfl, hwx⟩
          subst hwx
          rw [HON.out]
          have HCL : Hid (∀ n, Calls Try.prog 37 #[.pointer (some ⟨g2, 0, none⟩), .pointer (some ⟨r2, 0, none⟩), .agg #[.int .i64 o.1, .int .i64 o.2.1, .int .i64 o.2.2]] (wx.drewN n) fun e w' => ∃ u, e = .returned u ∧ (u = .bool true ∧ RSt w w' B0 B1 B2 (.cells #[.slice a1 l1.length c1, .slice a2 l2.length c2] 65 (0, 0)) U1 U2)) := fun n => by
            refine (reads_any rfl (H6.out.drewN n) o.1 o.2.1 o.2.2).mono ?_
            rintro e w8 ⟨rfl, p', hH⟩
            exact ⟨_, rfl, rfl, ⟨Ka, Kb, Kc, K1, L1, K2, L2, g1, r1, g2, r2, p1, p', hH⟩⟩
          clear H5 H6
          go_wp2
          go_region_law (refine step_call3 rfl _ _ _ _ _ _ 37 rfl Try.call37 (.pointer (some ⟨g2, 0, none⟩)) (.pointer (some ⟨r2, 0, none⟩)) (.agg #[.int .i64 o.1, .int .i64 o.2.1, .int .i64 o.2.2]) (by simp [Act.eval, Act.put]) (by simp [Act.eval, Act.put]) (by simp [Act.eval, Act.put]) (HCL.out 1) ?_; rintro v w8 ⟨rfl, hN⟩; have HN := hide hN; clear hN)
          all_goals
            go_wp2
            go_roundw
            case rel => exact ⟨k + 1, by omega, by go_num, HN.out⟩
            case measure => simp [intOf]; omega
    · have hlt' : ¬ (k : Int) < (ops.length : Int) := by omega
      go_wp2
      refine wp_loop_rounds 3 ?_
      rw [rounds_succ]
      have hRa : Rp wr K1 g1 U1 p1 := H5.out.rep 3 _ rfl
      have hQa : Rq wr L1 r1 U1 p1 := H5.out.rep 4 _ rfl
      have HCa1 : Hid (∀ x, Calls Try.prog 27 #[.pointer (some ⟨g1, 0, none⟩)] (wr.drewN x) fun e w'' => e = .returned (.int .i64 p1) ∧ ∃ m, w'' = wr.drewN m) := fun x => (rdat_any (hRa.drewN x)).mono fun e w'' h => ⟨h.1, x, h.2⟩
      have HCa2 : Hid (∀ x, Calls Try.prog 38 #[.pointer (some ⟨r1, 0, none⟩)] (wr.drewN x) fun e w'' => e = .returned (.int .i64 p1) ∧ ∃ m, w'' = wr.drewN m) := fun x => (qat_any (hQa.drewN x)).mono fun e w'' h => ⟨h.1, x, h.2⟩
      have HCa3 : Hid (∀ x, Calls Try.prog 32 #[.pointer (some ⟨g1, 0, none⟩)] (wr.drewN x) fun e w'' => e = .returned (.int .i64 ((U1.length : Int) - p1)) ∧ ∃ m, w'' = wr.drewN m) := fun x => (rdleft_any (hRa.drewN x)).mono fun e w'' h => by
        obtain ⟨rfl, n1, hw1⟩ := h
        exact ⟨rfl, x + n1, by rw [hw1, World.drewN_drewN]⟩
      have HCa4 : Hid (∀ x, Calls Try.prog 39 #[.pointer (some ⟨r1, 0, none⟩)] (wr.drewN x) fun e w'' => e = .returned (.int .i64 ((U1.length : Int) - p1)) ∧ ∃ m, w'' = wr.drewN m) := fun x => (qleft_any (hQa.drewN x)).mono fun e w'' h => by
        obtain ⟨rfl, n1, hw1⟩ := h
        exact ⟨rfl, x + n1, by rw [hw1, World.drewN_drewN]⟩
      have ya1 : wr.cell? ⟨B1, 0, none⟩ = some (.pointer (some ⟨g1, 0, none⟩)) := H5.out.box 1 rfl 0
      have ya2 : wr.cell? ⟨B2, 0, none⟩ = some (.pointer (some ⟨r1, 0, none⟩)) := H5.out.box 2 rfl 0
      clear hRa hQa
      go_wp2
      go_quiet (first | (go_at_call 27; exact HCa1.out _) | (go_at_call 38; exact HCa2.out _) | (go_at_call 32; exact HCa3.out _) | (go_at_call 39; exact HCa4.out _))
      rename_i nq _
      obtain ⟨W2, HW2⟩ : ∃ W2, Hid (W2 = wr.drewN nq) := ⟨_, rfl⟩
      have H6 := hide (H5.out.drewN nq)
      rw [← HW2.out] at H6 ⊢
      clear ya1 ya2
      have hRb : Rp W2 K2 g2 U2 p2 := H6.out.rep 5 _ rfl
      have hQb : Rq W2 L2 r2 U2 p2 := H6.out.rep 6 _ rfl
      have HCb1 : Hid (∀ x, Calls Try.prog 27 #[.pointer (some ⟨g2, 0, none⟩)] (W2.drewN x) fun e w'' => e = .returned (.int .i64 p2) ∧ ∃ m, w'' = W2.drewN m) := fun x => (rdat_any (hRb.drewN x)).mono fun e w'' h => ⟨h.1, x, h.2⟩
      have HCb2 : Hid (∀ x, Calls Try.prog 38 #[.pointer (some ⟨r2, 0, none⟩)] (W2.drewN x) fun e w'' => e = .returned (.int .i64 p2) ∧ ∃ m, w'' = W2.drewN m) := fun x => (qat_any (hQb.drewN x)).mono fun e w'' h => ⟨h.1, x, h.2⟩
      have HCb3 : Hid (∀ x, Calls Try.prog 32 #[.pointer (some ⟨g2, 0, none⟩)] (W2.drewN x) fun e w'' => e = .returned (.int .i64 ((U2.length : Int) - p2)) ∧ ∃ m, w'' = W2.drewN m) := fun x => (rdleft_any (hRb.drewN x)).mono fun e w'' h => by
        obtain ⟨rfl, n1, hw1⟩ := h
        exact ⟨rfl, x + n1, by rw [hw1, World.drewN_drewN]⟩
      have HCb4 : Hid (∀ x, Calls Try.prog 39 #[.pointer (some ⟨r2, 0, none⟩)] (W2.drewN x) fun e w'' => e = .returned (.int .i64 ((U2.length : Int) - p2)) ∧ ∃ m, w'' = W2.drewN m) := fun x => (qleft_any (hQb.drewN x)).mono fun e w'' h => by
        obtain ⟨rfl, n1, hw1⟩ := h
        exact ⟨rfl, x + n1, by rw [hw1, World.drewN_drewN]⟩
      have yb1 : W2.cell? ⟨B1, 1, none⟩ = some (.pointer (some ⟨g2, 0, none⟩)) := H6.out.box 1 rfl 1
      have yb2 : W2.cell? ⟨B2, 1, none⟩ = some (.pointer (some ⟨r2, 0, none⟩)) := H6.out.box 2 rfl 1
      clear hRb hQb
      go_wp2
      rw [rounds_succ]
      go_wp2
      go_quiet (first | (go_at_call 27; exact HCb1.out _) | (go_at_call 38; exact HCb2.out _) | (go_at_call 32; exact HCb3.out _) | (go_at_call 39; exact HCb4.out _))
      have HB : Hid (∀ n, Below w.heap.size w (W2.drewN n)) := fun n => (H6.out.drewN n).bel
      go_wp2
      rw [rounds_succ]
      go_wp2
      go_ret
      exact ⟨rfl, HB.out _⟩
end Go.Proofs.Ytklffkbcigehfab
