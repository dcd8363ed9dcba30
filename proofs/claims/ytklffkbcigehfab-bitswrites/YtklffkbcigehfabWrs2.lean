import Derived.Test.YtklffkbcigehfabWrs
namespace Go.Proofs.Ytklffkbcigehfab
open Go.RowKit Go.Maps
set_option maxRecDepth 20000
variable {Kw : Nat → Nat} {K L : Nat → Nat → Nat} {Bw : Nat} {g x : Nat → Nat} {row : Nat → List Int}

/-- Raw of a list that lay there ahead of all. -/
theorem hxraw0 {W w : World} {xs : List ((Nat → Nat) × Thing)} (H : Herd W w xs) (i : Nat) {K : Nat → Nat} {g : Nat} {row : List Int} (hi : xs[i]? = some (K, tx g row)) (u : Value) (l : List Int) (hB : Byt l) (hS : SB W u l) (hl : l.length ≤ 140737488351232) :
    Calls Try.prog 62 #[.pointer (some ⟨g, 0, none⟩), u] w fun e w' => e = .returned (.int .i64 (rawE row l)) ∧ ∃ K', Herd W w' (xs.set i (K', tx g (rawRow row l))) := by
  have hw : Wx w K g row := H.rep i _ hi
  refine (xraw_any hw u l hB (fun wr K1 hF => hS.below (H.bel.trans (hF.below (H.up i _ hi) H.bel.size))) hl).mono ?_
  rintro e w1 ⟨rfl, K', h1, h2⟩
  exact ⟨rfl, K', H.op i hi (x' := tx g (rawRow row l)) h1 h2⟩

/-- The last of the herd takes another's place. -/
theorem Herd.repl {W w : World} {xs : List ((Nat → Nat) × Thing)} {y : (Nat → Nat) × Thing} (h : Herd W w (xs ++ [y])) (n : Nat) : Herd W w (xs.set n y) := by
  refine h.sub (fun k => if k = n then xs.length else k) (fun k d hd => ?_) (fun a b ha hb e => ?_)
  · rcases get_set hd with ⟨hne, hd⟩ | ⟨rfl, rfl⟩
    · simp only [if_neg hne]
      rw [List.getElem?_append_left (List.getElem?_eq_some_iff.1 hd).1]
      exact hd
    · simp
  · simp only [List.length_set] at ha hb
    by_cases e1 : a = n
    · by_cases e2 : b = n
      · omega
      · simp only [if_pos e1, if_neg e2] at e; omega
    · by_cases e2 : b = n
      · simp only [if_neg e1, if_pos e2] at e; omega
      · simp only [if_neg e1, if_neg e2] at e; exact e

theorem lent_form {w : World} {base : Nat} {u : Value} {l : List Int} (h : Lent w base u l) : ∃ B c, u = .slice (some ⟨B, 0, none⟩) l.length c := by
  obtain ⟨B, c, h, _⟩ := h
  exact ⟨B, c, h⟩

theorem length_marked (l : List Int) : (l ++ marks 8).length = l.length + 8 := by rw [List.length_append]; simp [marks]

theorem step_call0 {P : Program} {ops : Array Oper} {o : Oper} {a : Act} {w : World} {K : Act → World → Prop} {Q : Exit → Act → World → Prop} {E : Prop} (hgd : o.guard = none) (f : FuncId)
    (ho : o.op = .call { callee := .value (.func f), args := #[], argTypes := #[] }) (hcall : ∀ args w, (callFunc f args).run P w = .ok (.enter f args) w) {R : Value → World → Prop}
    (hc : Calls P f #[] w fun e w' => ∃ u, e = .returned u ∧ R u w') (h : ∀ v w', R v w' → K (a.put o.dst v) w') :
    if Region.wanted o (yielded ops a.tmps) = true then Oper.wp P o a w K Q else E := by
  have hw : Region.wanted o (yielded ops a.tmps) = true := by simp [Region.wanted, hgd]
  rw [if_pos hw]
  have hrun : (execOp a.eval o).run P w = .ok (.enter f #[]) w := by
    obtain ⟨dst, op, type, pos, after, guard⟩ := o
    simp only [] at ho
    subst ho
    rw [execOp_call_go, hcall]
    simp
  unfold Oper.wp
  rw [hrun, Oper.upon_enter]
  refine hc.mono fun e w'' hh => ?_
  obtain ⟨v, rfl, hr⟩ := hh
  exact h _ _ hr

def cs6 (g x : Nat → Nat) : Array Value := #[.pointer (some ⟨g 0, 0, none⟩), .pointer (some ⟨g 1, 0, none⟩), .pointer (some ⟨g 2, 0, none⟩), .pointer (some ⟨x 0, 0, none⟩), .pointer (some ⟨x 1, 0, none⟩), .pointer (some ⟨x 2, 0, none⟩)]

theorem cs6_p {i : Nat} (hi : i < 3) : (cs6 g x)[i]? = some (.pointer (some ⟨g i, 0, none⟩)) := by
  obtain rfl | rfl | rfl : i = 0 ∨ i = 1 ∨ i = 2 := by omega
  all_goals rfl

theorem cs6_d {i : Nat} (hi : i < 3) : (cs6 g x)[3 + i]? = some (.pointer (some ⟨x i, 0, none⟩)) := by
  obtain rfl | rfl | rfl : i = 0 ∨ i = 1 ∨ i = 2 := by omega
  all_goals rfl

theorem get_b {p d : Nat → List Int} {zs : List ((Nat → Nat) × Thing)} : (L7 Kw K L Bw g x p d ++ zs)[0]? = some (Kw, tb Bw (.cells (cs6 g x) 85 (0, 0))) := rfl

theorem set_b {p d : Nat → List Int} {zs : List ((Nat → Nat) × Thing)} {i : Nat} (hi : i < 3) (Kn : Nat → Nat) (gn : Nat) (r : List Int) :
    ((L7 Kw K L Bw g x p d ++ zs).set (1 + i) (Kn, tw gn r)).set 0 (Kw, tb Bw (.cells ((cs6 g x).setIfInBounds i (.pointer (some ⟨gn, 0, none⟩))) 85 (0, 0))) = L7 Kw (upd K i Kn) L Bw (upd g i gn) x (upd p i r) d ++ zs := by
  obtain rfl | rfl | rfl : i = 0 ∨ i = 1 ∨ i = 2 := by omega
  all_goals rfl

theorem set_bd {p d : Nat → List Int} {zs : List ((Nat → Nat) × Thing)} {i : Nat} (hi : i < 3) (Kn : Nat → Nat) (gn : Nat) (r : List Int) :
    ((L7 Kw K L Bw g x p d ++ zs).set (4 + i) (Kn, tx gn r)).set 0 (Kw, tb Bw (.cells ((cs6 g x).setIfInBounds (3 + i) (.pointer (some ⟨gn, 0, none⟩))) 85 (0, 0))) = L7 Kw K (upd L i Kn) Bw g (upd x i gn) p (upd d i r) ++ zs := by
  obtain rfl | rfl | rfl : i = 0 ∨ i = 1 ∨ i = 2 := by omega
  all_goals rfl

theorem get_set0 {p d : Nat → List Int} {zs : List ((Nat → Nat) × Thing)} {n : Nat} (hn : 0 < n) (y : (Nat → Nat) × Thing) : ((L7 Kw K L Bw g x p d ++ zs).set n y)[0]? = some (Kw, tb Bw (.cells (cs6 g x) 85 (0, 0))) := by
  rw [List.getElem?_set_ne (by omega)]
  rfl

set_option linter.unusedSimpArgs false in
set_option maxHeartbeats 4000000 in
theorem step_any {W w : World} (H0 : Herd W w (L7 Kw K L Bw g x row row)) (o : WOp) (da : Option Addr) (dc : Nat) (hd : o.d = .slice da o.l.length dc) (hv : 0 ≤ o.v) (hv1 : o.v < 4294967296) (hS0 : SB W o.d o.l) (hB : Byt o.l) (hl : o.l.length ≤ 140737488351232) :
    Calls Try.prog 41 #[.pointer (some ⟨Bw, 0, none⟩), .agg #[.int .i64 o.kind, .int .i64 o.on, .int .i64 o.other, .int .u32 o.v, .int .i64 o.n, .slice da o.l.length dc]] w fun e w' => e = .returned (.bool true) ∧ W3 W w' Bw := by
  rw [hd] at hS0
  have HSD := hide hS0
  have HBy := hide hB
  clear hS0 hB hd
  obtain ⟨i, hi⟩ : ∃ i : Nat, o.on % 3 = i := ⟨(o.on % 3).toNat, by omega⟩
  obtain ⟨j, hj⟩ : ∃ j : Nat, o.other % 3 = j := ⟨(o.other % 3).toNat, by omega⟩
  have hi3 : i < 3 := by omega
  have hj3 : j < 3 := by omega
  have hi3' : (i : Int) < 3 := by omega
  have hj3' : (j : Int) < 3 := by omega
  have HI := hide hi
  have HJ := hide hj
  clear hi hj
  obtain ⟨V, HV⟩ : ∃ V, Hid (V = w.alloc (.cells #[.int .i64 o.kind, .int .i64 o.on, .int .i64 o.other, .int .u32 o.v, .int .i64 o.n, .slice da o.l.length dc] 80)) := ⟨_, rfl⟩
  obtain ⟨KB, hH⟩ := H0.alloc (.cells #[.int .i64 o.kind, .int .i64 o.on, .int .i64 o.other, .int .u32 o.v, .int .i64 o.n, .slice da o.l.length dc] 80)
  rw [← HV.out] at hH
  obtain ⟨ys, HYS⟩ : ∃ ys, Hid (ys = [(KB, tb w.heap.size (.cells #[.int .i64 o.kind, .int .i64 o.on, .int .i64 o.other, .int .u32 o.v, .int .i64 o.n, .slice da o.l.length dc] 80 (0, 0)))]) := ⟨_, rfl⟩
  have H1 : Hid (Herd W V (L7 Kw K L Bw g x row row ++ ys)) := by rw [HYS.out]; exact hH
  clear hH H0
  have HBX : Hid (∀ (wq : World) (Kw' : Nat → Nat) (K' L' : Nat → Nat → Nat) (g' x' : Nat → Nat) (p' d' : Nat → List Int) (zs : List ((Nat → Nat) × Thing)), Herd W wq (L7 Kw' K' L' Bw g' x' p' d' ++ ys ++ zs) → ∀ k, wq.cell? ⟨w.heap.size, k, none⟩ = #[Value.int .i64 o.kind, .int .i64 o.on, .int .i64 o.other, .int .u32 o.v, .int .i64 o.n, .slice da o.l.length dc][k]?) := fun wq Kw' K' L' g' x' p' d' zs h k => by
    rw [HYS.out] at h
    exact h.box 7 rfl k
  have H1z : Hid (Herd W V (L7 Kw K L Bw g x row row ++ ys ++ [])) := by rw [List.append_nil]; exact H1.out
  have x0 : V.cell? ⟨w.heap.size, 0, none⟩ = some (.int .i64 o.kind) := HBX.out V _ _ _ _ _ _ _ _ H1z.out 0
  have x1 : V.cell? ⟨w.heap.size, 1, none⟩ = some (.int .i64 o.on) := HBX.out V _ _ _ _ _ _ _ _ H1z.out 1
  have x2 : V.cell? ⟨w.heap.size, 2, none⟩ = some (.int .i64 o.other) := HBX.out V _ _ _ _ _ _ _ _ H1z.out 2
  have x3 : V.cell? ⟨w.heap.size, 3, none⟩ = some (.int .u32 o.v) := HBX.out V _ _ _ _ _ _ _ _ H1z.out 3
  have x4 : V.cell? ⟨w.heap.size, 4, none⟩ = some (.int .i64 o.n) := HBX.out V _ _ _ _ _ _ _ _ H1z.out 4
  have x5 : V.cell? ⟨w.heap.size, 5, none⟩ = some (.slice da o.l.length dc) := HBX.out V _ _ _ _ _ _ _ _ H1z.out 5
  have yp := cell_p H1.out hi3
  have yd := cell_d H1.out hi3
  have yj := cell_p H1.out hj3
  have HX := hide (cell_d H1.out hj3)
  clear H1z
  by_cases k1 : o.kind = 1
  · rw [k1] at x0
    clear k1
    go_enter Try.func41, Try.ntmps41
    go_wp2_with fail
    rw [← HV.out]
    refine (which_any o.on 3 (by omega) (by omega) _).mono ?_
    rintro e wx ⟨rfl, hwx⟩
    subst hwx
    rw [HI.out]
    go_wp2_with fail
    refine (which_any o.other 3 (by omega) (by omega) _).mono ?_
    rintro e wx ⟨rfl, hwx⟩
    subst hwx
    rw [HJ.out]
    go_wp2_with fail
    refine (hput H1.out (1 + i) (get_p hi3) o.v o.n hv hv1).mono ?_
    rintro e w2 ⟨rfl, K2, hH⟩
    rw [set_p hi3] at hH
    have H2 := hide hH
    clear hH
    have z3 : w2.cell? ⟨w.heap.size, 3, none⟩ = some (.int .u32 o.v) := HBX.out w2 _ _ _ _ _ _ _ [] (by rw [List.append_nil]; exact H2.out) 3
    have z4 : w2.cell? ⟨w.heap.size, 4, none⟩ = some (.int .i64 o.n) := HBX.out w2 _ _ _ _ _ _ _ [] (by rw [List.append_nil]; exact H2.out) 4
    go_wp2_with fail
    refine (hxput H2.out (4 + i) (get_d hi3) o.v o.n hv hv1).mono ?_
    rintro e w3 ⟨rfl, K3, hH⟩
    rw [set_d hi3] at hH
    have HN : Hid (W3 W w3 Bw) := ⟨_, _, _, _, _, _, hH.popn⟩
    clear hH
    go_wp2_with fail
    refine (num_any _ _).mono ?_
    rintro e wy ⟨rfl, hwy⟩
    subst hwy
    go_wp2
    go_ret
    exact ⟨rfl, HN.out⟩
  by_cases k2 : o.kind = 2
  · rw [k2] at x0
    clear k2
    go_enter Try.func41, Try.ntmps41
    go_wp2_with fail
    rw [← HV.out]
    refine (which_any o.on 3 (by omega) (by omega) _).mono ?_
    rintro e wx ⟨rfl, hwx⟩
    subst hwx
    rw [HI.out]
    go_wp2_with fail
    refine (which_any o.other 3 (by omega) (by omega) _).mono ?_
    rintro e wx ⟨rfl, hwx⟩
    subst hwx
    rw [HJ.out]
    go_wp2_with fail
    refine (halign H1.out (1 + i) (get_p hi3)).mono ?_
    rintro e w2 ⟨rfl, K2, hH⟩
    rw [set_p hi3] at hH
    have H2 := hide hH
    clear hH
    go_wp2_with fail
    refine (hxalign H2.out (4 + i) (get_d hi3)).mono ?_
    rintro e w3 ⟨rfl, K3, hH⟩
    rw [set_d hi3] at hH
    have HN : Hid (W3 W w3 Bw) := ⟨_, _, _, _, _, _, hH.popn⟩
    clear hH
    go_wp2
    go_ret
    exact ⟨rfl, HN.out⟩
  by_cases k3 : o.kind = 3
  · rw [k3] at x0
    clear k3
    go_enter Try.func41, Try.ntmps41
    go_wp2_with fail
    rw [← HV.out]
    refine (which_any o.on 3 (by omega) (by omega) _).mono ?_
    rintro e wx ⟨rfl, hwx⟩
    subst hwx
    rw [HI.out]
    go_wp2_with fail
    refine (which_any o.other 3 (by omega) (by omega) _).mono ?_
    rintro e wx ⟨rfl, hwx⟩
    subst hwx
    rw [HJ.out]
    have HS1 := hide (HSD.out.below H1.out.bel)
    go_wp2_with fail
    refine (lent_any _ o.l _ HS1.out hl).mono ?_
    rintro e w2 ⟨u, rfl, hlt, hb2⟩
    obtain ⟨B, c, hu, hob⟩ := hlt
    subst hu
    rw [← length_marked] at hob
    obtain ⟨K2, hH⟩ := H1.out.list hb2 hob
    have H2 := hide hH
    clear hH hb2 hob
    have HLT : Hid (∀ (wq : World) (Kw' : Nat → Nat) (K' L' : Nat → Nat → Nat) (g' x' : Nat → Nat) (p' d' : Nat → List Int), Herd W wq (L7 Kw' K' L' Bw g' x' p' d' ++ ys ++ [(K2, tl (.slice (some ⟨B, 0, none⟩) (o.l ++ marks 8).length c) (o.l ++ marks 8))]) → Lent wq 0 (.slice (some ⟨B, 0, none⟩) o.l.length c) o.l ∧ ∀ k, k ≠ 8 → ∀ dd, (L7 Kw' K' L' Bw g' x' p' d' ++ ys ++ [(K2, tl (.slice (some ⟨B, 0, none⟩) (o.l ++ marks 8).length c) (o.l ++ marks 8))])[k]? = some dd → dd.1 B = 0) := fun wq Kw' K' L' g' x' p' d' h => by
      rw [HYS.out] at h ⊢
      have hr : (tl (.slice (some ⟨B, 0, none⟩) (o.l ++ marks 8).length c) (o.l ++ marks 8)).P wq K2 := h.rep 8 _ rfl
      refine ⟨⟨B, c, rfl, by rw [← length_marked]; exact hr.1⟩, fun k hk dd hd => h.sep 8 k _ _ rfl hd (fun e => hk e.symm) B (hr.2.1 B rfl)⟩
    obtain ⟨hL2, hS2⟩ := HLT.out w2 _ _ _ _ _ _ _ H2.out
    have HL2 := hide hL2
    have HSP := hide hS2
    clear hL2 hS2
    have e1 : ∀ {A : List ((Nat → Nat) × Thing)}, A = L7 Kw K L Bw g x row row ++ ys ++ [(K2, tl (.slice (some ⟨B, 0, none⟩) (o.l ++ marks 8).length c) (o.l ++ marks 8))] → A = L7 Kw K L Bw g x row row ++ (ys ++ [(K2, tl (.slice (some ⟨B, 0, none⟩) (o.l ++ marks 8).length c) (o.l ++ marks 8))]) := fun h => by rw [h, List.append_assoc]
    have H2a : Hid (Herd W w2 (L7 Kw K L Bw g x row row ++ (ys ++ [(K2, tl (.slice (some ⟨B, 0, none⟩) (o.l ++ marks 8).length c) (o.l ++ marks 8))]))) := by
      have := H2.out
      rwa [List.append_assoc] at this
    have HK0 : Hid (K i B = 0) := by
      have := HSP.out (1 + i) (by omega) (K i, tw (g i) (row i)) (by rw [List.append_assoc]; exact get_p hi3)
      exact this
    clear e1
    have z5 : w2.cell? ⟨w.heap.size, 5, none⟩ = some (.slice da o.l.length dc) := HBX.out w2 _ _ _ _ _ _ _ _ H2.out 5
    go_wp2_with fail
    refine (hraw H2a.out (1 + i) (get_p hi3) _ o.l HBy.out HL2.out.sb (fun k hk _ => by simp [Value.ownBlock] at hk; rw [← hk]; exact HK0.out)).mono ?_
    rintro e w3 ⟨rfl, K3, hH⟩
    rw [set_p hi3] at hH
    have H3 := hide hH
    clear hH
    have z5 : w3.cell? ⟨w.heap.size, 5, none⟩ = some (.slice da o.l.length dc) := HBX.out w3 _ _ _ _ _ _ _ _ (by have := H3.out; rwa [← List.append_assoc] at this) 5
    go_wp2_with fail
    refine (hxraw0 H3.out (4 + i) (get_d hi3) _ o.l HBy.out HSD.out hl).mono ?_
    rintro e w4 ⟨rfl, K4, hH⟩
    rw [set_d hi3] at hH
    have H4 := hide hH
    clear hH
    have z5 : w4.cell? ⟨w.heap.size, 5, none⟩ = some (.slice da o.l.length dc) := HBX.out w4 _ _ _ _ _ _ _ _ (by have := H4.out; rwa [← List.append_assoc] at this) 5
    have HL4 := hide (HLT.out w4 _ _ _ _ _ _ _ (by have := H4.out; rwa [← List.append_assoc] at this)).1
    have HS4 := hide (HSD.out.below H4.out.bel)
    go_wp2_with fail
    refine (num_any _ _).mono ?_
    rintro e wy ⟨rfl, hwy⟩
    subst hwy
    go_wp2_with fail
    refine (still_any _ _ o.l _ 0 HL4.out HS4.out hl).mono ?_
    rintro e w5 ⟨rfl, n5, rfl⟩
    have HN : Hid (W3 W (wy.drewN n5) Bw) := ⟨_, _, _, _, _, _, (H4.out.drewN n5).popn⟩
    go_wp2
    go_ret
    exact ⟨rfl, HN.out⟩
  by_cases k4 : o.kind = 4
  · rw [k4] at x0
    clear k4
    go_enter Try.func41, Try.ntmps41
    go_wp2_with fail
    rw [← HV.out]
    refine (which_any o.on 3 (by omega) (by omega) _).mono ?_
    rintro e wx ⟨rfl, hwx⟩
    subst hwx
    rw [HI.out]
    go_wp2_with fail
    refine (which_any o.other 3 (by omega) (by omega) _).mono ?_
    rintro e wx ⟨rfl, hwx⟩
    subst hwx
    rw [HJ.out]
    by_cases hij : i = j
    · subst hij
      go_wp2_with fail
      refine (hjoinself H1.out (1 + i) (get_p hi3)).mono ?_
      rintro e w2 ⟨rfl, K2, hH⟩
      rw [set_p hi3] at hH
      have H2 := hide hH
      clear hH
      have yx := cell_d H2.out hi3
      go_wp2_with fail
      refine (hxjoinself H2.out (4 + i) (get_d hi3)).mono ?_
      rintro e w3 ⟨rfl, K3, hH⟩
      rw [set_d hi3] at hH
      have HN : Hid (W3 W w3 Bw) := ⟨_, _, _, _, _, _, hH.popn⟩
      clear hH
      go_wp2_with fail
      refine (num_any _ _).mono ?_
      rintro e wy ⟨rfl, hwy⟩
      subst hwy
      go_wp2
      go_ret
      exact ⟨rfl, HN.out⟩
    · go_wp2_with fail
      refine (hjoin H1.out (1 + i) (1 + j) (get_p hi3) (get_p hj3) (by omega)).mono ?_
      rintro e w2 ⟨rfl, K2, hH⟩
      rw [set_p hi3] at hH
      have H2 := hide hH
      clear hH
      have yx := cell_d H2.out hj3
      go_wp2_with fail
      refine (hxjoin H2.out (4 + i) (4 + j) (get_d hi3) (get_d hj3) (by omega)).mono ?_
      rintro e w3 ⟨rfl, K3, hH⟩
      rw [set_d hi3] at hH
      have HN : Hid (W3 W w3 Bw) := ⟨_, _, _, _, _, _, hH.popn⟩
      clear hH
      go_wp2_with fail
      refine (num_any _ _).mono ?_
      rintro e wy ⟨rfl, hwy⟩
      subst hwy
      go_wp2
      go_ret
      exact ⟨rfl, HN.out⟩
  by_cases k5 : o.kind = 5
  · rw [k5] at x0
    clear k5
    go_enter Try.func41, Try.ntmps41
    go_wp2_with fail
    rw [← HV.out]
    refine (which_any o.on 3 (by omega) (by omega) _).mono ?_
    rintro e wx ⟨rfl, hwx⟩
    subst hwx
    rw [HI.out]
    go_wp2_with fail
    refine (which_any o.other 3 (by omega) (by omega) _).mono ?_
    rintro e wx ⟨rfl, hwx⟩
    subst hwx
    rw [HJ.out]
    go_wp2_with fail
    refine (hlen H1.out (1 + i) (get_p hi3)).mono ?_
    rintro e w2 ⟨rfl, hH⟩
    have H2 := hide hH
    clear hH
    go_wp2_with fail
    refine (hxlen H2.out (4 + i) (get_d hi3)).mono ?_
    rintro e w3 ⟨rfl, hH⟩
    have HN : Hid (W3 W w3 Bw) := ⟨_, _, _, _, _, _, hH.popn⟩
    clear hH
    go_wp2
    go_ret
    exact ⟨rfl, HN.out⟩
  by_cases k6 : o.kind = 6
  · rw [k6] at x0
    clear k6
    go_enter Try.func41, Try.ntmps41
    go_wp2_with fail
    rw [← HV.out]
    refine (which_any o.on 3 (by omega) (by omega) _).mono ?_
    rintro e wx ⟨rfl, hwx⟩
    subst hwx
    rw [HI.out]
    go_wp2_with fail
    refine (which_any o.other 3 (by omega) (by omega) _).mono ?_
    rintro e wx ⟨rfl, hwx⟩
    subst hwx
    rw [HJ.out]
    obtain ⟨T, HT⟩ : ∃ T, Hid (T = pack (row i)) := ⟨_, rfl⟩
    go_wp2_with fail
    refine (hbytes H1.out (1 + i) (get_p hi3)).mono ?_
    rintro e w2 ⟨a2, c2, K2, rfl, hH⟩
    rw [← HT.out] at hH ⊢
    rw [List.append_assoc] at hH
    have H2 := hide hH
    clear hH
    go_wp2_with fail
    refine (hxbytes H2.out (4 + i) (get_d hi3)).mono ?_
    rintro e w3 ⟨a3, c3, K3, rfl, hH⟩
    rw [← HT.out] at hH ⊢
    have H3 := hide hH
    clear hH
    have HSa : Hid (SB w3 (.slice a2 T.length c2) T) := by have := H3.out; rw [HYS.out] at this; exact this.sb 8 rfl
    have HSb : Hid (SB w3 (.slice a3 T.length c3) T) := by have := H3.out; rw [HYS.out] at this; exact this.sb 9 rfl
    go_wp2_with fail
    refine (same_any _ _ T T _ HSa.out HSb.out).mono ?_
    rintro e w4 ⟨rfl, n4, rfl⟩
    rw [show eqB T T = true by simp [eqB]]
    have HN : Hid (W3 W (w3.drewN n4) Bw) := ⟨_, _, _, _, _, _, (Herd.popn (Herd.popn (H3.out.drewN n4)))⟩
    go_wp2
    go_ret
    exact ⟨rfl, HN.out⟩
  by_cases k7 : o.kind = 7
  · rw [k7] at x0
    clear k7
    go_enter Try.func41, Try.ntmps41
    go_wp2_with fail
    rw [← HV.out]
    refine (which_any o.on 3 (by omega) (by omega) _).mono ?_
    rintro e wx ⟨rfl, hwx⟩
    subst hwx
    rw [HI.out]
    go_wp2_with fail
    refine (which_any o.other 3 (by omega) (by omega) _).mono ?_
    rintro e wx ⟨rfl, hwx⟩
    subst hwx
    rw [HJ.out]
    have HCL : Hid (∀ n, Calls Try.prog 9 #[] (wx.drewN n) fun e w' => ∃ u, e = .returned u ∧ (∃ gn Kn, u = .pointer (some ⟨gn, 0, none⟩) ∧ Herd W w' (L7 Kw K L Bw g x row row ++ ys ++ [(Kn, tw gn [])]))) := fun n => by
      refine (hnewW (H1.out.drewN n)).mono ?_
      rintro e w2 ⟨gn, Kn, rfl, hH⟩
      exact ⟨_, rfl, gn, Kn, rfl, hH⟩
    go_wp2
    go_region_law (refine step_call0 rfl 9 rfl Try.call9 (HCL.out 1) ?_; rintro v w2 ⟨gn, Kn, rfl, hH⟩; have H2 := hide (hH.repl (1 + i)); clear hH; have z0 : w2.cell? ⟨Bw, i, none⟩ = some (.pointer (some ⟨g i, 0, none⟩)) := (H2.out.box 0 (get_set0 (by omega) _) i).trans (cs6_p hi3); have zf : w2.frozen? ⟨Bw, i, none⟩ = false := H2.out.frozen 0 (get_set0 (by omega) _) i)
    all_goals
      have hH := H2.out.setb 0 (get_set0 (by omega) _) i (.pointer (some ⟨gn, 0, none⟩))
      rw [set_b hi3] at hH
      obtain ⟨V3, HV3⟩ : ∃ V3, Hid (V3 = w2.setCell ⟨Bw, i, none⟩ (.pointer (some ⟨gn, 0, none⟩))) := ⟨_, rfl⟩
      rw [← HV3.out] at hH ⊢
      have H3 := hide hH
      clear hH HCL z0 zf
      have HCL : Hid (∀ n, Calls Try.prog 58 #[] (V3.drewN n) fun e w' => ∃ u, e = .returned u ∧ (∃ xn Kx, u = .pointer (some ⟨xn, 0, none⟩) ∧ Herd W w' (L7 Kw (upd K i Kn) L Bw (upd g i gn) x (upd row i []) row ++ ys ++ [(Kx, tx xn [])]))) := fun n => by
        refine (hxnew (H3.out.drewN n)).mono ?_
        rintro e w2 ⟨xn, Kx, rfl, hH⟩
        exact ⟨_, rfl, xn, Kx, rfl, hH⟩
      go_wp2
      go_region_law (refine step_call0 rfl 58 rfl Try.call58 (HCL.out 1) ?_; rintro v w4 ⟨xn, Kx, rfl, hH⟩; have H4 := hide (hH.repl (4 + i)); clear hH; have z4 : w4.cell? ⟨Bw, 3 + i, none⟩ = some (.pointer (some ⟨x i, 0, none⟩)) := (H4.out.box 0 (get_set0 (by omega) _) (3 + i)).trans (cs6_d hi3); have zf4 : w4.frozen? ⟨Bw, 3 + i, none⟩ = false := H4.out.frozen 0 (get_set0 (by omega) _) (3 + i))
      all_goals
        have hH := H4.out.setb 0 (get_set0 (by omega) _) (3 + i) (.pointer (some ⟨xn, 0, none⟩))
        rw [set_bd hi3] at hH
        have y5 := cell_p hH hi3
        rw [upd_same] at y5
        have HN : Hid (W3 W (w4.setCell ⟨Bw, 3 + i, none⟩ (.pointer (some ⟨xn, 0, none⟩))) Bw) := ⟨_, _, _, _, _, _, hH.popn⟩
        clear hH HCL
        go_wp2
        go_ret
        exact ⟨rfl, HN.out⟩
  have HN : Hid (W3 W V Bw) := ⟨_, _, _, _, _, _, H1.out.popn⟩
  go_enter Try.func41, Try.ntmps41
  go_wp2_with fail
  rw [← HV.out]
  refine (which_any o.on 3 (by omega) (by omega) _).mono ?_
  rintro e wx ⟨rfl, hwx⟩
  subst hwx
  rw [HI.out]
  go_wp2_with fail
  refine (which_any o.other 3 (by omega) (by omega) _).mono ?_
  rintro e wx ⟨rfl, hwx⟩
  subst hwx
  rw [HJ.out]
  go_wp2
  go_ret
  exact ⟨rfl, HN.out⟩
end Go.Proofs.Ytklffkbcigehfab
