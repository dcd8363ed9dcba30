import Derived.Test.YtbbbonphmffokabDoorGTk
namespace Go.Proofs.YtbbbonphmffokabDoor
open Go.RowKit Go.Maps
set_option maxRecDepth 20000
set_option linter.unusedVariables false

end Go.Proofs.YtbbbonphmffokabDoor

namespace Go.Proofs.YtbbbonphmffokabDoor
open Go.RowKit Go.Maps
set_option maxRecDepth 20000
set_option linter.unusedVariables false

theorem OB.form {w : World} {base : Nat} {v : Value} {l : List Int} (h : OB w base v l) (h0 : 0 < l.length) : ∃ g c, v = .slice (some ⟨g, 0, none⟩) l.length c ∧ l.length ≤ c ∧ c ≤ 9223372036854775807 ∧ ∀ i, i < l.length → w.cell? ⟨g, i, none⟩ = some (.int .u8 (l.getD i 0)) := by
  have hc := @World.ownsRow.cells _ _ _ _ _ _ _ h
  rcases h.2 with ⟨rfl, h1⟩ | ⟨g, cap, cur, rfl, _, _, h3, h4, _, _⟩
  · omega
  · unfold maxLen at h4
    refine ⟨g, cap, rfl, h3, by omega, fun i hi => ?_⟩
    have := hc (g := g) rfl i (.int .u8 (l.getD i 0)) (by simp [hi])
    rwa [Addr.add_lit, Nat.zero_add] at this

theorem OB.top {w : World} {base : Nat} {v : Value} {l : List Int} (h : OB w base v l) : ∃ a c, v = .slice a l.length c ∧ l.length ≤ c ∧ c ≤ 9223372036854775807 := by
  rcases h.2 with ⟨rfl, h0⟩ | ⟨g, cap, cur, rfl, _, _, h3, h4, _⟩
  · exact ⟨none, 0, by rw [h0], by omega, by omega⟩
  · unfold maxLen at h4; exact ⟨_, _, rfl, h3, by omega⟩

end Go.Proofs.YtbbbonphmffokabDoor

namespace Go.Proofs.YtbbbonphmffokabDoor
open Go.RowKit Go.Maps
set_option maxRecDepth 20000
set_option linter.unusedVariables false

/-- Expand's error and answer. -/
def xE (lim : Int) (R : List Tk) : Int := if lim < 0 ∨ 16777216 < lim then 1 else exE lim [] R
def xL (lim : Int) (R : List Tk) : List Int := if xE lim R = 0 then exT [] R else []

theorem xE_in {lim : Int} {R : List Tk} (h0 : 0 ≤ lim) (h1 : lim ≤ 16777216) : xE lim R = exE lim [] R := by unfold xE; rw [if_neg (by omega)]

theorem xL_bad {lim : Int} {R : List Tk} {e : Int} (h : xE lim R = e) (he : e ≠ 0) : xL lim R = [] := by unfold xL; rw [if_neg (by omega)]

theorem ext_le {lim : Int} {R : List Tk} (h : exE lim [] R = 0) (h0 : 0 ≤ lim) : ∀ k, k ≤ R.length → ((exT [] (R.take k)).length : Int) ≤ lim := by
  intro k
  induction k with
  | zero => intro _; simpa [exT] using h0
  | succ k ih =>
    intro hk
    obtain ⟨h1, h2⟩ := means_at h (k := k) (by omega)
    obtain ⟨s1, s2, s3⟩ := stE_zero h2
    rw [ext_at (by omega), ptk_len s1]
    omega

end Go.Proofs.YtbbbonphmffokabDoor

namespace Go.Proofs.YtbbbonphmffokabDoor
open Go.RowKit Go.Maps
set_option maxRecDepth 20000
set_option linter.unusedVariables false

/-- A block that an append onto another leaves alone. -/
theorem Grew.keep {wr w3 : World} {u v3 : Value} {o : Obj} (hg : Grew (wr.alloc o) w3 u v3) {g : Nat} (hz : g < wr.heap.size) (hn : u.ownBlock ≠ some g) : w3.heap[g]? = wr.heap[g]? ∧ g < w3.heap.size ∧ v3.ownBlock ≠ some g := by
  refine ⟨(hg.by.block _ (by simp; omega) (fun q => hn q.symm)).trans (Below.heap_alloc wr _ _ hz), ?_, fun q => ?_⟩
  · have := hg.by.size
    simp at this
    omega
  · rcases hg.at with e | e
    · rw [e] at q; simp at q; omega
    · rw [e] at q; exact hn q

theorem cell_keep {w w' : World} {g i : Nat} {u : Value} (h : w'.heap[g]? = w.heap[g]?) (hc : w.cell? ⟨g, i, none⟩ = some u) : w'.cell? ⟨g, i, none⟩ = some u := by
  unfold World.cell? at hc ⊢
  simp only at hc ⊢
  rw [h]
  exact hc

end Go.Proofs.YtbbbonphmffokabDoor

namespace Go.Proofs.YtbbbonphmffokabDoor
open Go.RowKit Go.Maps
set_option maxRecDepth 20000
set_option linter.unusedVariables false
set_option linter.unusedSimpArgs false

theorem list3 {α : Type} {l : List α} (h : l.length = 3) : ∃ a b c, l = [a, b, c] := by
  match l, h with
  | [a, b, c], _ => exact ⟨a, b, c, rfl⟩

theorem tok_st : Tryd.prog.underlying 40 = some (.struct (Tryd.prog.fieldsOf 40)) := by kernel_rfl
theorem tok_held : Tryd.prog.stoodInHeld 40 = false := by kernel_rfl
theorem tok_guard : Tryd.prog.eqGuardType Tryd.prog.depth 40 = false := by kernel_rfl
theorem tok_fields : (Tryd.prog.fieldsOf 40).toList.map (fun f => (decide (f.name ≠ "_"), f.type, f.offset)) = [(true, 3, 0), (true, 3, 1), (true, 5, 2)] := by kernel_rfl

theorem tk_eq (w : World) (a b c d e f : Int) : (Op.equalIn 10000 40 (.agg #[.int .i64 a, .int .i64 b, .int .u8 c]) (.agg #[.int .i64 d, .int .i64 e, .int .u8 f])).run Tryd.prog w = .ok (a == d && (b == e && c == f)) w := by
  rw [run_equalIn_struct w 9999 40 _ _ tok_st tok_held]
  have hf := tok_fields
  obtain ⟨f1, f2, f3, hfg⟩ := list3 (l := (Tryd.prog.fieldsOf 40).toList) (by have := congrArg List.length hf; simpa using this)
  rw [hfg] at hf ⊢
  · simp only [List.map_cons, List.map_nil, List.cons.injEq, Prod.mk.injEq, decide_eq_true_eq, and_true] at hf
    obtain ⟨⟨n1, t1, o1⟩, ⟨n2, t2, o2⟩, n3, t3, o3⟩ := hf
    simp only [Op.eqFields, if_pos n1, if_pos n2, if_pos n3, t1, t2, t3, o1, o2, o3]
    have p1 : ∀ x y z : Int, (part 3 #[.int .i64 x, .int .i64 y, .int .u8 z] 0).run Tryd.prog w = .ok (.int .i64 x) w := fun x y z => by kernel_rfl
    have p2 : ∀ x y z : Int, (part 3 #[.int .i64 x, .int .i64 y, .int .u8 z] 1).run Tryd.prog w = .ok (.int .i64 y) w := fun x y z => by kernel_rfl
    have p3 : ∀ x y z : Int, (part 5 #[.int .i64 x, .int .i64 y, .int .u8 z] 2).run Tryd.prog w = .ok (.int .u8 z) w := fun x y z => by kernel_rfl
    have q : ∀ x y : Int, (Op.equalIn 9999 3 (.int .i64 x) (.int .i64 y)).run Tryd.prog w = .ok (x == y) w := fun x y => run_equalIn_int w 9998 3 .i64 .i64 x y Tryd.underlying3
    have q8 : ∀ x y : Int, (Op.equalIn 9999 5 (.int .u8 x) (.int .u8 y)).run Tryd.prog w = .ok (x == y) w := fun x y => run_equalIn_int w 9998 5 .u8 .u8 x y Tryd.underlying5
    simp only [Sem.run_bind, p1, p2, p3, q, q8, Result.andThen_ok]
    by_cases e1 : a = d
    · subst e1
      by_cases e2 : b = e
      · subst e2
        by_cases e3 : c = f
        · subst e3; simp [p1, p2, p3, q, q8]
        · simp [p1, p2, p3, q, q8, e3]
      · simp [p1, p2, p3, q, q8, e2]
    · simp [e1]

theorem tk_neq (w : World) (a b c d e f : Int) : (binOp .neq 40 (.agg #[.int .i64 a, .int .i64 b, .int .u8 c]) (.agg #[.int .i64 d, .int .i64 e, .int .u8 f])).run Tryd.prog w = .ok (.bool (!(a == d && (b == e && c == f)))) w := by
  rw [run_neq_struct, tk_eq]; rfl
theorem tk_eql (w : World) (a b c d e f : Int) : (binOp .eql 40 (.agg #[.int .i64 a, .int .i64 b, .int .u8 c]) (.agg #[.int .i64 d, .int .i64 e, .int .u8 f])).run Tryd.prog w = .ok (.bool (a == d && (b == e && c == f))) w := by
  rw [run_eql_struct, tk_eq]; rfl

def eqK (l1 l2 : List Tk) : Bool := decide (l1 = l2)
theorem eqK_self (l : List Tk) : eqK l l = true := by simp [eqK]
theorem eqB_self (l : List Int) : eqB l l = true := by simp [eqB]

theorem ktake_step {l1 l2 : List Tk} {k : Nat} (h1 : k < l1.length) (hl : l1.length = l2.length) (ht : l1.take k = l2.take k) :
    (l1.getD k tk0 = l2.getD k tk0 → l1.take (k + 1) = l2.take (k + 1)) ∧ (l1.getD k tk0 ≠ l2.getD k tk0 → l1 ≠ l2) := by
  refine ⟨fun h => ?_, fun h e => h (by rw [e])⟩
  rw [tk_snoc h1, tk_snoc (by omega), ht, h]

theorem alike_any (v1 v2 : Value) (l1 l2 : List Tk) (w : World) (h1 : SK w v1 l1) (h2 : SK w v2 l2) :
    Calls Tryd.prog 14 #[v1, v2] w fun e w' => e = .returned (.bool (eqK l1 l2)) ∧ ∃ n, w' = w.drewN n := by
  have H1 := hide h1
  have H2 := hide h2
  obtain ⟨ao1, cap1, rfl, hlc1, hcm1⟩ := h1.open
  obtain ⟨ao2, cap2, rfl, hlc2, hcm2⟩ := h2.open
  clear h1 h2
  by_cases hne : l1.length = l2.length
  case neg =>
    have hd : ((l1.length : Int) == l2.length) = false := by simp; omega
    have hd' : ((l1.length : Int) != l2.length) = true := by simp; omega
    have HE : Hid (eqK l1 l2 = false) := by show _ = _; simp [eqK]; intro h; exact hne (by rw [h])
    clear hne
    go_enter Tryd.func14, Tryd.ntmps14
    go_wp2
    go_ret
    rw [HE.out]
    exact ⟨rfl, 0, rfl⟩
  case pos =>
    have hd' : ((l1.length : Int) != l2.length) = false := by simp; omega
    have HNE : Hid (l1.length = l2.length) := hne
    clear hne
    go_enter Tryd.func14, Tryd.ntmps14
    go_wp2
    go_loopw [5] (fun i wr => ∃ k n : Nat, k ≤ l1.length ∧ i = .int .i64 k ∧ wr = w.drewN n ∧ Hid (l1.take k = l2.take k)) (fun i _ => l1.length - (intOf i).toNat)
    case atStart => exact ⟨0, 0, Nat.zero_le _, rfl, rfl, rfl⟩
    case round =>
      obtain ⟨k, n, hk, rfl, hw, HT⟩ := hrel
      subst hw
      by_cases hlt : k < l1.length
      · have hlt' : (k : Int) < (l1.length : Int) := by omega
        have hlt2 : (k : Int) < (l2.length : Int) := by have := HNE.out; omega
        obtain ⟨b1, o1, rfl, c1, c2, c3⟩ := H1.out.get (w := w.drewN n) (below_drewN (Below.refl _ _) n) hlt
        obtain ⟨b2, o2, rfl, d1, d2, d3⟩ := H2.out.get (w := w.drewN n) (below_drewN (Below.refl _ _) n) (k := k) (by have := HNE.out; omega)
        have HK := hide (ktake_step (k := k) hlt HNE.out HT.out)
        obtain ⟨x, hx⟩ : ∃ x, x = l1.getD k tk0 := ⟨_, rfl⟩
        obtain ⟨y, hy⟩ : ∃ y, y = l2.getD k tk0 := ⟨_, rfl⟩
        rw [← hx] at c1 c2 c3 HK
        rw [← hy] at d1 d2 d3 HK
        clear hx hy
        obtain ⟨xa, xb, xc⟩ := x
        obtain ⟨ya, yb, yc⟩ := y
        simp only at c1 c2 c3 d1 d2 d3
        have c1w : w.cell? ⟨b1, o1 + k * 3, none⟩ = some (.int .i64 xa) := c1
        have c2w : w.cell? ⟨b1, o1 + k * 3 + 1, none⟩ = some (.int .i64 xb) := c2
        have c3w : w.cell? ⟨b1, o1 + k * 3 + 2, none⟩ = some (.int .u8 xc) := c3
        have d1w : w.cell? ⟨b2, o2 + k * 3, none⟩ = some (.int .i64 ya) := d1
        have d2w : w.cell? ⟨b2, o2 + k * 3 + 1, none⟩ = some (.int .i64 yb) := d2
        have d3w : w.cell? ⟨b2, o2 + k * 3 + 2, none⟩ = some (.int .u8 yc) := d3
        have hnq := fun W => tk_neq W xa xb xc ya yb yc
        have hgd := tok_guard
        by_cases hcc : xa = ya ∧ xb = yb ∧ xc = yc
        · have hb : (!(xa == ya && (xb == yb && xc == yc))) = false := by simp [hcc.1, hcc.2.1, hcc.2.2]
          have HK2 := hide (HK.out.1 (by rw [hcc.1, hcc.2.1, hcc.2.2]))
          rw [hb] at hnq
          clear hcc HK
          go_wp2
          go_quiet (fail)
          go_wp2
          go_roundw
          case rel => exact ⟨k + 1, _, by omega, by go_num, by (try simp only [World.drewN_drewN]); rfl, HK2⟩
          case measure => simp [intOf]; omega
        · have hb : (!(xa == ya && (xb == yb && xc == yc))) = true := by
            simp only [Bool.not_eq_true', Bool.and_eq_false_iff, beq_eq_false_iff_ne]
            by_cases q : xa = ya
            · by_cases q2 : xb = yb
              · exact .inr (.inr (fun e => hcc ⟨q, q2, e⟩))
              · exact .inr (.inl q2)
            · exact .inl q
          have HX : Hid (eqK l1 l2 = false) := by show _ = _; simp only [eqK, decide_eq_false_iff_not]; exact HK.out.2 (fun e => hcc (by simpa using e))
          rw [hb] at hnq
          clear hcc HK
          go_wp2
          go_quiet (fail)
          go_wp2
          go_ret
          rw [HX.out]
          exact ⟨rfl, _, by (try simp only [World.drewN_drewN]); rfl⟩
      · obtain rfl : k = l1.length := by omega
        have hlt' : ¬ (l1.length : Int) < (l1.length : Int) := by omega
        have HX : Hid (eqK l1 l2 = true) := by
          show _ = _
          have := HT.out
          rw [List.take_of_length_le (Nat.le_refl _), List.take_of_length_le (by rw [← HNE.out]; exact Nat.le_refl _)] at this
          simp [eqK, this]
        go_wp2
        go_ret
        rw [HX.out]
        exact ⟨rfl, n, rfl⟩

theorem lnum_any (w : World) (x : Int) : Calls Tryd.prog 12 #[.int .i64 x] w fun e w' => e = .returned (.int .i64 x) ∧ w' = w := by
  go_enter Tryd.func12, Tryd.ntmps12
  go_wp2
  go_ret
  exact ⟨rfl, rfl⟩

theorem infoTok2 : (Tryd.prog.info? 40).map (·.size) = some 3 := by kernel_rfl

/-- Two more tokens. -/
theorem wpTok2 {w : World} {ops : Array Oper} {rest : List Oper} {o : Oper} {a : Act} {Q : Exit → Act → World → Prop} (hgd : o.guard = none) (s x : Operand)
    (ho : o.op = .call { callee := .builtin .append, args := #[s, x], argTypes := #[22, 22] }) (base : Nat) (v : Value) (R : List Tk) (p1 p2 p3 q1 q2 q3 : Int) (hs : a.eval s = v) (hown : OK w base v R)
    (c : Nat) (hx : a.eval x = .slice (some ⟨w.heap.size, 0, none⟩) 2 c) (hn : R.length ≤ 5864062014800) (hbase : base ≤ w.heap.size)
    (h : ∀ v' w', OK w' base v' (R ++ [(p1, p2, p3), (q1, q2, q3)]) → (w.alloc (.cells #[.int .i64 p1, .int .i64 p2, .int .u8 p3, .int .i64 q1, .int .i64 q2, .int .u8 q3] 40)).grownBy w' v.ownBlock → wpList Tryd.prog ops Q rest (a.put o.dst v') w') :
    wpList Tryd.prog ops Q (o :: rest) a (w.alloc (.cells #[.int .i64 p1, .int .i64 p2, .int .u8 p3, .int .i64 q1, .int .i64 q2, .int .u8 q3] 40)) := by
  obtain ⟨i0, hi0, hz0, hz1, hz2⟩ := info_parts infoTok
  refine wpList_append_own_at _ hgd s x 22 ho base 40 i0 _ 3 24 Tryd.underlying22 hi0 hz0 hz1 hz2 rfl (by omega) v R.length (fr3 R) hs (hown.alloc _) ⟨w.heap.size, 0, none⟩ 2 c [.int .i64 p1, .int .i64 p2, .int .u8 p3, .int .i64 q1, .int .i64 q2, .int .u8 q3] hx rfl (World.news_of_block (cs := #[.int .i64 p1, .int .i64 p2, .int .u8 p3, .int .i64 q1, .int .i64 q2, .int .u8 q3]) (t := 40) (fr := (0, 0)) (heap_alloc_new w _))
    (fun u hu => by
      simp only [List.mem_cons, List.not_mem_nil, or_false] at hu
      rcases hu with rfl | rfl | rfl | rfl | rfl | rfl <;> rfl) (by unfold maxLen; omega) (by omega) (by simp; omega) fun v' w' h1 h2 _ _ => h v' w' ?_ h2
  show World.ownsRow _ _ _ _ _ _ _
  rw [List.length_append, fr3_app]
  exact h1

end Go.Proofs.YtbbbonphmffokabDoor

