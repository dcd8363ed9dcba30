import Derived.Test.YtkmefeihkmbngaaDoorG00Tkw
import Derived.Lib.SmallJoins
import Derived.Deep.Slices
namespace Go.Proofs.YtkmefeihkmbngaaDoor
open Go.RowKit Go.Maps
set_option maxRecDepth 20000
set_option linter.unusedVariables false

end Go.Proofs.YtkmefeihkmbngaaDoor

namespace Go.Proofs.YtkmefeihkmbngaaDoor
open Go.RowKit Go.Maps
set_option maxRecDepth 20000
set_option linter.unusedVariables false

end Go.Proofs.YtkmefeihkmbngaaDoor

namespace Go.Proofs.YtkmefeihkmbngaaDoor
open Go.RowKit Go.Maps
set_option maxRecDepth 20000
set_option linter.unusedVariables false

end Go.Proofs.YtkmefeihkmbngaaDoor

namespace Go.Proofs.YtkmefeihkmbngaaDoor
open Go.RowKit Go.Maps
set_option maxRecDepth 20000
set_option linter.unusedVariables false

end Go.Proofs.YtkmefeihkmbngaaDoor

namespace Go.Proofs.YtkmefeihkmbngaaDoor
open Go.RowKit Go.Maps
set_option maxRecDepth 20000
set_option linter.unusedVariables false
set_option linter.unusedSimpArgs false

theorem list3 {α : Type} {l : List α} (h : l.length = 3) : ∃ a b c, l = [a, b, c] := by
  match l, h with
  | [a, b, c], _ => exact ⟨a, b, c, rfl⟩

theorem tok_st : Tryd.prog.underlying 48 = some (.struct (Tryd.prog.fieldsOf 48)) := by kernel_rfl
theorem tok_held : Tryd.prog.stoodInHeld 48 = false := by kernel_rfl
theorem tok_guard : Tryd.prog.eqGuardType Tryd.prog.depth 48 = false := by kernel_rfl
theorem tok_fields : (Tryd.prog.fieldsOf 48).toList.map (fun f => (decide (f.name ≠ "_"), f.type, f.offset)) = [(true, 3, 0), (true, 3, 1), (true, 5, 2)] := by kernel_rfl

theorem tk_eq (w : World) (a b c d e f : Int) : (Op.equalIn 10000 48 (.agg #[.int .i64 a, .int .i64 b, .int .u8 c]) (.agg #[.int .i64 d, .int .i64 e, .int .u8 f])).run Tryd.prog w = .ok (a == d && (b == e && c == f)) w := by
  rw [run_equalIn_struct w 9999 48 _ _ tok_st tok_held]
  have hf := tok_fields
  obtain ⟨f1, f2, f3, hfg⟩ := list3 (l := (Tryd.prog.fieldsOf 48).toList) (by have := congrArg List.length hf; simpa using this)
  rw [hfg] at hf ⊢
  · simp only [List.map_cons, List.map_nil, List.cons.injEq, Prod.mk.injEq, decide_eq_true_eq, and_true] at hf
    obtain ⟨⟨n1, t1, o1⟩, ⟨n2, t2, o2⟩, n3, t3, o3⟩ := hf
    simp only [Op.eqFields, if_pos n1, if_pos n2, if_pos n3, t1, t2, t3, o1, o2, o3]
    have p1 : ∀ x y z : Int, (part 3 #[.int .i64 x, .int .i64 y, .int .u8 z] 0).run Tryd.prog w = .ok (.int .i64 x) w := fun x y z => by kernel_rfl
    have p2 : ∀ x y z : Int, (part 3 #[.int .i64 x, .int .i64 y, .int .u8 z] 1).run Tryd.prog w = .ok (.int .i64 y) w := fun x y z => by kernel_rfl
    have p3 : ∀ x y z : Int, (part 5 #[.int .i64 x, .int .i64 y, .int .u8 z] 2).run Tryd.prog w = .ok (.int .u8 z) w := fun x y z => by kernel_rfl
    have q : ∀ x y : Int, (Op.equalIn 9999 3 (.int .i64 x) (.int .i64 y)).run Tryd.prog w = .ok (x == y) w := fun x y => run_equalIn_int w 9998 3 .i64 .i64 x y Tryd.underlying3
    have q8 : ∀ x y : Int, (Op.equalIn 9999 5 (.int .u8 x) (.int .u8 y)).run Tryd.prog w = .ok (x == y) w := fun x y => run_equalIn_int w 9998 5 .u8 .u8 x y Tryd.underlying5
    simp only [Sem.run_bind, p1, p2, p3, q, q8, Result.andThen_ok]
    by_cases e1 : a = d
    · subst e1
      by_cases e2 : b = e
      · subst e2
        by_cases e3 : c = f
        · subst e3; simp [p1, p2, p3, q, q8]
        · simp [p1, p2, p3, q, q8, e3]
      · simp [p1, p2, p3, q, q8, e2]
    · simp [e1]

theorem tk_neq (w : World) (a b c d e f : Int) : (binOp .neq 48 (.agg #[.int .i64 a, .int .i64 b, .int .u8 c]) (.agg #[.int .i64 d, .int .i64 e, .int .u8 f])).run Tryd.prog w = .ok (.bool (!(a == d && (b == e && c == f)))) w := by
  rw [run_neq_struct, tk_eq]; rfl
theorem tk_eql (w : World) (a b c d e f : Int) : (binOp .eql 48 (.agg #[.int .i64 a, .int .i64 b, .int .u8 c]) (.agg #[.int .i64 d, .int .i64 e, .int .u8 f])).run Tryd.prog w = .ok (.bool (a == d && (b == e && c == f))) w := by
  rw [run_eql_struct, tk_eq]; rfl

def eqK (l1 l2 : List Tk) : Bool := decide (l1 = l2)
theorem eqK_self (l : List Tk) : eqK l l = true := by simp [eqK]
theorem eqB_self (l : List Int) : eqB l l = true := by simp [eqB]

theorem ktake_step {l1 l2 : List Tk} {k : Nat} (h1 : k < l1.length) (hl : l1.length = l2.length) (ht : l1.take k = l2.take k) :
    (l1.getD k tk0 = l2.getD k tk0 → l1.take (k + 1) = l2.take (k + 1)) ∧ (l1.getD k tk0 ≠ l2.getD k tk0 → l1 ≠ l2) := by
  refine ⟨fun h => ?_, fun h e => h (by rw [e])⟩
  rw [tk_snoc h1, tk_snoc (by omega), ht, h]

theorem alike_any (v1 v2 : Value) (l1 l2 : List Tk) (w : World) (h1 : SK w v1 l1) (h2 : SK w v2 l2) :
    Calls Tryd.prog 10 #[v1, v2] w fun e w' => e = .returned (.bool (eqK l1 l2)) ∧ ∃ n, w' = w.drewN n := by
  have H1 := hide h1
  have H2 := hide h2
  obtain ⟨ao1, cap1, rfl, hlc1, hcm1⟩ := h1.open
  obtain ⟨ao2, cap2, rfl, hlc2, hcm2⟩ := h2.open
  clear h1 h2
  by_cases hne : l1.length = l2.length
  case neg =>
    have hd : ((l1.length : Int) == l2.length) = false := by simp; omega
    have hd' : ((l1.length : Int) != l2.length) = true := by simp; omega
    have HE : Hid (eqK l1 l2 = false) := by show _ = _; simp [eqK]; intro h; exact hne (by rw [h])
    clear hne
    go_enter Tryd.func10, Tryd.ntmps10
    go_wp2
    go_ret
    rw [HE.out]
    exact ⟨rfl, 0, rfl⟩
  case pos =>
    have hd' : ((l1.length : Int) != l2.length) = false := by simp; omega
    have HNE : Hid (l1.length = l2.length) := hne
    clear hne
    go_enter Tryd.func10, Tryd.ntmps10
    go_wp2
    go_loopw [5] (fun i wr => ∃ k n : Nat, k ≤ l1.length ∧ i = .int .i64 k ∧ wr = w.drewN n ∧ Hid (l1.take k = l2.take k)) (fun i _ => l1.length - (intOf i).toNat)
    case atStart => exact ⟨0, 0, Nat.zero_le _, rfl, rfl, rfl⟩
    case round =>
      obtain ⟨k, n, hk, rfl, hw, HT⟩ := hrel
      subst hw
      by_cases hlt : k < l1.length
      · have hlt' : (k : Int) < (l1.length : Int) := by omega
        have hlt2 : (k : Int) < (l2.length : Int) := by have := HNE.out; omega
        obtain ⟨b1, o1, rfl, c1, c2, c3⟩ := H1.out.get (w := w.drewN n) (below_drewN (Below.refl _ _) n) hlt
        obtain ⟨b2, o2, rfl, d1, d2, d3⟩ := H2.out.get (w := w.drewN n) (below_drewN (Below.refl _ _) n) (k := k) (by have := HNE.out; omega)
        have HK := hide (ktake_step (k := k) hlt HNE.out HT.out)
        obtain ⟨x, hx⟩ : ∃ x, x = l1.getD k tk0 := ⟨_, rfl⟩
        obtain ⟨y, hy⟩ : ∃ y, y = l2.getD k tk0 := ⟨_, rfl⟩
        rw [← hx] at c1 c2 c3 HK
        rw [← hy] at d1 d2 d3 HK
        clear hx hy
        obtain ⟨xa, xb, xc⟩ := x
        obtain ⟨ya, yb, yc⟩ := y
        simp only at c1 c2 c3 d1 d2 d3
        have c1w : w.cell? ⟨b1, o1 + k * 3, none⟩ = some (.int .i64 xa) := c1
        have c2w : w.cell? ⟨b1, o1 + k * 3 + 1, none⟩ = some (.int .i64 xb) := c2
        have c3w : w.cell? ⟨b1, o1 + k * 3 + 2, none⟩ = some (.int .u8 xc) := c3
        have d1w : w.cell? ⟨b2, o2 + k * 3, none⟩ = some (.int .i64 ya) := d1
        have d2w : w.cell? ⟨b2, o2 + k * 3 + 1, none⟩ = some (.int .i64 yb) := d2
        have d3w : w.cell? ⟨b2, o2 + k * 3 + 2, none⟩ = some (.int .u8 yc) := d3
        have hnq := fun W => tk_neq W xa xb xc ya yb yc
        have hgd := tok_guard
        by_cases hcc : xa = ya ∧ xb = yb ∧ xc = yc
        · have hb : (!(xa == ya && (xb == yb && xc == yc))) = false := by simp [hcc.1, hcc.2.1, hcc.2.2]
          have HK2 := hide (HK.out.1 (by rw [hcc.1, hcc.2.1, hcc.2.2]))
          rw [hb] at hnq
          clear hcc HK
          go_wp2
          go_quiet (fail)
          go_wp2
          go_roundw
          case rel => exact ⟨k + 1, _, by omega, by go_num, by (try simp only [World.drewN_drewN]); rfl, HK2⟩
          case measure => simp [intOf]; omega
        · have hb : (!(xa == ya && (xb == yb && xc == yc))) = true := by
            simp only [Bool.not_eq_true', Bool.and_eq_false_iff, beq_eq_false_iff_ne]
            by_cases q : xa = ya
            · by_cases q2 : xb = yb
              · exact .inr (.inr (fun e => hcc ⟨q, q2, e⟩))
              · exact .inr (.inl q2)
            · exact .inl q
          have HX : Hid (eqK l1 l2 = false) := by show _ = _; simp only [eqK, decide_eq_false_iff_not]; exact HK.out.2 (fun e => hcc (by simpa using e))
          rw [hb] at hnq
          clear hcc HK
          go_wp2
          go_quiet (fail)
          go_wp2
          go_ret
          rw [HX.out]
          exact ⟨rfl, _, by (try simp only [World.drewN_drewN]); rfl⟩
      · obtain rfl : k = l1.length := by omega
        have hlt' : ¬ (l1.length : Int) < (l1.length : Int) := by omega
        have HX : Hid (eqK l1 l2 = true) := by
          show _ = _
          have := HT.out
          rw [List.take_of_length_le (Nat.le_refl _), List.take_of_length_le (by rw [← HNE.out]; exact Nat.le_refl _)] at this
          simp [eqK, this]
        go_wp2
        go_ret
        rw [HX.out]
        exact ⟨rfl, n, rfl⟩

end Go.Proofs.YtkmefeihkmbngaaDoor

namespace Go.Proofs.YtkmefeihkmbngaaDoor
open Go.ChangeShapes Go.WideShapes Go.ChangeAt Go.RowKit Go.Joins Go.Deep

theorem own : ownKnob Tryd.prog.godebug = none := by kernel_rfl
theorem laidOut : laidOutB Tryd.prog = true := by kernel_rfl
theorem bytesByte : Tryd.prog.bytesOf 5 = 1 := by kernel_rfl

theorem byte_wf {n : Int} (h : (Lit.int .u8 n).wf = true) : 0 ≤ n ∧ n < 256 := by
  simp [Lit.wf, IntKind.min, IntKind.max, IntKind.signed, IntKind.bits] at h
  omega

theorem exists_list {α : Type} (P : Nat → α → Prop) : ∀ n, (∀ i, i < n → ∃ a, P i a) → ∃ l : List α, l.length = n ∧ ∀ i a, l[i]? = some a → P i a
  | 0, _ => ⟨[], rfl, fun i a h => by simp at h⟩
  | n + 1, h => by
    obtain ⟨l, hl, hp⟩ := exists_list P n fun i hi => h i (by omega)
    obtain ⟨a, ha⟩ := h n (by omega)
    refine ⟨l ++ [a], by simp [hl], fun i x hx => ?_⟩
    by_cases hi : i < l.length
    · rw [List.getElem?_append_left hi] at hx
      exact hp i x hx
    · rw [List.getElem?_append_right (by omega)] at hx
      have : i - l.length = 0 := by
        by_cases e : i - l.length = 0
        · exact e
        · rw [List.getElem?_eq_none (by simp; omega)] at hx; cases hx
      rw [this] at hx
      simp at hx
      rw [← hx, show i = n by omega]
      exact ha

end Go.Proofs.YtkmefeihkmbngaaDoor

