import Derived.Test.YtegoienjikjhkaaDoorGA29
import Derived.Laws.StructEq
import Derived.Test.YtegoienjikjhkaaDoorGA06
import Derived.Test.YtegoienjikjhkaaDoorGA05
import Derived.Test.YtegoienjikjhkaaDoorGA02
namespace Go.Proofs.YtegoienjikjhkaaDoor
open Go.RowKit Go.Maps
set_option maxRecDepth 20000
set_option linter.unusedVariables false

theorem list2 {α : Type} {l : List α} (h : l.length = 2) : ∃ a b, l = [a, b] := by
  match l, h with
  | [a, b], _ => exact ⟨a, b, rfl⟩

set_option linter.unusedSimpArgs false
theorem run_st : Tryd.prog.underlying 39 = some (.struct (Tryd.prog.fieldsOf 39)) := by kernel_rfl
theorem run_held : Tryd.prog.stoodInHeld 39 = false := by kernel_rfl
theorem run_guard : Tryd.prog.eqGuardType Tryd.prog.depth 39 = false := by kernel_rfl
theorem run_fields : (Tryd.prog.fieldsOf 39).toList.map (fun f => (decide (f.name ≠ "_"), f.type, f.offset)) = [(true, 3, 0), (true, 3, 1)] := by kernel_rfl

theorem rn_eq (w : World) (a b c d : Int) : (Op.equalIn 10000 39 (.agg #[.int .i64 a, .int .i64 b]) (.agg #[.int .i64 c, .int .i64 d])).run Tryd.prog w = .ok (a == c && b == d) w := by
  rw [run_equalIn_struct w 9999 39 _ _ run_st run_held]
  have hf := run_fields
  obtain ⟨f, g, hfg⟩ := list2 (l := (Tryd.prog.fieldsOf 39).toList) (by have := congrArg List.length hf; simpa using this)
  rw [hfg] at hf ⊢
  · simp only [List.map_cons, List.map_nil, List.cons.injEq, Prod.mk.injEq, decide_eq_true_eq, and_true] at hf
    obtain ⟨⟨n1, t1, o1⟩, n2, t2, o2⟩ := hf
    simp only [Op.eqFields, if_pos n1, if_pos n2, t1, t2, o1, o2]
    have p1 : ∀ x y : Int, (part 3 #[.int .i64 x, .int .i64 y] 0).run Tryd.prog w = .ok (.int .i64 x) w := fun x y => by kernel_rfl
    have p2 : ∀ x y : Int, (part 3 #[.int .i64 x, .int .i64 y] 1).run Tryd.prog w = .ok (.int .i64 y) w := fun x y => by kernel_rfl
    have q : ∀ x y : Int, (Op.equalIn 9999 3 (.int .i64 x) (.int .i64 y)).run Tryd.prog w = .ok (x == y) w := fun x y => run_equalIn_int w 9998 3 .i64 .i64 x y Tryd.underlying3
    simp only [Sem.run_bind, p1, p2, q, Result.andThen_ok]
    by_cases e1 : a = c
    · subst e1
      by_cases e2 : b = d
      · subst e2; simp [p1, p2, q]
      · simp [p1, p2, q, e2]
    · simp [e1]

theorem rn_neq (w : World) (a b c d : Int) : (binOp .neq 39 (.agg #[.int .i64 a, .int .i64 b]) (.agg #[.int .i64 c, .int .i64 d])).run Tryd.prog w = .ok (.bool (!(a == c && b == d))) w := by
  rw [run_neq_struct, rn_eq]; rfl
theorem rn_eql (w : World) (a b c d : Int) : (binOp .eql 39 (.agg #[.int .i64 a, .int .i64 b]) (.agg #[.int .i64 c, .int .i64 d])).run Tryd.prog w = .ok (.bool (a == c && b == d)) w := by
  rw [run_eql_struct, rn_eq]; rfl

def eqR (l1 l2 : List Rn) : Bool := decide (l1 = l2)

theorem rtake_step {l1 l2 : List Rn} {k : Nat} (h1 : k < l1.length) (hl : l1.length = l2.length) (ht : l1.take k = l2.take k) :
    (l1.getD k rn0 = l2.getD k rn0 → l1.take (k + 1) = l2.take (k + 1)) ∧ (l1.getD k rn0 ≠ l2.getD k rn0 → l1 ≠ l2) := by
  refine ⟨fun h => ?_, fun h e => h (by rw [e])⟩
  rw [rn_snoc h1, rn_snoc (by omega), ht, h]

theorem alike_any (v1 v2 : Value) (l1 l2 : List Rn) (w : World) (h1 : SR w v1 l1) (h2 : SR w v2 l2) :
    Calls Tryd.prog 14 #[v1, v2] w fun e w' => e = .returned (.bool (eqR l1 l2)) ∧ ∃ n, w' = w.drewN n := by
  have H1 := hide h1
  have H2 := hide h2
  obtain ⟨ao1, cap1, rfl, hlc1, hcm1⟩ := h1.open
  obtain ⟨ao2, cap2, rfl, hlc2, hcm2⟩ := h2.open
  clear h1 h2
  by_cases hne : l1.length = l2.length
  case neg =>
    have hd : ((l1.length : Int) == l2.length) = false := by simp; omega
    have hd' : ((l1.length : Int) != l2.length) = true := by simp; omega
    have HE : Hid (eqR l1 l2 = false) := by show _ = _; simp [eqR]; intro h; exact hne (by rw [h])
    clear hne
    go_enter Tryd.func14, Tryd.ntmps14
    go_wp2
    go_ret
    rw [HE.out]
    exact ⟨rfl, 0, rfl⟩
  case pos =>
    have hd' : ((l1.length : Int) != l2.length) = false := by simp; omega
    have HNE : Hid (l1.length = l2.length) := hne
    clear hne
    go_enter Tryd.func14, Tryd.ntmps14
    go_wp2
    go_loopw [5] (fun i wr => ∃ k n : Nat, k ≤ l1.length ∧ i = .int .i64 k ∧ wr = w.drewN n ∧ Hid (l1.take k = l2.take k)) (fun i _ => l1.length - (intOf i).toNat)
    case atStart => exact ⟨0, 0, Nat.zero_le _, rfl, rfl, rfl⟩
    case round =>
      obtain ⟨k, n, hk, rfl, hw, HT⟩ := hrel
      subst hw
      by_cases hlt : k < l1.length
      · have hlt' : (k : Int) < (l1.length : Int) := by omega
        have hlt2 : (k : Int) < (l2.length : Int) := by have := HNE.out; omega
        obtain ⟨b1, o1, rfl, c1, c2⟩ := H1.out.get (w := w.drewN n) (below_drewN (Below.refl _ _) n) hlt
        obtain ⟨b2, o2, rfl, d1, d2⟩ := H2.out.get (w := w.drewN n) (below_drewN (Below.refl _ _) n) (k := k) (by have := HNE.out; omega)
        have HK := hide (rtake_step (k := k) hlt HNE.out HT.out)
        obtain ⟨x, hx⟩ : ∃ x, x = l1.getD k rn0 := ⟨_, rfl⟩
        obtain ⟨y, hy⟩ : ∃ y, y = l2.getD k rn0 := ⟨_, rfl⟩
        rw [← hx] at c1 c2 HK
        rw [← hy] at d1 d2 HK
        clear hx hy
        obtain ⟨xa, xb⟩ := x
        obtain ⟨ya, yb⟩ := y
        simp only at c1 c2 d1 d2
        have c1w : w.cell? ⟨b1, o1 + k * 2, none⟩ = some (.int .i64 xa) := c1
        have c2w : w.cell? ⟨b1, o1 + k * 2 + 1, none⟩ = some (.int .i64 xb) := c2
        have d1w : w.cell? ⟨b2, o2 + k * 2, none⟩ = some (.int .i64 ya) := d1
        have d2w : w.cell? ⟨b2, o2 + k * 2 + 1, none⟩ = some (.int .i64 yb) := d2
        have hnq := fun W => rn_neq W xa xb ya yb
        have hgd := run_guard
        by_cases hcc : xa = ya ∧ xb = yb
        · have hb : (!(xa == ya && xb == yb)) = false := by simp [hcc.1, hcc.2]
          have HK2 := hide (HK.out.1 (by rw [hcc.1, hcc.2]))
          rw [hb] at hnq
          clear hcc HK
          go_wp2
          go_quiet (fail)
          go_wp2
          go_roundw
          case rel => exact ⟨k + 1, _, by omega, by go_num, by (try simp only [World.drewN_drewN]); rfl, HK2⟩
          case measure => simp [intOf]; omega
        · have hb : (!(xa == ya && xb == yb)) = true := by
            simp only [Bool.not_eq_true', Bool.and_eq_false_iff, beq_eq_false_iff_ne]
            by_cases q : xa = ya
            · exact .inr (fun e => hcc ⟨q, e⟩)
            · exact .inl q
          have HX : Hid (eqR l1 l2 = false) := by show _ = _; simp only [eqR, decide_eq_false_iff_not]; exact HK.out.2 (fun e => hcc (by simpa using e))
          rw [hb] at hnq
          clear hcc HK
          go_wp2
          go_quiet (fail)
          go_wp2
          go_ret
          rw [HX.out]
          exact ⟨rfl, _, by (try simp only [World.drewN_drewN]); rfl⟩
      · obtain rfl : k = l1.length := by omega
        have hlt' : ¬ (l1.length : Int) < (l1.length : Int) := by omega
        have HX : Hid (eqR l1 l2 = true) := by
          show _ = _
          have := HT.out
          rw [List.take_of_length_le (Nat.le_refl _), List.take_of_length_le (by rw [← HNE.out]; exact Nat.le_refl _)] at this
          simp [eqR, this]
        go_wp2
        go_ret
        rw [HX.out]
        exact ⟨rfl, n, rfl⟩

end Go.Proofs.YtegoienjikjhkaaDoor

namespace Go.Proofs.YtegoienjikjhkaaDoor
open Go.RowKit Go.Maps
set_option linter.unusedVariables false

/-- The first n lengths of the small code, as bits. -/
def hdS (C : List Int) : Nat → List Int
  | 0 => []
  | n + 1 => hdS C n ++ bts (C.getD (zor.getD n 0).toNat 0) 3
/-- The runs, as bits: the word of each ('wb' of the code's own texts, by its definition), and how many above the least. -/
def hdR (C : List Int) : List Rn → List Int
  | [] => []
  | r :: R => (bts (wd C r.1.toNat) (ln C r.1.toNat)).reverse ++ bts (r.2 - lst r.1) (frt r.1) ++ hdR C R
/-- The header, as bits. -/
def hdB (L D C : List Int) (R : List Rn) : List Int := bts ((L.length : Int) - 257) 5 ++ bts ((D.length : Int) - 1) 5 ++ bts ((wrt C : Int) - 4) 4 ++ hdS C (wrt C) ++ hdR C R

theorem hdS_len (C : List Int) (n : Nat) : (hdS C n).length = 3 * n := by
  induction n with
  | zero => rfl
  | succ n ih => simp only [hdS, List.length_append, ih, length_bts]; omega

theorem hdR_len {C : List Int} (hC : ∀ s, 0 ≤ C.getD s 0) (R : List Rn) : ((hdR C R).length : Int) = rsz C R := by
  induction R with
  | nil => rfl
  | cons r R ih =>
    have h : ((ln C r.1.toNat : Nat) : Int) = C.getD r.1.toNat 0 := by unfold ln; have := hC r.1.toNat; omega
    simp only [hdR, rsz, List.length_append, List.length_reverse, length_bts]
    omega

/-- The header takes Size bits. -/
theorem hdB_len {L D C : List Int} {R : List Rn} (hC : ∀ s, 0 ≤ C.getD s 0) : ((hdB L D C R).length : Int) = hsz C R := by
  have h1 := hdS_len C (wrt C)
  have h2 := hdR_len hC R
  unfold hdB hsz
  simp only [List.length_append, length_bts]
  omega

theorem hdR_snoc (C : List Int) (R : List Rn) (r : Rn) : hdR C (R ++ [r]) = hdR C R ++ ((bts (wd C r.1.toNat) (ln C r.1.toNat)).reverse ++ bts (r.2 - lst r.1) (frt r.1)) := by
  induction R with
  | nil => simp [hdR]
  | cons a R ih => simp only [List.cons_append, hdR, ih, List.append_assoc]
end Go.Proofs.YtegoienjikjhkaaDoor

namespace Go.Proofs.YtegoienjikjhkaaDoor
open Go.RowKit Go.Maps
set_option maxRecDepth 20000

theorem cloneI_any (v : Value) (l : List Int) (w : World) (h : SI w v l) (hr : l.length ≤ 288) :
    Calls Tryd.prog 38 #[v] w fun e w' => ∃ a c, e = .returned (.slice a l.length c) ∧ OI w' w.heap.size (.slice a l.length c) l ∧ Below w.heap.size w w' := by
  have HS := hide h
  obtain ⟨ao, cap, rfl, hlc, hcm⟩ := h.open
  have he := fun (w : World) (a : Option Addr) (n c : Nat) => Lib.run_eql_slice_nil (P := Tryd.prog) w 22 3 a n c 0 0 Tryd.underlying22
  cases ao with
  | none =>
    obtain ⟨ao', cap', e1, e2, e3, e4, _⟩ := h
    simp only [Value.slice.injEq] at e1
    obtain ⟨rfl, -, rfl⟩ := e1
    obtain rfl : cap = 0 := e4 rfl
    obtain rfl : l = [] := List.eq_nil_of_length_eq_zero (by omega)
    clear HS e2 e3 e4
    go_enter Tryd.func38, Tryd.ntmps38
    go_wp2
    go_ret
    exact ⟨_, _, rfl, World.ownsRow_nil _ _ _ _, Below.refl _ _⟩
  | some x =>
    clear h
    go_enter Tryd.func38, Tryd.ntmps38
    have O1 : Hid (OI (w.alloc (.cells #[] 3)) w.heap.size (.slice (some ⟨w.heap.size, 0, none⟩) 0 0) []) := World.ownsRow_made w #[] 0 (Nat.le_refl _) (Nat.zero_le _) rfl
    have HSR : Hid (Src Tryd.prog 1 22 (.slice (some x) l.length cap) l.length (l.map (Value.int .i64)) (w.alloc (.cells #[] 3))) := (HS.out.below ((Below.refl _ _).alloc (Nat.le_refl _) _)).src
    go_wp2_with (at_builtin; refine wpList_appI rfl _ _ 22 rfl w.heap.size _ _ [] l rfl O1.out rfl HSR.out (by simp; omega) (by simp) ?_)
    intro v' w1 hown hgrow
    have HF : Hid (OI w1 w.heap.size v' l) := hown
    have hb : Below w.heap.size w w1 := ((Below.refl _ _).alloc (Nat.le_refl _) _).grown hgrow.by (by simp) (fun k hk => by simp [Value.ownBlock] at hk; omega)
    have HB := hide hb
    clear hown hgrow hb
    go_wp2
    go_ret
    obtain ⟨a, c, hv⟩ := HF.out.shape
    rw [hv] at HF ⊢
    exact ⟨a, c, rfl, HF.out, HB.out⟩

def bkE (l : List Int) : Int := if chkE l ≠ 0 then chkE l else if shp l = 2 then 52 else if shp l = 3 then 51 else 0

theorem bkE_zero {l : List Int} (h : bkE l = 0) : Lens l ∧ shp l ≠ 2 ∧ shp l ≠ 3 := by
  unfold bkE at h
  by_cases h0 : chkE l = 0
  · rw [if_neg (by simp [h0])] at h
    by_cases h2 : shp l = 2
    · rw [if_pos h2] at h; omega
    · rw [if_neg h2] at h
      by_cases h3 : shp l = 3
      · rw [if_pos h3] at h; omega
      · exact ⟨(chkE_zero h0).1, h2, h3⟩
  · rw [if_pos h0] at h; exact absurd h h0

/-- A book, or none. -/
def BookOf (w w' : World) (l : List Int) (vl vw : Value) : Prop := (bkE l ≠ 0 ∧ vl = .slice none 0 0 ∧ vw = .slice none 0 0) ∨ (bkE l = 0 ∧ OI w' w.heap.size vl l ∧ OI w' w.heap.size vw (wds l))

theorem ret_book {fn : Func} {R : Ending → World → Prop} {a : Act} {w : World} {p q : Tmp} (hres : fn.results = #[.cell p 121, .tmp q]) (g : Nat) (vl vw : Value) (hp : a.tmps.getD p undef = .pointer (some ⟨g, 0, none⟩))
    (hg : w.heap[g]? = some (.cells #[vl, vw] 121 (0, 0))) (hd : a.defers = []) (hR : R (.returned (.tuple #[.agg #[vl, vw], a.tmps.getD q undef])) w) : bodyPost Tryd.prog fn R .ret a w := by
  refine bodyPost_ret (v := .tuple #[.agg #[vl, vw], a.tmps.getD q undef]) ?_ hd hR
  have hl := run_loadVar_row (P := Tryd.prog) w g 121 121 #[vl, vw] (0, 0) _ hg Tryd.underlying121 rfl (by kernel_rfl)
  have hp' : a.tmps[p]?.getD undef = .pointer (some ⟨g, 0, none⟩) := by simpa using hp
  simp [results, hres, hp', asAddr, hl]

theorem wpList_storeB {ops : Array Oper} {rest : List Oper} {a : Act} {w : World} {Q : Exit → Act → World → Prop} {dst : Option Tmp} {x y : Operand} {ty : TypeId} {pos : String} {after : Array Edge} (g : Nat) (vl vw x0 x1 : Value)
    (hx : a.eval x = .pointer (some ⟨g, 0, none⟩)) (hy : a.eval y = .agg #[vl, vw]) (hg : w.heap[g]? = some (.cells #[x0, x1] 121 (0, 0))) (h1 : vl.oneCell' = true) (h2 : vw.oneCell' = true) (h : wpList Tryd.prog ops Q rest (a.put dst undef) (w.setRow g #[vl, vw])) :
    wpList Tryd.prog ops Q ({ dst := dst, op := .store 121 x y, type := ty, pos := pos, after := after, guard := none } :: rest) a w :=
  wpList_store_row rfl 121 x y rfl g #[vl, vw] hx hy 121 #[x0, x1] hg (by kernel_rfl) rfl (by simp [h1, h2]) h

theorem below_setRow {w w' : World} {B g : Nat} {cs : Array Value} (h : Below B w w') (hg : B ≤ g) : Below B w (w'.setRow g cs) :=
  ⟨h.os, h.tape, h.output, by rw [size_setRow]; exact h.size, fun k hk => (setRow_other w' g k cs (by omega)).trans (h.block k hk)⟩

def Made (w : World) (l : List Int) (e : Ending) (w' : World) : Prop := ∃ vl vw, e = .returned (.tuple #[.agg #[vl, vw], .int .i64 (bkE l)]) ∧ BookOf w w' l vl vw ∧ Below w.heap.size w w'

theorem newBook_any (v : Value) (l : List Int) (w : World) (h : SI w v l) :
    Calls Tryd.prog 70 #[v] w fun e w' => Made w l e w' := by
  have HS := hide h
  obtain ⟨ao, cap, rfl, hlc, hcm⟩ := h.open
  clear h
  have HA : Hid ((w.alloc (.cells #[.slice none 0 0, .slice none 0 0] 121)).heap[w.heap.size]? = some (.cells #[.slice none 0 0, .slice none 0 0] 121 (0, 0))) := heap_alloc_new w _
  have hBA : Below w.heap.size w (w.alloc (.cells #[.slice none 0 0, .slice none 0 0] 121)) := (Below.refl _ _).alloc (Nat.le_refl _) _
  have HBA := hide hBA
  have HSA := hide (HS.out.below hBA)
  clear hBA
  go_enter Tryd.func70, Tryd.ntmps70
  go_wp2_with fail
  refine (check_any _ l _ HSA.out).mono ?_
  rintro e w1 ⟨rfl, hb1⟩
  have HA1 : Hid (w1.heap[w.heap.size]? = some (.cells #[.slice none 0 0, .slice none 0 0] 121 (0, 0))) := (hb1.block _ (by simp)).trans HA.out
  have HB1 : Hid (Below w.heap.size w w1) := HBA.out.trans (hb1.mono (by simp))
  have HS1 := hide (HSA.out.below hb1)
  have hw1 : w.heap.size < w1.heap.size := by have := hb1.size; simp at this; omega
  clear hb1
  have HEND : Hid (w1.heap[w.heap.size]? = some (.cells #[.slice none 0 0, .slice none 0 0] 121 (0, 0)) → (w1.setRow w.heap.size #[.slice none 0 0, .slice none 0 0]).heap[w.heap.size]? = some (.cells #[.slice none 0 0, .slice none 0 0] 121 (0, 0))) := fun h => setRow_heap w1 _ _ _ _ _ h
  by_cases h0 : chkE l = 0
  case neg =>
    have h1 : (chkE l == 0) = false := by simpa using h0
    have HE : Hid (bkE l = chkE l) := if_pos h0
    have HNE : Hid (bkE l ≠ 0) := by show _ ≠ _; rw [HE.out]; exact h0
    obtain ⟨q, HQ⟩ : ∃ q, Hid (q = chkE l) := ⟨_, rfl⟩
    obtain ⟨r, HR⟩ : ∃ q, Hid (q = chkS l) := ⟨_, rfl⟩
    rw [← HQ.out] at h0 h1 HE
    rw [← HQ.out, ← HR.out]
    go_wp2_with ((with_reducible refine wpList_storeB w.heap.size (.slice none 0 0) (.slice none 0 0) _ _ ?hx ?hy HA1.out ?h1 ?h2 ?_); (case hx => rfl); (case hy => rfl); (case h1 => rfl); (case h2 => rfl))
    (try simp only [Exit.inBlock, Exit.then])
    refine ret_book (p := 2) (q := 3) ?r1 w.heap.size (.slice none 0 0) (.slice none 0 0) ?r2 (HEND.out HA1.out) ?r3 ?_
    case r1 => rfl
    case r2 => rfl
    case r3 => rfl
    exact ⟨_, _, by rw [HE.out]; rfl, .inl ⟨HNE.out, rfl, rfl⟩, below_setRow HB1.out (Nat.le_refl _)⟩
  obtain ⟨hl, hs⟩ := chkE_zero h0
  have HL := hide hl
  have h288 := hl.1
  have HR := hide hs
  have HQ := hide h0
  rw [HQ.out, HR.out]
  clear hl hs h0
  by_cases h2 : shp l = 2
  · have HE : Hid (bkE l = 52) := by show _ = _; unfold bkE; rw [if_neg (by have := HQ.out; simp [this]), if_pos h2]
    have HNE : Hid (bkE l ≠ 0) := by show _ ≠ _; rw [HE.out]; decide
    rw [h2]
    go_wp2_with ((with_reducible refine wpList_storeB w.heap.size (.slice none 0 0) (.slice none 0 0) _ _ ?hx ?hy HA1.out ?h1 ?h2 ?_); (case hx => rfl); (case hy => rfl); (case h1 => rfl); (case h2 => rfl))
    (try simp only [Exit.inBlock, Exit.then])
    refine ret_book (p := 2) (q := 3) ?r1 w.heap.size (.slice none 0 0) (.slice none 0 0) ?r2 (HEND.out HA1.out) ?r3 ?_
    case r1 => rfl
    case r2 => rfl
    case r3 => rfl
    exact ⟨_, _, by rw [HE.out]; rfl, .inl ⟨HNE.out, rfl, rfl⟩, below_setRow HB1.out (Nat.le_refl _)⟩
  by_cases h3 : shp l = 3
  · have HE : Hid (bkE l = 51) := by show _ = _; unfold bkE; rw [if_neg (by have := HQ.out; simp [this]), if_neg h2, if_pos h3]
    have HNE : Hid (bkE l ≠ 0) := by show _ ≠ _; rw [HE.out]; decide
    rw [h3]
    clear h2
    go_wp2_with ((with_reducible refine wpList_storeB w.heap.size (.slice none 0 0) (.slice none 0 0) _ _ ?hx ?hy HA1.out ?h1 ?h2 ?_); (case hx => rfl); (case hy => rfl); (case h1 => rfl); (case h2 => rfl))
    (try simp only [Exit.inBlock, Exit.then])
    refine ret_book (p := 2) (q := 3) ?r1 w.heap.size (.slice none 0 0) (.slice none 0 0) ?r2 (HEND.out HA1.out) ?r3 ?_
    case r1 => rfl
    case r2 => rfl
    case r3 => rfl
    exact ⟨_, _, by rw [HE.out]; rfl, .inl ⟨HNE.out, rfl, rfl⟩, below_setRow HB1.out (Nat.le_refl _)⟩
  have HE : Hid (bkE l = 0) := by show _ = _; unfold bkE; rw [if_neg (by have := HQ.out; simp [this]), if_neg h2, if_neg h3]
  obtain ⟨r, HR2⟩ : ∃ q, Hid (q = shp l) := ⟨_, rfl⟩
  rw [← HR2.out] at h2 h3 ⊢
  have h2' : (r == 2) = false := by simpa using h2
  have h3' : (r == 3) = false := by simpa using h3
  clear HEND
  go_wp2_with fail
  refine (cloneI_any _ l _ HS1.out h288).mono ?_
  rintro e w2 ⟨a2, c2, rfl, ho2, hb2⟩
  have HA2 : Hid (w2.heap[w.heap.size]? = some (.cells #[.slice none 0 0, .slice none 0 0] 121 (0, 0))) := (hb2.block _ hw1).trans HA1.out
  have HB2 : Hid (Below w.heap.size w w2) := HB1.out.trans (hb2.mono (by omega))
  have HS2 := hide (HS1.out.below hb2)
  have HO2 : Hid (OI w2 (w.heap.size + 1) (.slice a2 l.length c2) l) := ho2.base (by omega)
  have hw2 : w.heap.size < w2.heap.size := by have := hb2.size; omega
  clear ho2 hb2
  go_wp2_with fail
  refine (count_any _ l _ HS2.out HL.out).mono ?_
  rintro e w3 ⟨rfl, hb3⟩
  have HA3 : Hid (w3.heap[w.heap.size]? = some (.cells #[.slice none 0 0, .slice none 0 0] 121 (0, 0))) := (hb3.block _ hw2).trans HA2.out
  have HB3 : Hid (Below w.heap.size w w3) := HB2.out.trans (hb3.mono (by omega))
  have HS3 := hide (HS2.out.below hb3)
  have HO3 := hide (HO2.out.below hb3 (Nat.le_refl _))
  have hw3 : w.heap.size < w3.heap.size := by have := hb3.size; omega
  clear hb3
  go_wp2_with fail
  refine (firsts_any l _ HL.out).mono ?_
  rintro e w4 ⟨rfl, hb4⟩
  have HA4 : Hid (w4.heap[w.heap.size]? = some (.cells #[.slice none 0 0, .slice none 0 0] 121 (0, 0))) := (hb4.block _ hw3).trans HA3.out
  have HB4 : Hid (Below w.heap.size w w4) := HB3.out.trans (hb4.mono (by omega))
  have HS4 := hide (HS3.out.below hb4)
  have HO4 := hide (HO3.out.below hb4 (Nat.le_refl _))
  have hw4 : w.heap.size < w4.heap.size := by have := hb4.size; omega
  clear hb4
  go_wp2_with fail
  refine (words_any _ l _ HS4.out HL.out).mono ?_
  rintro e w5 ⟨a5, c5, rfl, ho5, hb5⟩
  have HA5 : Hid (w5.heap[w.heap.size]? = some (.cells #[.slice none 0 0, .slice none 0 0] 121 (0, 0))) := (hb5.block _ hw4).trans HA4.out
  have HB5 : Hid (Below w.heap.size w w5) := HB4.out.trans (hb5.mono (by omega))
  have HO5 := hide (HO4.out.below hb5 (Nat.le_refl _))
  have HP5 : Hid (OI w5 (w.heap.size + 1) (.slice a5 l.length c5) (wds l)) := ho5.base (by omega)
  clear ho5 hb5
  have HEND : Hid ((w5.setRow w.heap.size #[.slice a2 l.length c2, .slice a5 l.length c5]).heap[w.heap.size]? = some (.cells #[.slice a2 l.length c2, .slice a5 l.length c5] 121 (0, 0))) := setRow_heap w5 _ _ _ _ _ HA5.out
  go_wp2_with ((with_reducible refine wpList_storeB w.heap.size (.slice a2 l.length c2) (.slice a5 l.length c5) _ _ ?hx ?hy HA5.out ?h1 ?h2 ?_); (case hx => rfl); (case hy => rfl); (case h1 => rfl); (case h2 => rfl))
  (try simp only [Exit.inBlock, Exit.then])
  refine ret_book (p := 2) (q := 3) ?r1 w.heap.size (.slice a2 l.length c2) (.slice a5 l.length c5) ?r2 HEND.out ?r3 ?_
  case r1 => rfl
  case r2 => rfl
  case r3 => rfl
  refine ⟨_, _, by rw [HE.out]; rfl, .inr ⟨HE.out, ?_, ?_⟩, below_setRow HB5.out (Nat.le_refl _)⟩
  · refine (HO5.out.move fun k hk => setRow_other w5 _ k _ ?_).base (by omega)
    have := (HO5.out.lt k hk).1; omega
  · refine (HP5.out.move fun k hk => setRow_other w5 _ k _ ?_).base (by omega)
    have := (HP5.out.lt k hk).1; omega
end Go.Proofs.YtegoienjikjhkaaDoor

