import Derived.Test.YtkmefeihkmbngaaDoorG09Krg
import Derived.Test.YtkmefeihkmbngaaDoorG14Lfw
import Derived.Test.YtkmefeihkmbngaaDoorG08Usd
import Derived.Test.YtkmefeihkmbngaaDoorG06QHx
import Derived.Test.YtkmefeihkmbngaaDoorG07QHops
import Derived.Shelf.Abstract
import Derived.Shelf.RegionOpen
import Derived.OwnWalkIn
import Derived.TacticsInMore
import Derived.LoopNIn
import Derived.LoopIn
namespace Go.Proofs.YtkmefeihkmbngaaDoor
open Go.RowKit Go.Maps
set_option maxRecDepth 20000
set_option linter.unusedVariables false

def srl (l : List Int) : List Nat := (us6 l).mergeSort fun s t => decide (l.getD s 0 < l.getD t 0 ∨ l.getD s 0 = l.getD t 0 ∧ s ≤ t)

theorem srl_srt (l : List Int) : Srt l (us6 l) (srl l) := by
  have hp := List.mergeSort_perm (us6 l) fun s t => decide (l.getD s 0 < l.getD t 0 ∨ l.getD s 0 = l.getD t 0 ∧ s ≤ t)
  refine ⟨hp, ?_⟩
  have h := List.pairwise_mergeSort (le := fun s t => decide (l.getD s 0 < l.getD t 0 ∨ l.getD s 0 = l.getD t 0 ∧ s ≤ t)) (fun a b c h1 h2 => by simp only [decide_eq_true_eq] at *; omega) (fun a b => by simp only [Bool.or_eq_true, decide_eq_true_eq]; omega) (us6 l)
  have hn : (srl l).Nodup := hp.nodup_iff.2 (us_nodup l)
  refine (h.and hn).imp fun {a b} hab => ?_
  obtain ⟨h1, h2⟩ := hab
  simp only [decide_eq_true_eq] at h1
  unfold Lf
  omega

theorem srt_eq {l : List Int} {S T T' : List Nat} (h : Srt l S T) (h' : Srt l S T') : T = T' :=
  (h.perm.trans h'.perm.symm).eq_of_pairwise (le := Lf l) (fun a b _ _ h1 h2 => by unfold Lf at h1 h2; omega) h.rise h'.rise

theorem srl_len (l : List Int) : (srl l).length = (us6 l).length := (srl_srt l).perm.length_eq
theorem srl_mem {l : List Int} {s : Nat} : s ∈ srl l ↔ s ∈ us6 l := (srl_srt l).perm.mem_iff
theorem srl_nodup (l : List Int) : (srl l).Nodup := (srl_srt l).perm.nodup_iff.2 (us_nodup l)

def lws (l : List Int) : List Nat := (srl l).map (fq l)

theorem lws_len (l : List Int) : (lws l).length = (us6 l).length := by simp [lws, srl_len]

theorem lws_rise {l : List Int} (h : ∀ i, 0 ≤ l.getD i 0) : Rise (lws l) := by
  unfold lws Rise
  rw [List.pairwise_map]
  refine (srl_srt l).rise.imp fun {a b} hab => ?_
  unfold Lf at hab
  have := h a
  have := h b
  unfold fq
  omega

def lm (l : List Int) (L s : Nat) : Nat := if (us6 l).length = 1 then (if s ∈ us6 l then 1 else 0) else if s ∈ us6 l then ct (sel (lws l) L (2 * (us6 l).length - 2)) ((srl l).idxOf s) else 0

def lmt (l : List Int) (L : Nat) : List Int := (List.range l.length).map fun s => (lm l L s : Int)

def lmE (l : List Int) (lim : Int) : Int := if 288 < l.length ∨ lim < 1 ∨ 15 < lim then 1 else if bnb l 4294967296 = false then 61 else if 2 ^ lim.toNat < (us6 l).length then 60 else 0
def lmL (l : List Int) (lim : Int) : List Int := if lmE l lim = 0 then lmt l lim.toNat else []

theorem lmt_len (l : List Int) (L : Nat) : (lmt l L).length = l.length := by simp [lmt]

theorem lm_out {l : List Int} {L s : Nat} (h : s ∉ us6 l) : lm l L s = 0 := by
  unfold lm
  rw [if_neg h, if_neg h]
  split <;> rfl

theorem lmt_spr (l : List Int) (L : Nat) : spr l.length (srl l) (fun s => (lm l L s : Int)) = lmt l L := by
  unfold spr lmt
  refine List.map_congr_left fun s _ => ?_
  by_cases h : s ∈ srl l
  · rw [if_pos h]
  · rw [if_neg h, lm_out (fun q => h (srl_mem.2 q))]; rfl

theorem lmt_few {l : List Int} {L : Nat} (h : (us6 l).length < 2) : spr l.length (us6 l) (fun _ => 1) = lmt l L := by
  unfold spr lmt
  refine List.map_congr_left fun s _ => ?_
  by_cases hs : s ∈ us6 l
  · have h1 : (us6 l).length = 1 := by have := List.length_pos_of_mem hs; omega
    rw [if_pos hs]
    unfold lm
    rw [if_pos h1, if_pos hs]
    rfl
  · rw [if_neg hs, lm_out hs]; rfl

theorem lm_at {l : List Int} {L i : Nat} (h2 : 2 ≤ (us6 l).length) (hi : i < (srl l).length) : lm l L ((srl l)[i]) = ct (sel (lws l) L (2 * (us6 l).length - 2)) i := by
  unfold lm
  rw [if_neg (by omega), if_pos (srl_mem.1 (List.getElem_mem hi)), (srl_nodup l).idxOf_getElem i hi]

theorem lm_pack {l : List Int} {L : Nat} (h2 : 2 ≤ (us6 l).length) : hls (us6 l).length (ct (sel (lws l) L (2 * (us6 l).length - 2))) = (srl l).map fun s => (lm l L s : Int) := by
  apply List.ext_getElem
  · simp [hls, srl_len]
  · intro i h1 h3
    rw [List.length_map] at h3
    simp only [hls, List.getElem_map, List.getElem_range]
    rw [lm_at h2 h3]
end Go.Proofs.YtkmefeihkmbngaaDoor

namespace Go.Proofs.YtkmefeihkmbngaaDoor
open Go.RowKit Go.Maps
set_option maxRecDepth 20000
set_option linter.unusedVariables false

def cmr : List Nat → List Nat → List (Nat × Bool)
  | [], p => p.map (·, false)
  | a :: w, [] => (a :: w).map (·, true)
  | a :: w, b :: p => if a ≤ b then (a, true) :: cmr w (b :: p) else (b, false) :: cmr (a :: w) p
termination_by w p => w.length + p.length

theorem cmr_nil (w : List Nat) : cmr w [] = w.map (·, true) := by cases w <;> simp [cmr]

theorem cmr_fst (w p : List Nat) : (cmr w p).map (·.1) = mrg w p := by
  induction w, p using cmr.induct with
  | case1 p => simp [cmr, mrg, Function.comp_def]
  | case2 a w => simp [cmr, mrg, Function.comp_def]
  | case3 a w b p h ih => simp only [cmr, mrg, if_pos h, List.map_cons, ih]
  | case4 a w b p h ih => simp only [cmr, mrg, if_neg h, List.map_cons, ih]

theorem cmr_len (w p : List Nat) : (cmr w p).length = w.length + p.length := by
  have := congrArg List.length (cmr_fst w p)
  rw [List.length_map, mrg_len] at this
  exact this

def lvs (R : List (Nat × Bool)) (m : Nat) : Nat := ((R.take m).filter (·.2)).length

theorem cmr_cnt (w p : List Nat) (m : Nat) : lvs (cmr w p) m = cnt w p m := by
  induction w, p using cmr.induct generalizing m with
  | case1 p =>
    have e : ∀ (p : List Nat) (m : Nat), lvs (p.map (·, false)) m = 0 := fun p m => by
      unfold lvs
      rw [List.length_eq_zero_iff, List.filter_eq_nil_iff]
      intro x hx
      have := List.mem_of_mem_take hx
      obtain ⟨y, _, rfl⟩ := List.mem_map.1 this
      simp
    simp only [cmr, e]
    cases m <;> simp [cnt]
  | case2 a w =>
    have e : ∀ (w : List Nat) (m : Nat), lvs (w.map (·, true)) m = cnt w [] m := fun w => by
      induction w with
      | nil => intro m; cases m <;> simp [lvs, cnt]
      | cons a w ih =>
        intro m
        cases m with
        | zero => simp [lvs, cnt]
        | succ m =>
          have := ih m
          simp only [lvs, List.map_cons, List.take_succ_cons, cnt] at this ⊢
          rw [List.filter_cons_of_pos rfl, List.length_cons, this]
    simp only [cmr]
    exact e (a :: w) m
  | case3 a w b p h ih =>
    cases m with
    | zero => simp [lvs, cnt]
    | succ m =>
      have := ih m
      simp only [cmr, if_pos h, lvs, List.take_succ_cons, cnt] at this ⊢
      rw [List.filter_cons_of_pos rfl, List.length_cons, this]
  | case4 a w b p h ih =>
    cases m with
    | zero => simp [lvs, cnt]
    | succ m =>
      have := ih m
      simp only [cmr, if_neg h, lvs, List.take_succ_cons, cnt] at this ⊢
      rw [List.filter_cons_of_neg (by simp), this]

def fc (R : List (Nat × Bool)) : List Value := R.flatMap fun p => [.int .i64 (p.1 : Int), .bool p.2]

theorem fc_get {R : List (Nat × Bool)} {i : Nat} (h : i < R.length) : (fc R)[i * 2]? = some (.int .i64 ((R.getD i (0, false)).1 : Int)) ∧ (fc R)[i * 2 + 1]? = some (.bool (R.getD i (0, false)).2) := by
  induction R generalizing i with
  | nil => simp at h
  | cons a r ih =>
    cases i with
    | zero => exact ⟨rfl, rfl⟩
    | succ i =>
      have := ih (i := i) (by simpa using h)
      have e : fc (a :: r) = .int .i64 (a.1 : Int) :: .bool a.2 :: fc r := rfl
      rw [e, show (i + 1) * 2 = i * 2 + 1 + 1 by omega, show i * 2 + 1 + 1 + 1 = (i * 2 + 1) + 1 + 1 by omega]
      simp only [List.getElem?_cons_succ]
      exact this

theorem fc_snoc (R : List (Nat × Bool)) (p : Nat × Bool) : fc (R ++ [p]) = fc R ++ [.int .i64 (p.1 : Int), .bool p.2] := by simp [fc]

def OC (w : World) (base : Nat) (v : Value) (R : List (Nat × Bool)) : Prop := w.ownsRow base 100 2 v R.length (fc R)

theorem OC.lt {w : World} {base : Nat} {v : Value} {R : List (Nat × Bool)} (h : OC w base v R) : ∀ k, v.ownBlock = some k → base ≤ k ∧ k < w.heap.size := World.ownsRow.lt h

theorem OC.move {w w' : World} {base : Nat} {v : Value} {R : List (Nat × Bool)} (h : OC w base v R) (hb : ∀ k, v.ownBlock = some k → w'.heap[k]? = w.heap[k]?) : OC w' base v R := by
  refine ⟨h.1, ?_⟩
  rcases h.2 with h2 | ⟨g, cap, cur, rfl, h1, h2, r⟩
  · exact .inl h2
  · exact .inr ⟨g, cap, cur, rfl, h1, (hb g rfl).trans h2, r⟩

theorem OC.base {w : World} {base base' : Nat} {v : Value} {R : List (Nat × Bool)} (h : OC w base v R) (hb : base' ≤ base) : OC w base' v R := by
  refine ⟨h.1, ?_⟩
  rcases h.2 with h2 | ⟨g, cap, cur, rfl, h1, r⟩
  · exact .inl h2
  · exact .inr ⟨g, cap, cur, rfl, Nat.le_trans hb h1, r⟩

theorem OC.below {w w' : World} {base B : Nat} {v : Value} {R : List (Nat × Bool)} (h : OC w base v R) (hb : Below B w w') (hB : w.heap.size ≤ B) : OC w' base v R :=
  h.move fun k hk => hb.block k (Nat.lt_of_lt_of_le (h.lt k hk).2 hB)

theorem OC.alloc {w : World} {base : Nat} {v : Value} {R : List (Nat × Bool)} (h : OC w base v R) (o : Obj) : OC (w.alloc o) base v R := h.move fun k hk => Below.heap_alloc w o k (h.lt k hk).2

theorem OC.shape {w : World} {base : Nat} {v : Value} {R : List (Nat × Bool)} (h : OC w base v R) : ∃ a c, v = .slice a R.length c ∧ R.length ≤ c ∧ c ≤ 9223372036854775807 := by
  rcases h.2 with ⟨rfl, h0⟩ | ⟨g, cap, cur, rfl, _, _, h3, h4, _⟩
  · exact ⟨none, 0, by rw [h0], by omega, by omega⟩
  · unfold maxLen at h4; exact ⟨_, _, rfl, h3, by omega⟩

theorem OC.get {w : World} {base : Nat} {v : Value} {R : List (Nat × Bool)} (h : OC w base v R) {i : Nat} (hi : i < R.length) : ∃ g c, v = .slice (some ⟨g, 0, none⟩) R.length c ∧ w.cell? ⟨g, i * 2, none⟩ = some (.int .i64 ((R.getD i (0, false)).1 : Int)) ∧ w.cell? ⟨g, i * 2 + 1, none⟩ = some (.bool (R.getD i (0, false)).2) := by
  have hc := @World.ownsRow.cells _ _ _ _ _ _ _ h
  rcases h.2 with ⟨rfl, h0⟩ | ⟨g, cap, cur, rfl, _⟩
  · omega
  · obtain ⟨g1, g2⟩ := fc_get hi
    have c1 := hc (g := g) rfl _ _ g1
    have c2 := hc (g := g) rfl _ _ g2
    rw [Addr.add_lit, Nat.zero_add] at c1 c2
    exact ⟨g, cap, rfl, c1, c2⟩

theorem infoCoin : (Tryd.prog.info? 100).map (fun i => (i.zero, i.size, i.bytes)) = some (some (.agg #[.int .i64 0, .bool false]), 2, 16) := by kernel_rfl

theorem wpCoin {w : World} {ops : Array Oper} {rest : List Oper} {o : Oper} {a : Act} {Q : Exit → Act → World → Prop} (hgd : o.guard = none) (s x : Operand)
    (ho : o.op = .call { callee := .builtin .append, args := #[s, x], argTypes := #[97, 97] }) (base : Nat) (v : Value) (R : List (Nat × Bool)) (x1 : Nat) (X1 : Int) (b1 : Bool) (hX1 : X1 = (x1 : Int)) (hs : a.eval s = v) (hown : OC w base v R)
    (c : Nat) (hx : a.eval x = .slice (some ⟨w.heap.size, 0, none⟩) 1 c) (hn : R.length ≤ 1000000) (hbase : base ≤ w.heap.size)
    (h : ∀ v' w', OC w' base v' (R ++ [(x1, b1)]) → (w.alloc (.cells #[.int .i64 X1, .bool b1] 100)).grownBy w' v.ownBlock → wpList Tryd.prog ops Q rest (a.put o.dst v') w') :
    wpList Tryd.prog ops Q (o :: rest) a (w.alloc (.cells #[.int .i64 X1, .bool b1] 100)) := by
  obtain ⟨i0, hi0, hz0, hz1, hz2⟩ := info_parts infoCoin
  subst hX1
  refine wpList_append_own_at _ hgd s x 97 ho base 100 i0 _ 2 16 Tryd.underlying97 hi0 hz0 hz1 hz2 rfl (by omega) v R.length (fc R) hs (hown.alloc _) ⟨w.heap.size, 0, none⟩ 1 c [.int .i64 (x1 : Int), .bool b1] hx rfl (World.news_of_block (cs := #[.int .i64 (x1 : Int), .bool b1]) (t := 100) (fr := (0, 0)) (heap_alloc_new w _))
    (fun u hu => by
      rcases List.mem_cons.1 hu with rfl | hu
      · rfl
      · rw [List.mem_singleton.1 hu]; rfl) (by unfold maxLen; omega) (by omega) (by simp; omega) fun v' w' h1 h2 _ _ => h v' w' ?_ h2
  unfold OC
  rw [fc_snoc, List.length_append]
  exact h1

theorem SI.tail {w : World} {b o n cap : Nat} {x : Int} {r : List Int} (h : SI w (.slice (some ⟨b, o, none⟩) n cap) (x :: r)) : SI w (.slice (some ⟨b, o + 1, none⟩) (n - 1) (cap - 1)) r := by
  obtain ⟨ao, c', he, h1, h2, h3, h4⟩ := h
  simp only [Value.slice.injEq] at he
  obtain ⟨rfl, rfl, rfl⟩ := he
  refine ⟨some ⟨b, o + 1, none⟩, cap - 1, by simp, by simp at h1; omega, by omega, (fun e => by cases e), fun y hy i hi => ?_⟩
  cases hy
  have := h4 _ rfl (i + 1) (by simp; omega)
  rw [Addr.add_lit] at this ⊢
  rw [show o + 1 + i = o + (i + 1) by omega, this]
  simp

theorem SI.tail' {w : World} {b o n cap : Nat} {x : Int} {r : List Int} (h : SI w (.slice (some ⟨b, o, none⟩) n cap) (x :: r)) : SI w (.slice (if cap = 1 then some ⟨b, o, none⟩ else some ⟨b, o + 1, none⟩) (n - 1) (cap - 1)) r := by
  by_cases c : cap = 1
  · rw [if_pos c]
    obtain ⟨ao, c', he, h1, h2, h3, h4⟩ := h
    simp only [Value.slice.injEq] at he
    obtain ⟨rfl, rfl, rfl⟩ := he
    have hr : r = [] := by
      simp at h1
      exact List.eq_nil_of_length_eq_zero (by omega)
    subst hr
    exact ⟨_, _, rfl, by simp, by omega, (fun e => by cases e), fun y hy i hi => by simp at hi⟩
  · rw [if_neg c]
    exact h.tail

end Go.Proofs.YtkmefeihkmbngaaDoor

namespace Go.Proofs.YtkmefeihkmbngaaDoor
open Go.RowKit Go.Maps
set_option maxRecDepth 20000
set_option linter.unusedVariables false

theorem wpList_mkC {w : World} {ops : Array Oper} {rest : List Oper} {o : Oper} {a : Act} {Q : Exit → Act → World → Prop} (hg : o.guard = none) (l c : Operand) (hop : o.op = Op.makeSlice 97 l c)
    (kl kc : IntKind) (C : Int) (m : Nat) (hl : a.eval l = .int kl 0) (hc : a.eval c = .int kc C) (hC : C = (m : Int)) (b2 : m ≤ 1000000)
    (hK : ∀ w', OC w' w.heap.size (.slice (some ⟨w.heap.size, 0, none⟩) 0 m) [] → Below w.heap.size w w' → wpList Tryd.prog ops Q rest (a.put o.dst (.slice (some ⟨w.heap.size, 0, none⟩) 0 m)) w') :
    wpList Tryd.prog ops Q (o :: rest) a w := by
  obtain ⟨i0, hi, hz0, hz1, hz2⟩ := info_parts infoCoin
  refine wpList_plain hg fun K hK' => ?_
  have hr := run_make (P := Tryd.prog) w 97 100 i0 (.agg #[.int .i64 0, .bool false]) Tryd.underlying97 hi hz0 kl kc (0 : Int) (m : Int) (by omega) (by omega) (by rw [hz2]; omega) (by omega)
  subst hC
  unfold Oper.wp
  simp [execOp, hop, hl, hc, hr, Result.andThen]
  refine hK' _ _ (hK _ ?_ ((Below.refl _ _).alloc (Nat.le_refl _) _))
  refine ⟨rfl, .inr ⟨w.heap.size, m, _, rfl, Nat.le_refl _, heap_alloc_new w _, Nat.zero_le _, by unfold maxLen; omega, ?_, by simp [fc]⟩⟩
  rw [hz1]
  simp [madeCells, Value.cells]

theorem grow_coin {w wr w3 : World} {u : Value} {R : List (Nat × Bool)} {o : Obj} (hB : Below w.heap.size w wr) (hO : OC wr w.heap.size u R) (hg : (wr.alloc o).grownBy w3 u.ownBlock) : Below w.heap.size w w3 :=
  (hB.alloc hB.size _).grown hg (by have := hB.size; simp; omega) (fun j hj => by have := hO.lt j hj; omega)

theorem drop_gd {l : List Nat} {k : Nat} (h : k < l.length) : l.drop k = l.getD k 0 :: l.drop (k + 1) := by
  rw [List.drop_eq_getElem_cons h, List.getD_eq_getElem?_getD, List.getElem?_eq_getElem h]
  rfl

theorem ci_drop (l : List Nat) (k : Nat) : (ci l).drop k = ci (l.drop k) := by unfold ci; rw [List.map_drop]
theorem ci_cons (a : Nat) (l : List Nat) : ci (a :: l) = (a : Int) :: ci l := rfl

set_option maxHeartbeats 2000000 in
theorem merge_any (vl vp : Value) (lw pk : List Nat) (w : World) (hl : SI w vl (ci lw)) (hp : SI w vp (ci pk)) (h1 : lw.length ≤ 288) (h2 : pk.length ≤ 600) :
    Calls Tryd.prog 72 #[vl, vp] w fun e w' => ∃ v', e = .returned v' ∧ OC w' w.heap.size v' (cmr lw pk) ∧ Below w.heap.size w w' := by
  have HL := hide hl
  have HP := hide hp
  obtain ⟨al, cl, rfl, hlc, hcm⟩ := hl.open
  obtain ⟨ap, cp, rfl, hlp, hcp⟩ := hp.open
  rw [ci_len] at hlc hlp HL HP ⊢
  rw [ci_len]
  have HP2 : Hid (SI w (.slice ap (ci pk).length cp) (ci pk)) := by rw [ci_len]; exact HP.out
  clear hl hp
  have e1 : IntKind.i64.wrap ((lw.length : Int) + pk.length) = ((lw.length + pk.length : Nat) : Int) := by rw [IntKind.wrap_i64]; omega
  obtain ⟨nl, hnl⟩ : ∃ n, n = lw.length := ⟨_, rfl⟩
  obtain ⟨np, hnp⟩ : ∃ n, n = pk.length := ⟨_, rfl⟩
  rw [← hnl, ← hnp] at e1
  rw [← hnl] at hlc h1 HL ⊢
  rw [← hnp] at hlp h2 HP ⊢
  have HNL := hide hnl
  have HNP := hide hnp
  clear hnl hnp
  go_enter Tryd.func72, Tryd.ntmps72
  go_wp2_with (at_make; refine wpList_mkC rfl _ _ rfl _ _ _ (nl + np) rfl rfl (by first | rfl | omega) (by omega) ?_)
  intro w1 hoc1 hb1
  have HO1 := hide hoc1
  have HB1 := hide hb1
  clear hoc1 hb1 e1
  go_wp2
  go_loopw [0, 5, 18] (fun v0 vr vj wr => ∃ (i j : Nat) (R : List (Nat × Bool)), i ≤ nl ∧ j ≤ np ∧ vj = .int .i64 j ∧ R.length ≤ 1000 ∧ Hid (SI w v0 (ci (lw.drop i))) ∧ Hid (OC wr w.heap.size vr R) ∧ Hid (Below w.heap.size w wr) ∧ Hid (R.length + (nl - i) + (np - j) = nl + np ∧ R ++ cmr (lw.drop i) (pk.drop j) = cmr lw pk)) (fun _ _ vj _ => np - (intOf vj).toNat)
  case atStart => exact ⟨0, 0, [], Nat.zero_le _, Nat.zero_le _, rfl, by simp, by rw [List.drop_zero]; exact HL, HO1, HB1, by simp, by simp⟩
  case round =>
    obtain ⟨i, j, R, hi, hj, rfl, hR, HS0, HOR, HBR, HEQ⟩ := hrel
    by_cases hlt : j < np
    · have hlt' : (j : Int) < (np : Int) := by omega
      have hjk : j < pk.length := by rw [← HNP.out]; exact hlt
      obtain ⟨b, o, rfl, hc⟩ := HP2.out.get HBR.out (k := j) (by rw [ci_len]; exact hjk)
      rw [ci_get] at hc
      have hdj : pk.drop j = pk.getD j 0 :: pk.drop (j + 1) := by rw [List.drop_eq_getElem_cons hjk]; simp [hjk]
      rw [hdj] at HEQ
      obtain ⟨q, hq⟩ : ∃ q, q = pk.getD j 0 := ⟨_, rfl⟩
      rw [← hq] at hc HEQ
      clear hq hdj
      obtain ⟨ao, co, hv0, hz1, hz2⟩ := HS0.out.open
      rw [ci_len, List.length_drop, ← HNL.out] at hv0 hz1
      have HS0' := HS0
      subst hv0
      go_wp2
      go_loopw [0, 5] (fun v0 vr wr => ∃ (i : Nat) (R : List (Nat × Bool)), i ≤ nl ∧ R.length ≤ 1000 ∧ Hid (SI w v0 (ci (lw.drop i))) ∧ Hid (OC wr w.heap.size vr R) ∧ Hid (Below w.heap.size w wr) ∧ Hid (R.length + (nl - i) + (np - j) = nl + np ∧ R ++ cmr (lw.drop i) (q :: pk.drop (j + 1)) = cmr lw pk)) (fun v0 _ _ => match v0 with | .slice _ n _ => n | _ => 0)
      case atStart => exact ⟨i, R, hi, hR, HS0', HOR, HBR, HEQ⟩
      case round =>
        clear HS0 HOR HBR HEQ HS0' hz1 hi hR
        obtain ⟨i, R, hi, hR, HS0, HOR, HBR, HEQ⟩ := hrel
        obtain ⟨ao2, co2, hv0, hz1, hz2b⟩ := HS0.out.open
        rw [ci_len, List.length_drop, ← HNL.out] at hv0 hz1
        subst hv0
        obtain ⟨ar, cr, hvr, hr1, hr2⟩ := HOR.out.shape
        subst hvr
        have hBw := HBR.out.size
        by_cases hin : i < nl
        · have hin' : (0 : Int) < ((nl - i : Nat) : Int) := by omega
          have hil : i < lw.length := by rw [← HNL.out]; exact hin
          have hdi : lw.drop i = lw.getD i 0 :: lw.drop (i + 1) := by rw [List.drop_eq_getElem_cons hil]; simp [hil]
          have HSI : Hid (SI w (.slice ao2 (ci (lw.drop i)).length co2) (ci (lw.drop i))) := by rw [ci_len, List.length_drop, ← HNL.out]; exact HS0.out
          obtain ⟨b3, o3, rfl, hc3⟩ := HSI.out.get HBR.out (k := 0) (by rw [ci_len, List.length_drop]; omega)
          rw [hdi] at HS0 HEQ hc3
          obtain ⟨a, ha⟩ : ∃ a, a = lw.getD i 0 := ⟨_, rfl⟩
          rw [← ha] at HS0 HEQ hc3
          rw [ci_cons] at HS0
          have hc3' : wr.cell? ⟨b3, o3, none⟩ = some (.int .i64 (a : Int)) := hc3
          have HDI := hide hdi
          rw [← ha] at HDI
          clear ha hdi hc3 HSI
          obtain ⟨n0, hn0⟩ : ∃ n0, n0 = nl - i := ⟨_, rfl⟩
          rw [← hn0] at hin' HS0 hz1 ⊢
          have hn01 : 1 ≤ n0 ∧ n0 + i ≤ nl ∧ nl ≤ n0 + i := by omega
          clear hn0
          by_cases hle : a ≤ q
          · have hle' : (a : Int) ≤ (q : Int) := by omega
            have HTL := hide HS0.out.tail'
            have HEQ2 : Hid ((R ++ [(a, true)]).length + (nl - (i + 1)) + (np - j) = nl + np ∧ (R ++ [(a, true)]) ++ cmr (lw.drop (i + 1)) (q :: pk.drop (j + 1)) = cmr lw pk) := by
              obtain ⟨q1, q2⟩ := HEQ.out
              refine ⟨by rw [List.length_append]; simp; omega, ?_⟩
              rw [← q2]
              simp only [cmr, if_pos hle, List.append_assoc, List.cons_append, List.nil_append]
            have hRl := HEQ.out.1
            go_wp2_with (at_builtin; refine wpCoin rfl _ _ rfl w.heap.size (.slice ar R.length cr) R a _ true rfl rfl HOR.out _ rfl (by omega) (by omega) ?_)
            intro v3 w3 ho3 hg3
            have HO3 := hide ho3
            have HB3 := hide (grow_coin HBR.out HOR.out hg3)
            clear ho3 hg3
            go_wp2
            go_roundw
            case rel => exact ⟨i + 1, R ++ [(a, true)], by omega, by rw [List.length_append]; simp; omega, HTL, HO3, HB3, HEQ2⟩
            case measure => simp; omega
          · have hle' : ¬ (a : Int) ≤ (q : Int) := by omega
            have HEQ2 : Hid ((R ++ [(q, false)]).length + (nl - i) + (np - (j + 1)) = nl + np ∧ (R ++ [(q, false)]) ++ cmr (lw.drop i) (pk.drop (j + 1)) = cmr lw pk) := by
              obtain ⟨q1, q2⟩ := HEQ.out
              refine ⟨by rw [List.length_append]; simp; omega, ?_⟩
              rw [← q2, HDI.out]
              simp only [cmr, if_neg hle, List.append_assoc, List.cons_append, List.nil_append]
            have hRl := HEQ.out.1
            have HSF : Hid (SI w (.slice (some ⟨b3, o3, none⟩) n0 co2) (ci (lw.drop i))) := by rw [HDI.out]; exact HS0.out
            go_wp2_with (at_builtin; refine wpCoin rfl _ _ rfl w.heap.size (.slice ar R.length cr) R q _ false rfl rfl HOR.out _ rfl (by omega) (by omega) ?_)
            intro v3 w3 ho3 hg3
            have HO3 := hide ho3
            have HB3 := hide (grow_coin HBR.out HOR.out hg3)
            clear ho3 hg3
            go_wp2
            go_roundw
            case rel => exact ⟨i, j + 1, R ++ [(q, false)], hi, by omega, by go_num, by rw [List.length_append]; simp; omega, HSF, HO3, HB3, HEQ2⟩
            case measure => simp [intOf]; omega
        · obtain rfl : i = nl := by omega
          have hin' : ¬ (0 : Int) < ((i - i : Nat) : Int) := by omega
          have hdi : lw.drop i = [] := List.drop_of_length_le (by rw [← HNL.out]; exact Nat.le_refl _)
          have HEQ2 : Hid ((R ++ [(q, false)]).length + (i - i) + (np - (j + 1)) = i + np ∧ (R ++ [(q, false)]) ++ cmr (lw.drop i) (pk.drop (j + 1)) = cmr lw pk) := by
            obtain ⟨q1, q2⟩ := HEQ.out
            refine ⟨by rw [List.length_append]; simp; omega, ?_⟩
            rw [← q2, hdi]
            simp only [cmr, List.map_cons, List.append_assoc, List.cons_append, List.nil_append]
          have hRl := HEQ.out.1
          have HSF := HS0
          obtain ⟨n0, hn0⟩ : ∃ n0, n0 = i - i := ⟨_, rfl⟩
          have hn00 : ¬ (0 : Int) < (n0 : Int) := by omega
          have hd00 : decide ((0 : Int) < (n0 : Int)) = false := decide_eq_false hn00
          rw [← hn0] at HSF hz1 ⊢
          clear hdi hin' hn0
          go_wp2_with (at_builtin; refine wpCoin rfl _ _ rfl w.heap.size (.slice ar R.length cr) R q _ false rfl rfl HOR.out _ rfl (by omega) (by omega) ?_)
          intro v3 w3 ho3 hg3
          have HO3 := hide ho3
          have HB3 := hide (grow_coin HBR.out HOR.out hg3)
          clear ho3 hg3
          go_wp2
          go_roundw
          case rel => exact ⟨i, j + 1, R ++ [(q, false)], Nat.le_refl _, by omega, by go_num, by rw [List.length_append]; simp; omega, HSF, HO3, HB3, HEQ2⟩
          case measure => simp [intOf]; omega
    · obtain rfl : j = np := by omega
      have hlt' : ¬ (j : Int) < (j : Int) := by omega
      have hdj : pk.drop j = [] := List.drop_of_length_le (by rw [← HNP.out]; exact Nat.le_refl _)
      rw [hdj] at HEQ
      obtain ⟨ao, co, hv0, hz1, hz2⟩ := HS0.out.open
      have hll : (ci (lw.drop i)).length = nl - i := by rw [ci_len, List.length_drop, ← HNL.out]
      rw [hll] at hv0 hz1
      obtain ⟨n0, hn0⟩ : ∃ n0, n0 = nl - i := ⟨_, rfl⟩
      rw [← hn0] at hv0 hz1 hll
      subst hv0
      have HSI : Hid (SI w (.slice ao (ci (lw.drop i)).length co) (ci (lw.drop i))) := by rw [hll]; exact HS0.out
      have HN0 := hide hn0
      have hn01 : n0 + i ≤ nl ∧ nl ≤ n0 + i := by omega
      have HLL := hide hll
      clear hdj hn0 hll
      go_wp2
      go_loopw [5, 49] (fun vr vk wr => ∃ (k : Nat) (R : List (Nat × Bool)), k ≤ n0 ∧ vk = .int .i64 k ∧ R.length ≤ 1000 ∧ Hid (OC wr w.heap.size vr R) ∧ Hid (Below w.heap.size w wr) ∧ Hid (R.length + (n0 - k) = nl + j ∧ R ++ ((lw.drop i).drop k).map (·, true) = cmr lw pk)) (fun _ vk _ => n0 - (intOf vk).toNat)
      case atStart =>
        obtain ⟨q1, q2⟩ := HEQ.out
        rw [cmr_nil] at q2
        exact ⟨0, R, Nat.zero_le _, rfl, hR, HOR, HBR, by have := HN0.out; omega, by rw [List.drop_zero]; exact q2⟩
      case round =>
        clear HOR HBR HEQ hR
        obtain ⟨k, R, hk, rfl, hR, HOR, HBR, HEQ⟩ := hrel
        obtain ⟨ar, cr, hvr, hr1, hr2⟩ := HOR.out.shape
        subst hvr
        by_cases hlt3 : k < n0
        · have hlt3' : (k : Int) < (n0 : Int) := by omega
          have hkl : k < (lw.drop i).length := by have := HLL.out; rw [ci_len] at this; omega
          obtain ⟨b3, o3, rfl, hc3⟩ := HSI.out.get HBR.out (k := k) (by rw [ci_len]; exact hkl)
          rw [ci_get] at hc3
          have hdk : (lw.drop i).drop k = (lw.drop i).getD k 0 :: (lw.drop i).drop (k + 1) := drop_gd hkl
          obtain ⟨a, ha⟩ : ∃ a, a = (lw.drop i).getD k 0 := ⟨_, rfl⟩
          rw [← ha] at hc3 hdk
          have HEQ2 : Hid ((R ++ [(a, true)]).length + (n0 - (k + 1)) = nl + j ∧ (R ++ [(a, true)]) ++ ((lw.drop i).drop (k + 1)).map (·, true) = cmr lw pk) := by
            obtain ⟨q1, q2⟩ := HEQ.out
            refine ⟨by rw [List.length_append]; simp; omega, ?_⟩
            rw [← q2, hdk]
            simp only [List.map_cons, List.append_assoc, List.cons_append, List.nil_append]
          have hRl := HEQ.out.1
          clear ha hdk hkl
          have hBw := HBR.out.size
          go_wp2_with (at_builtin; refine wpCoin rfl _ _ rfl w.heap.size (.slice ar R.length cr) R a _ true rfl rfl HOR.out _ rfl (by omega) (by omega) ?_)
          intro v3 w3 ho3 hg3
          have HO3 := hide ho3
          have HB3 := hide (grow_coin HBR.out HOR.out hg3)
          clear ho3 hg3
          go_wp2
          go_roundw
          case rel => exact ⟨k + 1, R ++ [(a, true)], by omega, by go_num, by rw [List.length_append]; simp; omega, HO3, HB3, HEQ2⟩
          case measure => simp [intOf]; omega
        · obtain rfl : k = n0 := by omega
          have hlt3' : ¬ (k : Int) < (k : Int) := by omega
          have HF : Hid (OC wr w.heap.size (.slice ar R.length cr) (cmr lw pk)) := by
            obtain ⟨q1, q2⟩ := HEQ.out
            rw [List.drop_of_length_le (by have := HLL.out; rw [ci_len] at this; omega), List.map_nil, List.append_nil] at q2
            rw [← q2]
            exact HOR.out
          clear HEQ
          go_wp2
          go_ret
          exact ⟨_, rfl, HF.out, HBR.out⟩
end Go.Proofs.YtkmefeihkmbngaaDoor

namespace Go.Proofs.YtkmefeihkmbngaaDoor
open Go.RowKit Go.Maps
set_option maxRecDepth 20000
set_option linter.unusedVariables false

def wts (R : List (Nat × Bool)) : List Nat := R.map (·.1)

theorem wts_get {R : List (Nat × Bool)} {i : Nat} : (wts R).getD i 0 = (R.getD i (0, false)).1 := by
  simp only [wts, List.getD_eq_getElem?_getD, List.getElem?_map]
  cases R[i]? <;> rfl

def pko (l : List Nat) (k : Nat) : List Int := ci ((pks l).take k) ++ List.replicate (l.length / 2 - k) 0

theorem pko_len (l : List Nat) {k : Nat} (h : k ≤ l.length / 2) : (pko l k).length = l.length / 2 := by
  unfold pko
  rw [List.length_append, ci_len, List.length_take, pks_len, List.length_replicate]
  omega

theorem pko_step (l : List Nat) {k : Nat} (h : k < l.length / 2) : (pko l k).set k (((pks l).getD k 0 : Nat) : Int) = pko l (k + 1) := by
  unfold pko
  have hk : k < (pks l).length := by rw [pks_len]; exact h
  obtain ⟨m, hm⟩ : ∃ m, l.length / 2 - k = m + 1 := ⟨l.length / 2 - k - 1, by omega⟩
  have hm2 : l.length / 2 - (k + 1) = m := by omega
  have hl : (ci ((pks l).take k)).length = k := by rw [ci_len, List.length_take]; omega
  have e0 : ci ((pks l).take (k + 1)) = ci ((pks l).take k) ++ [(((pks l).getD k 0 : Nat) : Int)] := by
    unfold ci
    rw [List.take_succ_eq_append_getElem hk, List.map_append, List.getD_eq_getElem?_getD, List.getElem?_eq_getElem hk]
    rfl
  rw [hm, hm2, e0]
  conv => lhs; arg 2; rw [← hl]
  rw [List.set_append_right _ _ (Nat.le_refl _), Nat.sub_self, List.replicate_succ, List.set_cons_zero, List.append_assoc]
  rfl

set_option maxHeartbeats 1000000 in
theorem pairs_any (v : Value) (R : List (Nat × Bool)) (w : World) (b0 : Nat) (h : OC w b0 v R) (h2 : R.length ≤ 900) (hw : ∀ x ∈ wts R, x ≤ 1000000000000000) :
    Calls Tryd.prog 73 #[v] w fun e w' => ∃ a, e = .returned (.slice a (R.length / 2) (R.length / 2)) ∧ OI w' w.heap.size (.slice a (R.length / 2) (R.length / 2)) (ci (pks (wts R))) ∧ Below w.heap.size w w' := by
  have HO := hide h
  obtain ⟨ar, cr, rfl, hr1, hr2⟩ := h.shape
  have hwl : (wts R).length = R.length := by simp [wts]
  have HWL := hide hwl
  have HW := hide hw
  have hdv : ((R.length : Int) / 2) = ((R.length / 2 : Nat) : Int) := by omega
  have htd : Int.tdiv (R.length : Int) 2 = ((R.length / 2 : Nat) : Int) := by rw [Int.tdiv_eq_ediv_of_nonneg (by omega)]; omega
  obtain ⟨n, hn⟩ : ∃ n, n = R.length / 2 := ⟨_, rfl⟩
  rw [← hn] at hdv htd ⊢
  have HN := hide hn
  have hn2 : 2 * n ≤ R.length := by omega
  clear h hw hwl hn
  go_enter Tryd.func73, Tryd.ntmps73
  go_wp2_with (at_make; refine wpList_mkI rfl _ _ rfl _ _ _ _ n n rfl rfl (by first | rfl | omega) (by first | rfl | omega) (Nat.le_refl _) (by omega) ?_)
  intro w1 hg hb1
  have HO1 : Hid (OI w1 w.heap.size (.slice (some ⟨w.heap.size, 0, none⟩) n n) (pko (wts R) 0)) := by
    show OI _ _ _ _
    have e : pko (wts R) 0 = List.replicate n 0 := by unfold pko; rw [List.take_zero, HWL.out, ← HN.out]; rfl
    rw [e]; exact mk_oi hg (by omega)
  have HB1 := hide hb1
  clear hg hb1
  go_wp2
  go_loopw [11] (fun i wr => ∃ k : Nat, k ≤ n ∧ i = .int .i64 k ∧ Hid (OI wr w.heap.size (.slice (some ⟨w.heap.size, 0, none⟩) n n) (pko (wts R) k)) ∧ Hid (Below w.heap.size w wr)) (fun i _ => n - (intOf i).toNat)
  case atStart => exact ⟨0, Nat.zero_le _, rfl, HO1, HB1⟩
  case round =>
    obtain ⟨k, hk, rfl, HOK, HB⟩ := hrel
    by_cases hlt : k < n
    · have hlt' : (k : Int) < (n : Int) := by omega
      have HR := hide (HO.out.below HB.out (Nat.le_refl _))
      obtain ⟨g, c, hv, c1, _⟩ := HR.out.get (i := 2 * k) (by omega)
      obtain ⟨g', c', hv', d1, _⟩ := HR.out.get (i := 2 * k + 1) (by omega)
      rw [hv] at hv'
      simp only [Value.slice.injEq, Option.some.injEq, Addr.mk.injEq, and_true] at hv hv'
      obtain ⟨rfl, -, rfl⟩ := hv
      obtain ⟨rfl, -⟩ := hv'
      have HST := hide (pko_step (wts R) (k := k) (by rw [HWL.out, ← HN.out]; exact hlt))
      have hpg := pks_get (wts R) k (by rw [HWL.out]; omega)
      rw [wts_get, wts_get] at hpg
      have hx := HW.out _ (show (R.getD (2 * k) (0, false)).1 ∈ wts R by rw [← wts_get]; exact getD_mem6 (by rw [HWL.out]; omega))
      have hy := HW.out _ (show (R.getD (2 * k + 1) (0, false)).1 ∈ wts R by rw [← wts_get]; exact getD_mem6 (by rw [HWL.out]; omega))
      obtain ⟨x, hxe⟩ : ∃ x, x = (R.getD (2 * k) (0, false)).1 := ⟨_, rfl⟩
      obtain ⟨y, hye⟩ : ∃ x, x = (R.getD (2 * k + 1) (0, false)).1 := ⟨_, rfl⟩
      rw [← hxe] at c1 hpg hx
      rw [← hye] at d1 hpg hy
      rw [hpg] at HST
      obtain ⟨⟨u, hu⟩, hfz, ho⟩ := HOK.out.putg (k := k) (by rw [pko_len _ (by rw [HWL.out, ← HN.out]; exact hk), HWL.out, ← HN.out]; exact hlt) ((x + y : Nat) : Int)
      have HNX : Hid (OI ((wr.setCell ⟨w.heap.size, k, none⟩ (.int .i64 ((x + y : Nat) : Int)))).drew w.heap.size (.slice (some ⟨w.heap.size, 0, none⟩) n n) (pko (wts R) (k + 1))) := by
        rw [← HST.out]; exact ho.move fun _ _ => rfl
      have HBN : Hid (Below w.heap.size w ((wr.setCell ⟨w.heap.size, k, none⟩ (.int .i64 ((x + y : Nat) : Int)))).drew) := by
        have := HB.out.setCell (p := ⟨w.heap.size, k, none⟩) (Nat.le_refl w.heap.size) (.int .i64 ((x + y : Nat) : Int))
        exact this.drew
      obtain ⟨t, ht⟩ : ∃ t : Nat, t = 2 * k := ⟨_, rfl⟩
      rw [← ht] at c1 d1
      have w1e : (2 : Int) * (k : Int) = (t : Int) := by omega
      have w1f : IntKind.i64.wrap ((2 : Int) * (k : Int)) = (t : Int) := by rw [IntKind.wrap_i64]; omega
      obtain ⟨t1, ht1⟩ : ∃ t1 : Nat, t1 = t + 1 := ⟨_, rfl⟩
      rw [← ht1] at d1
      have w2e : (t : Int) + 1 = (t1 : Int) := by omega
      have w2f : IntKind.i64.wrap ((t : Int) + 1) = (t1 : Int) := by rw [IntKind.wrap_i64]; omega
      have htL : (t : Int) < (R.length : Int) := by omega
      have ht1L : (t1 : Int) < (R.length : Int) := by omega
      have w3f : IntKind.i64.wrap ((x : Int) + (y : Int)) = ((x + y : Nat) : Int) := by rw [IntKind.wrap_i64]; omega
      obtain ⟨z, hz⟩ : ∃ z : Nat, z = x + y := ⟨_, rfl⟩
      rw [← hz] at w3f HNX HBN
      clear hpg hxe hye ho ht ht1 hz
      go_wp2
      go_region
      go_wp2
      go_roundw
      case rel => exact ⟨k + 1, by omega, by go_num, HNX, HBN⟩
      case measure => simp [intOf]; omega
    · obtain rfl : k = n := by omega
      have hlt' : ¬ (k : Int) < (k : Int) := by omega
      have HF : Hid (OI wr w.heap.size (.slice (some ⟨w.heap.size, 0, none⟩) k k) (ci (pks (wts R)))) := by
        have := HOK.out
        unfold pko at this
        rwa [List.take_of_length_le (by rw [pks_len, HWL.out, ← HN.out]; exact Nat.le_refl _), HWL.out, ← HN.out, Nat.sub_self, List.replicate_zero, List.append_nil] at this
      go_wp2
      go_ret
      exact ⟨_, rfl, HF.out, HB.out⟩
end Go.Proofs.YtkmefeihkmbngaaDoor

namespace Go.Proofs.YtkmefeihkmbngaaDoor
open Go.RowKit Go.Maps
set_option maxRecDepth 20000
set_option linter.unusedVariables false

def crw (ws : List Nat) : Nat → List (Nat × Bool)
  | 0 => cmr ws []
  | k + 1 => cmr ws (pks (wts (crw ws k)))

theorem crw_row (ws : List Nat) (k : Nat) : wts (crw ws k) = row ws (k + 1) := by
  induction k with
  | zero => unfold wts crw; rw [cmr_fst]; rfl
  | succ k ih =>
    have e : crw ws (k + 1) = cmr ws (pks (row ws (k + 1))) := by show cmr ws (pks (wts (crw ws k))) = _; rw [ih]
    rw [e]
    unfold wts
    rw [cmr_fst]
    rfl

theorem crw_len (ws : List Nat) (k : Nat) : (crw ws k).length ≤ 2 * ws.length := by
  induction k with
  | zero => show (cmr ws []).length ≤ _; rw [cmr_len]; simp; omega
  | succ k ih =>
    show (cmr ws (pks (wts (crw ws k)))).length ≤ _
    rw [cmr_len, pks_len]
    have : (wts (crw ws k)).length = (crw ws k).length := by simp [wts]
    omega

theorem crw_le (ws : List Nat) (b : Nat) (h : ∀ x ∈ ws, x ≤ b) (k : Nat) : ∀ x ∈ wts (crw ws k), x ≤ b * 2 ^ k := by
  induction k with
  | zero =>
    intro x hx
    rw [crw_row] at hx
    rcases mrg_mem hx with q | q
    · have := h x q; omega
    · simp [row, pks] at q
  | succ k ih =>
    intro x hx
    rw [crw_row] at hx
    have hp : b * 2 ^ (k + 1) = b * 2 ^ k * 2 := by rw [Nat.pow_succ, Nat.mul_assoc]
    have h1 : b ≤ b * 2 ^ k := Nat.le_mul_of_pos_right _ (Nat.two_pow_pos k)
    rcases mrg_mem hx with q | q
    · have := h x q; omega
    · obtain ⟨a, c, ha, hc, rfl⟩ := pks_mem q
      rw [← crw_row] at ha hc
      have := ih a ha
      have := ih c hc
      omega

structure ORs (w : World) (base : Nat) (v : Value) (ws : List Nat) (K : Nat) : Prop where
  ex : ∃ vals : List Value, vals.length = K ∧ w.ownsRow base 97 1 v K vals ∧ ∀ k, k < K → OC w 0 (vals.getD k undef) (crw ws k)

theorem row_lt' {w : World} {base : Nat} {e : TypeId} {size : Nat} {v : Value} {n : Nat} {xs : List Value} (h : w.ownsRow base e size v n xs) : ∀ k, v.ownBlock = some k → base ≤ k ∧ k < w.heap.size := World.ownsRow.lt h

theorem row_move' {w w' : World} {base : Nat} {e : TypeId} {size : Nat} {v : Value} {n : Nat} {xs : List Value} (h : w.ownsRow base e size v n xs) (hb : ∀ k, v.ownBlock = some k → w'.heap[k]? = w.heap[k]?) : w'.ownsRow base e size v n xs := by
  refine ⟨h.1, ?_⟩
  rcases h.2 with h2 | ⟨g, cap, cur, rfl, h1, h2, r⟩
  · exact .inl h2
  · exact .inr ⟨g, cap, cur, rfl, h1, (hb g rfl).trans h2, r⟩

theorem ORs.below {w w' : World} {base B : Nat} {v : Value} {ws : List Nat} {K : Nat} (h : ORs w base v ws K) (hb : Below B w w') (hB : w.heap.size ≤ B) : ORs w' base v ws K := by
  obtain ⟨vals, h1, h2, h3⟩ := h.ex
  exact ⟨vals, h1, row_move' h2 fun k hk => hb.block k (Nat.lt_of_lt_of_le (row_lt' h2 k hk).2 hB), fun k hk => (h3 k hk).below hb hB⟩

theorem oc_apart {w : World} {b0 base : Nat} {v u : Value} {R : List (Nat × Bool)} {n : Nat} {xs : List Value} (h : OC w b0 v R) (h2 : w.ownsRow base 97 1 u n xs) : ∀ k, v.ownBlock = some k → u.ownBlock ≠ some k := by
  intro k hk he
  rcases h.2 with ⟨rfl, _⟩ | ⟨g, cap, cur, rfl, _, hg, _⟩
  · simp [Value.ownBlock] at hk
  · rcases h2.2 with ⟨rfl, _⟩ | ⟨g', cap', cur', rfl, _, hg', _⟩
    · simp [Value.ownBlock] at he
    · simp only [Value.ownBlock, Option.some.injEq] at hk he
      rw [hk] at hg
      rw [he] at hg'
      rw [hg] at hg'
      simp at hg'

theorem infoCoins : (Tryd.prog.info? 97).map (fun i => (i.zero, i.size, i.bytes)) = some (some (.slice none 0 0), 1, 24) := by kernel_rfl

theorem ors_snoc {w w' : World} {base : Nat} {v v' u : Value} {ws : List Nat} {K : Nat} {vals : List Value} (h1 : vals.length = K) (h2 : w.ownsRow base 97 1 v K vals) (h3 : ∀ k, k < K → OC w 0 (vals.getD k undef) (crw ws k)) (hu : OC w 0 u (crw ws K))
    (hn : w'.ownsRow base 97 1 v' (K + 1) (vals ++ [u])) (hg : w.grownBy w' v.ownBlock) : ORs w' base v' ws (K + 1) := by
  have mv : ∀ {x : Value} {R : List (Nat × Bool)}, OC w 0 x R → OC w' 0 x R := fun {x R} hx => hx.move fun k hk => hg.block k (hx.lt k hk).2 (fun e => oc_apart hx h2 k hk e.symm)
  refine ⟨vals ++ [u], by simp [h1], hn, fun k hk => ?_⟩
  by_cases e : k = K
  · subst e
    have : (vals ++ [u]).getD k undef = u := by rw [← h1]; simp [List.getD]
    rw [this]
    exact mv hu
  · have : (vals ++ [u]).getD k undef = vals.getD k undef := by
      rw [List.getD_eq_getElem?_getD, List.getElem?_append_left (by omega), ← List.getD_eq_getElem?_getD]
    rw [this]
    exact mv (h3 k (by omega))
theorem OC.one {w : World} {b0 : Nat} {v : Value} {R : List (Nat × Bool)} (h : OC w b0 v R) : v.oneCell' = true := by
  obtain ⟨a, c, rfl, _⟩ := h.shape
  rfl

theorem wpRowC {w : World} {ops : Array Oper} {rest : List Oper} {o : Oper} {a : Act} {Q : Exit → Act → World → Prop} (hgd : o.guard = none) (s x : Operand)
    (ho : o.op = .call { callee := .builtin .append, args := #[s, x], argTypes := #[96, 96] }) (base : Nat) (v u : Value) (ws : List Nat) (K : Nat) (hown : ORs w base v ws K) (hu : OC w 0 u (crw ws K)) (hs : a.eval s = v)
    (c : Nat) (hx : a.eval x = .slice (some ⟨w.heap.size, 0, none⟩) 1 c) (hn : K ≤ 1000) (hbase : base ≤ w.heap.size)
    (h : ∀ v' w', ORs w' base v' ws (K + 1) → (w.alloc (.cells #[u] 97)).grownBy w' v.ownBlock → wpList Tryd.prog ops Q rest (a.put o.dst v') w') :
    wpList Tryd.prog ops Q (o :: rest) a (w.alloc (.cells #[u] 97)) := by
  obtain ⟨i0, hi0, hz0, hz1, hz2⟩ := info_parts infoCoins
  obtain ⟨vals, h1, h2, h3⟩ := hown.ex
  have h2a : (w.alloc (.cells #[u] 97)).ownsRow base 97 1 v K vals := row_move' h2 fun k hk => Below.heap_alloc w _ k (row_lt' h2 k hk).2
  refine wpList_append_own_at _ hgd s x 96 ho base 97 i0 _ 1 24 Tryd.underlying96 hi0 hz0 hz1 hz2 rfl (by omega) v K vals hs h2a ⟨w.heap.size, 0, none⟩ 1 c [u] hx rfl (World.news_of_block (cs := #[u]) (t := 97) (fr := (0, 0)) (heap_alloc_new w _))
    (fun z hz => by rw [List.mem_singleton.1 hz]; exact hu.one) (by unfold maxLen; omega) (by omega) (by simp; omega) fun v' w' q1 q2 _ _ => h v' w' ?_ q2
  exact ors_snoc h1 h2a (fun k hk => (h3 k hk).alloc _) (hu.alloc _) q1 q2

theorem ors_one {w : World} {u : Value} {ws : List Nat} (hu : OC w 0 u (crw ws 0)) : ORs (w.alloc (.cells #[u] 97)) w.heap.size (.slice (some ⟨w.heap.size, 0, none⟩) 1 1) ws 1 := by
  refine ⟨[u], rfl, ⟨rfl, .inr ⟨w.heap.size, 1, #[u], rfl, Nat.le_refl _, heap_alloc_new w _, Nat.le_refl _, by unfold maxLen; omega, rfl, rfl⟩⟩, fun k hk => ?_⟩
  obtain rfl : k = 0 := by omega
  exact hu.alloc _

theorem ORs.shape {w : World} {base : Nat} {v : Value} {ws : List Nat} {K : Nat} (h : ORs w base v ws K) (hK : 0 < K) : ∃ g c, v = .slice (some ⟨g, 0, none⟩) K c ∧ K ≤ c ∧ c ≤ 9223372036854775807 ∧ base ≤ g ∧ g < w.heap.size ∧ ∀ k, k < K → ∃ u, w.cell? ⟨g, k, none⟩ = some u ∧ OC w 0 u (crw ws k) := by
  obtain ⟨vals, h1, h2, h3⟩ := h.ex
  have hc := @World.ownsRow.cells _ _ _ _ _ _ _ h2
  have hlt := row_lt' h2
  rcases h2.2 with ⟨rfl, h0⟩ | ⟨g, cap, cur, rfl, p1, p2, p3, p4, p5⟩
  · omega
  · unfold maxLen at p4
    refine ⟨g, cap, rfl, p3, by omega, p1, (hlt g rfl).2, fun k hk => ⟨vals.getD k undef, ?_, h3 k hk⟩⟩
    have := hc (g := g) rfl k (vals.getD k undef) (by simp [show k < vals.length by omega])
    rwa [Addr.add_lit, Nat.zero_add] at this

set_option maxHeartbeats 1000000 in
theorem rows_any (v : Value) (ws : List Nat) (L : Nat) (w : World) (h : SI w v (ci ws)) (h1 : ws.length ≤ 288) (hL : 1 ≤ L ∧ L ≤ 15) (hw : ∀ x ∈ ws, x ≤ 4294967296) :
    Calls Tryd.prog 68 #[v, .int .i64 L] w fun e w' => ∃ v', e = .returned v' ∧ ORs w' w.heap.size v' ws L ∧ Below w.heap.size w w' := by
  have HS := hide h
  obtain ⟨ao, cap, rfl, hlc, hcm⟩ := h.open
  have HW := hide hw
  have HM0 := hide (merge_any _ (.slice none 0 0) ws [] w h ⟨none, 0, rfl, by simp [ci], by simp, fun _ => rfl, fun x hx => by cases hx⟩ h1 (by simp))
  clear h hw
  obtain ⟨hL1, hL2⟩ := hL
  go_enter Tryd.func68, Tryd.ntmps68
  go_wp2_with fail
  refine HM0.out.mono ?_
  rintro e w1 ⟨v1, rfl, ho1, hb1⟩
  have HO1 : Hid (ORs (w1.alloc (.cells #[v1] 97)) w.heap.size (.slice (some ⟨w1.heap.size, 0, none⟩) 1 1) ws 1) := by
    have := ors_one (ws := ws) (ho1.base (Nat.zero_le _))
    obtain ⟨vals, q1, q2, q3⟩ := this.ex
    refine ⟨vals, q1, ⟨q2.1, ?_⟩, q3⟩
    rcases q2.2 with q | ⟨g, c, cur, he, hb, r⟩
    · exact .inl q
    · exact .inr ⟨g, c, cur, he, Nat.le_trans hb1.size hb, r⟩
  have HB1 : Hid (Below w.heap.size w (w1.alloc (.cells #[v1] 97))) := hb1.alloc hb1.size _
  obtain ⟨a1, c1, hv1, _⟩ := ho1.shape
  subst hv1
  clear ho1 hb1
  go_wp2
  go_loopw [5] (fun va wr => ∃ K : Nat, 1 ≤ K ∧ K ≤ L ∧ Hid (ORs wr w.heap.size va ws K) ∧ Hid (Below w.heap.size w wr)) (fun va _ => match va with | .slice _ n _ => L - n | _ => 0)
  case atStart => exact ⟨1, Nat.le_refl _, hL1, HO1, HB1⟩
  case round =>
    obtain ⟨K, hK1, hKL, HR, HB⟩ := hrel
    obtain ⟨g, c, hv, hkc, hcm2, hg1, hg2, hcells⟩ := HR.out.shape hK1
    subst hv
    by_cases hlt : K < L
    · have hlt' : (K : Int) < (L : Int) := by omega
      obtain ⟨u, hcu, hou⟩ := hcells (K - 1) (by omega)
      obtain ⟨k1, hk1⟩ : ∃ k1, k1 = K - 1 := ⟨_, rfl⟩
      rw [← hk1] at hcu hou
      have e1 : (K : Int) - 1 = (k1 : Int) := by omega
      have hk1L : (k1 : Int) < (K : Int) := by omega
      have hcl := crw_len ws k1
      have HPR := hide (pairs_any u (crw ws k1) wr 0 hou (by omega) (fun x hx => by
        have h2 := crw_le ws 4294967296 HW.out k1 x hx
        have h3 : 2 ^ k1 ≤ 2 ^ 14 := Nat.pow_le_pow_right (by decide) (by omega)
        have h4 : 4294967296 * 2 ^ k1 ≤ 4294967296 * 2 ^ 14 := Nat.mul_le_mul_left _ h3
        omega))
      have HKK : Hid (crw ws K = cmr ws (pks (wts (crw ws k1)))) := by
        show _ = _
        rw [show K = k1 + 1 by omega]
        rfl
      have HPL : Hid ((pks (wts (crw ws k1))).length ≤ 600) := by
        show _ ≤ _
        rw [pks_len]
        have : (wts (crw ws k1)).length = (crw ws k1).length := by simp [wts]
        omega
      obtain ⟨au, cu, hu, _⟩ := hou.shape
      rw [hu] at hcu HPR
      clear hcells hou hu hk1
      go_wp2_with fail
      refine HPR.out.mono ?_
      rintro e w2 ⟨a2, rfl, ho2, hb2⟩
      have HO2 := hide ho2
      have HB2 := hide (HB.out.trans (hb2.mono HB.out.size))
      have HR2 := hide (HR.out.below hb2 (Nat.le_refl _))
      have HMG := hide (merge_any (.slice ao (ci ws).length cap) _ ws (pks (wts (crw ws k1))) w2 (HS.out.below HB2.out) ho2.sb h1 HPL.out)
      rw [← HKK.out] at HMG
      clear ho2 hb2
      go_wp2_with fail
      refine HMG.out.mono ?_
      rintro e w3 ⟨v3, rfl, ho3, hb3⟩
      have HO3 := hide (ho3.base (Nat.zero_le _))
      have HB3 := hide (HB2.out.trans (hb3.mono HB2.out.size))
      have HR3 := hide (HR2.out.below hb3 (Nat.le_refl _))
      obtain ⟨a3, c3, hv3, _⟩ := ho3.shape
      rw [hv3] at HO3 ⊢
      clear ho3 hb3
      have hsz3 := HB3.out.size
      go_wp2_with (at_builtin; refine wpRowC rfl _ _ rfl w.heap.size (.slice (some ⟨g, 0, none⟩) K c) _ ws K HR3.out HO3.out rfl _ rfl (by omega) (by omega) ?_)
      intro v4 w4 hr4 hg4
      have HR4 := hide hr4
      have HB4 : Hid (Below w.heap.size w w4) := (HB3.out.alloc hsz3 _).grown hg4 (by simp; omega) (fun j hj => by simp only [Value.ownBlock, Option.some.injEq] at hj; omega)
      obtain ⟨g4, c4, hv4, _⟩ := hr4.shape (by omega)
      rw [hv4] at HR4 ⊢
      clear hr4 hg4 hv4
      go_wp2
      go_roundw
      case rel => exact ⟨K + 1, by omega, by omega, HR4, HB4⟩
      case measure => simp; omega
    · obtain rfl : K = L := by omega
      have hlt' : ¬ (K : Int) < (K : Int) := by omega
      clear hcells
      go_wp2
      go_ret
      exact ⟨_, rfl, HR.out, HB.out⟩
end Go.Proofs.YtkmefeihkmbngaaDoor

namespace Go.Proofs.YtkmefeihkmbngaaDoor
open Go.RowKit
variable {F : Fence} {n : Nat} {P : Program}

def roundEnd2 (I : Nat → Obj → World → Prop) (Ix : Code → Obj → World → Prop) (m : Nat) (o : Obj) : Exit → Act → World → Prop
  | .normal, _, W => ∃ m', m' + 1 = m ∧ I m' o W
  | .ret, _, W => Ix .ret o W
  | .exit id, _, W => Ix (.exit id) o W
  | .goto t, _, W => Ix (.goto t) o W
  | .panic _, _, _ => False
  | .outgrown, _, _ => False

theorem wp_range2 {α : Type} {g : Operand} {ps : Array Tmp} {assign body : Code} {Q : Exit → Act → World → Prop} {a : Act} {w : World} (m0 : Nat)
    (hro : F.round = none) (h1 : 1 ≤ n) {gf : Nat} {lb : Array Value} (hg : a.eval g = .func (.func gf) #[] lb) (hFg : F.fn gf) (eg : ∀ args w, (callFunc gf args).run P w = .ok (.enter gf args) w)
    {encs : α → Array Value} (hps : ∀ x, (encs x).size = ps.size)
    (I : Nat → Obj → World → Prop) (Iy : Nat → α → Obj → World → Prop) (Ie : Obj → World → Prop) (Ix : Code → Obj → World → Prop)
    (rI : ∀ m, H4.Rec (w.heap.size + 1) (I m)) (ry : ∀ m x, H4.Rec (w.heap.size + 1) (Iy m x)) (re : H4.Rec (w.heap.size + 1) Ie) (rx : ∀ c, H4.Rec (w.heap.size + 1) (Ix c))
    (h0 : ∀ o, I m0 o ((w.alloc (.deferred (some []))).alloc o))
    (hseq : ∀ (o : Obj) (Jx : World → Prop), (∀ m x W, Iy m x o W → YieldAt F (n - 1 - 1) P (w.heap.size + 1) (encs x) W fun e W' => (e = .returned (.bool true) ∧ ∃ m', m' + 1 = m ∧ I m' o W') ∨ (e = .returned (.bool false) ∧ Jx W')) →
      ∀ W, I m0 o W → CallsIn F (n - 1) P gf (#[.func (.yield (w.heap.size + 1)) #[] #[]] ++ lb) W fun e W' => (∃ v, e = .returned v) ∧ (Ie o W' ∨ Jx W'))
    (a₁ : α → Act)
    (hassign : ∀ (x : α) (W : World) (K : Act → World → Prop), K (a₁ x) W →
      assign.wpIn (F.inRound (w.heap.size + 1)) (n - 1 - 1) P (Exit.then K (fun _ _ _ => False)) { tmps := (ps.zip (encs x)).foldl (fun t (p, v) => t.setIfInBounds p v) a.tmps, defers := [] } W)
    (hbody : ∀ m x o W, Iy m x o W → body.wpIn (F.inRound (w.heap.size + 1)) (n - 1 - 1) P (roundEnd2 I Ix m o) (a₁ x) W)
    (hdone : ∀ o W, Ie o W → Q .normal { a with defers := { target := .collected w.heap.size, args := #[] } :: a.defers } W)
    (hstop : ∀ c o W, Ix c o W → c.wpIn F n P Q { a with defers := { target := .collected w.heap.size, args := #[] } :: a.defers } W) :
    (Code.rangeFunc g ps assign body).wpIn F n P Q a w := by
  refine wpIn_rangeFunc ?_
  intro fn hfn
  rw [hro]
  obtain ⟨rec, hrec⟩ : ∃ rec : LoopState → Option Code → Loop, rec = fun st pe => { state := st, pending := pe, fn, tmps := a.tmps, params := ps, assign, body, defers := w.heap.size } := ⟨_, rfl⟩
  obtain ⟨W1, hW1⟩ : ∃ W1, (w.alloc (.deferred (some []))).alloc (.loop (rec .ready none)) = W1 := ⟨_, rfl⟩
  have hI1 : I m0 (.loop (rec .ready none)) W1 := by rw [← hW1]; exact h0 _
  refine ⟨w.heap.size + 1, [{ target := .collected w.heap.size, args := #[] }], W1, { target := .fn (.func gf) lb, args := #[.func (.yield (w.heap.size + 1)) #[] #[]] }, W1, gf,
    #[.func (.yield (w.heap.size + 1)) #[] #[]] ++ lb, W1, ?_, ?_, ?_, ?_, fun _ => h1, ?_⟩
  · rw [← hW1, hrec]; exact run_enterLoop_outer _ _ _ _ _
  · simp only [resolve, hg]
    simp [go_sem]
  · intro f' hf'; simp [Target.leads] at hf'; subst hf'; exact hFg
  · simp [invoke, go_sem, eg]
  · refine (hseq (.loop (rec .ready none)) (fun W => ∃ c, Ix c (.loop (rec .done (some c))) W) ?_ W1 hI1).mono ?_
    · rintro m x W hi
      have hl := (ry m x).get _ _ hi
      have hlt : w.heap.size + 1 < W.heap.size := (Array.getElem?_eq_some_iff.1 hl).1
      have hy := run_yield (P := P) (args := encs x) hl (by rw [hrec]; exact hps x)
      rw [hrec] at hy
      refine ⟨fn, _, assign, body, hy, roundIn_of_wpIn hfn (hassign x W _ ⟨_, run_beginRound hl (by rw [hrec]), ?_⟩)⟩
      refine wpIn_mono (hbody m x (.loop { rec .ready none with state := .busy }) _ ((ry m x).put _ _ _ hi)) ?_
      have fin : ∀ (jump : Option Code) (W3 : World), W3.heap[w.heap.size + 1]? = some (.loop { rec .ready none with state := .busy }) →
          (Instr.endRound (w.heap.size + 1) jump).run P W3 = .ok (.bool jump.isNone) (W3.putObj (w.heap.size + 1) (.loop (rec (if jump.isNone then .ready else .done) jump))) := fun jump W3 hl3 => by
        have := run_endRound (P := P) jump hl3
        rw [hrec] at this ⊢
        exact this
      rintro e a3 W3 hp
      cases e with
      | normal =>
        obtain ⟨m', hm', hi3⟩ := hp
        exact ⟨_, _, fin none W3 ((rI m').get _ _ hi3), .inl ⟨rfl, m', hm', (rI m').put _ _ _ hi3⟩⟩
      | ret => exact ⟨_, _, fin (some .ret) W3 ((rx _).get _ _ hp), .inr ⟨rfl, .ret, (rx _).put _ _ _ hp⟩⟩
      | exit id => exact ⟨_, _, fin (some (.exit id)) W3 ((rx _).get _ _ hp), .inr ⟨rfl, .exit id, (rx _).put _ _ _ hp⟩⟩
      | goto t => exact ⟨_, _, fin (some (.goto t)) W3 ((rx _).get _ _ hp), .inr ⟨rfl, .goto t, (rx _).put _ _ _ hp⟩⟩
      | panic ch => exact hp.elim
      | outgrown => exact hp.elim
    · rintro e W2 ⟨⟨v, rfl⟩, (hi | ⟨c, hi⟩)⟩
      · exact ⟨none, _, by have := run_endLoop (P := P) (re.get _ _ hi) (by rw [hrec]; simp); rw [hrec] at this; exact this, hdone _ _ (re.put _ _ _ hi)⟩
      · exact ⟨some c, _, by have := run_endLoop (P := P) ((rx c).get _ _ hi) (by rw [hrec]; simp); rw [hrec] at this; exact this, hstop c _ _ ((rx c).put _ _ _ hi)⟩

end Go.Proofs.YtkmefeihkmbngaaDoor

