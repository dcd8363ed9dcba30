import Derived.Test.YtmbgjkghcpkoiaaGQd
import Derived.Shelf.Abstract
import Derived.Shelf.RegionOpen
import Derived.OwnWalkIn
import Derived.TacticsInMore
import Derived.LoopNIn
import Derived.LoopIn
import Derived.Maps.OwnIn
namespace Go.Proofs.Ytmbgjkghcpkoiaa.H4
open Go.RowKit Go.Maps
set_option maxRecDepth 20000

structure Op4 where
  kind : Int
  key : Int
  val : Int
  two : Bool

def Op4.cells (o : Op4) : Array Value := #[.int .i64 o.kind, .int .i64 o.key, .int .i64 o.val, .bool o.two]

def stR (o : Op4) (R : List (It Int)) (n : Nat) : List (It Int) := if o.kind = 1 then R ++ [It.mk o.key (n : Int) o.val] else if o.kind = 2 then rest R else R
def stN (o : Op4) (n : Nat) : Nat := if o.kind = 1 then n + 1 else n

theorem Herd.box {W w : World} {xs : List ((Nat → Nat) × Thing)} (h : Herd W w xs) (o : Obj) : ∃ B, Herd W (w.alloc o) (xs ++ [(B, tb w.heap.size o)]) := by
  refine ⟨fun k => if k = w.heap.size then 1 else 0, h.push ((Below.refl _ _).alloc (Nat.le_refl _) _) ⟨heap_alloc_new w o, by simp, fun k hk => ?_⟩ fun k hk => ?_⟩
  · have := (one_K k _).1 hk
    rw [size_alloc']; omega
  · have := (one_K k _).1 hk
    omega

theorem Herd.at_tb {W w : World} {xs : List ((Nat → Nat) × Thing)} (h : Herd W w xs) (i : Nat) {B : Nat → Nat} {g : Nat} {o : Obj} (hi : xs[i]? = some (B, tb g o)) : w.heap[g]? = some o := by
  have : (tb g o).P w B := h.rep i _ hi
  exact this.1

theorem lt_of_get {α : Type} {xs : List α} {i : Nat} {x : α} (h : xs[i]? = some x) : i < xs.length := (List.getElem?_eq_some_iff.1 h).1

theorem get_app {α : Type} {xs ys : List α} {i : Nat} {x : α} (h : xs[i]? = some x) : (xs ++ ys)[i]? = some x := by rw [List.getElem?_append_left (lt_of_get h)]; exact h

theorem set_app {α : Type} {xs ys : List α} {i : Nat} {x y : α} (h : xs[i]? = some x) : (xs ++ ys).set i y = xs.set i y ++ ys := List.set_append_left _ _ (lt_of_get h)

theorem get_set_ne {α : Type} {xs : List α} {i j : Nat} {x y : α} (h : xs[j]? = some x) (hij : i ≠ j) : (xs.set i y)[j]? = some x := by rw [List.getElem?_set_ne hij]; exact h

theorem set_same {α : Type} {xs : List α} {i : Nat} {x : α} (h : xs[i]? = some x) : xs.set i x = xs := by
  apply List.ext_getElem?
  intro k
  by_cases e : i = k
  · subst e; rw [List.getElem?_set_self (lt_of_get h), h]
  · rw [List.getElem?_set_ne e]

theorem get_last {α : Type} (xs : List α) (x : α) : (xs ++ [x])[xs.length]? = some x := by simp

end Go.Proofs.Ytmbgjkghcpkoiaa.H4

namespace Go.Proofs.Ytmbgjkghcpkoiaa.H4
open Go.RowKit Go.Shelf
attribute [local go_sem] Oper.semAt_some
set_option maxRecDepth 20000

theorem exists_least (P : Nat → Prop) : ∀ m, P m → ∃ k, P k ∧ ∀ j, P j → k ≤ j := by
  intro m
  induction m using Nat.strongRecOn with
  | ind m ih =>
    intro h
    by_cases hl : ∃ j, j < m ∧ P j
    · obtain ⟨j, hj, hp⟩ := hl
      exact ih j hj hp
    · exact ⟨m, h, fun j hj => by
        by_cases e : j < m
        · exact absurd ⟨j, e, hj⟩ hl
        · omega⟩

open Classical in
noncomputable def lst (I : Nat → World → Prop) (W : World) : Nat := if h : ∃ k, I k W ∧ ∀ j, I j W → k ≤ j then Classical.choose h else 0

theorem lst_is {I : Nat → World → Prop} {W : World} {m : Nat} (h : I m W) : I (lst I W) W ∧ lst I W ≤ m := by
  have hx : ∃ k, I k W ∧ ∀ j, I j W → k ≤ j := exists_least (fun k => I k W) m h
  unfold lst
  rw [dif_pos hx]
  exact ⟨(Classical.choose_spec hx).1, (Classical.choose_spec hx).2 m h⟩

theorem eqlInFunc {P : Program} (w : World) (d : Nat) (t : TypeId) {ps rs : Array TypeId} {vr : Bool} (h : P.underlying t = some (.func ps rs vr)) (f : Fn) (x y : Array Value) : (Op.equalIn (d + 1) t (.func f x y) .nilFunc).run P w = .ok false w := by
  simp [Op.equalIn, run_underlying h]

theorem eqlFunc {P : Program} (w : World) (t : TypeId) {ps rs : Array TypeId} {vr : Bool} (h : P.underlying t = some (.func ps rs vr)) (f : Fn) (x y : Array Value) : (binOp .eql t (.func f x y) .nilFunc).run P w = .ok (.bool false) w := by
  simp only [binOp]
  simp [Op.equal, Op.maxDepth, eqlInFunc w 9999 t h f x y]

theorem drain_any (g : Nat) (w : World) : Calls Try.prog 22 #[.pointer (some ⟨g, 0, none⟩)] w fun e w' => e = .returned (.func (.func 25) #[] #[.pointer (some ⟨w.heap.size, 0, none⟩)]) ∧ w' = w.alloc (.cells #[.pointer (some ⟨g, 0, none⟩)] 50) := by
  go_enter Try.func22, Try.ntmps22
  go_wp2
  go_ret
  exact ⟨rfl, rfl⟩

/-- What the iterator finds at the beginning of a turn, and what it hands on. -/
def Turn (g B : Nat) (Iy : Int × Int → World → Prop) (Ie : World → Prop) (W : World) : Prop :=
  ∃ (W0 : World) (xs : List ((Nat → Nat) × Thing)) (i j : Nat) (K KB : Nat → Nat) (R : List (It Int)) (n : Nat), Herd W0 W xs ∧ xs[i]? = some (K, tq g R n) ∧ xs[j]? = some (KB, tb B (.cells #[.pointer (some ⟨g, 0, none⟩)] 50)) ∧ R.length ≤ 6000000000000 ∧
    (∀ W', Herd W0 W' (xs.set i (K, tq g (rest R) n)) → (R = [] → Ie W') ∧ (R ≠ [] → Iy (pkK R, pkV R) W'))

set_option maxHeartbeats 1000000 in
theorem drain_in (l B g : Nat) (I : Nat → World → Prop) (Iy : Nat → Int × Int → World → Prop) (Ie Jx : World → Prop) (hI : ∀ m W, I m W → Turn g B (Iy m) Ie W)
    (hY : ∀ m x W, Iy m x W → YieldAt Fence.wide 1 Try.prog l #[.int .i64 x.1, .int .i64 x.2] W fun e W' => (e = .returned (.bool true) ∧ ∃ m', m' < m ∧ I m' W') ∨ (e = .returned (.bool false) ∧ Jx W'))
    (m : Nat) (W : World) (h : I m W) (F : Fence) (hF : F = Fence.wide) :
    CallsIn F 2 Try.prog 25 #[.func (.yield l) #[] #[], .pointer (some ⟨B, 0, none⟩)] W fun e W' => (∃ v, e = .returned v) ∧ (Ie W' ∨ Jx W') := by
  subst hF
  refine callsIn_of_wp Try.func25 rfl trivial ?_ rfl
  simp only [Try.ntmps25, List.size_toArray, List.length_cons, List.length_nil, Nat.reduceAdd, Nat.reduceSub, Array.replicate_succ, Array.replicate_zero, List.push_toArray, List.append_toArray, List.nil_append, List.cons_append]
  have he := fun (w : World) (f : Fn) (x y : Array Value) => eqlFunc (P := Try.prog) w _ (Try.underlying63) f x y
  gi_wp2
  gi_loopw [3] (fun p wr => ∃ m, I m wr) (fun p wr => lst I wr)
  case atStart => exact ⟨m, h⟩
  case round =>
    obtain ⟨m1, hm1⟩ := hrel
    obtain ⟨hm, _⟩ := lst_is hm1
    obtain ⟨W0, xs, i, j, K, KB, R, n, H, hi, hj, hR, hnext⟩ := hI _ _ hm
    have c0 : wr.cell? ⟨B, 0, none⟩ = some (.pointer (some ⟨g, 0, none⟩)) := cellOf (H.at_tb j hj) rfl
    have HN := hide hnext
    clear hnext hm1
    gi_wp2_with fail
    refine ⟨trivial, (callsIn_wide.2 (hpop H i hi hR)).mono ?_⟩
    rintro e w1 ⟨rfl, H1⟩
    obtain ⟨q1, q2⟩ := HN.out w1 H1
    by_cases hn : R = []
    · have hb : pkB R = false := by simp [pkB, hn]
      rw [hb]
      have q := q1 hn
      clear hn q1 q2
      gi_wp2
      refine ⟨fun _ h => (by cases h), ?_⟩
      gi_wp2
      refine bodyPost_ret (results_none rfl _ _ _) rfl ?_
      exact ⟨⟨_, rfl⟩, .inl q⟩
    · have hb : pkB R = true := by simp [pkB, hn]
      rw [hb]
      have q := q2 hn
      clear hn q1 q2
      obtain ⟨fn, tmps, assign, body, hy, hRd⟩ := hY _ _ _ q
      dsimp only at hy
      gi_wp2
      refine hRd.mono ?_
      rintro e W3 (⟨rfl, m', hm', hI3⟩ | ⟨rfl, hJx3⟩)
      · gi_wp2
        go_roundw
        case rel => exact ⟨m', hI3⟩
        case measure => exact Nat.lt_of_le_of_lt (lst_is hI3).2 hm'
      · gi_wp2
        refine bodyPost_ret (results_none rfl _ _ _) rfl ?_
        exact ⟨⟨_, rfl⟩, .inr hJx3⟩

end Go.Proofs.Ytmbgjkghcpkoiaa.H4

namespace Go.Proofs.Ytmbgjkghcpkoiaa.H4
open Go.RowKit Go.Shelf
set_option maxRecDepth 20000

/-- A herd with the record of a loop over an iterator, and the block for what its rounds defer. -/
def InH (W0 : World) (d l : Nat) (Q : List ((Nat → Nat) × Thing) → Prop) (o : Obj) (W : World) : Prop :=
  ∃ xs Kd Kl, Q xs ∧ Herd W0 W (xs ++ [(Kd, tb d (.deferred (some []))), (Kl, tb l o)])

theorem get_two {α : Type} (xs : List α) (a b : α) : (xs ++ [a, b])[xs.length]? = some a ∧ (xs ++ [a, b])[xs.length + 1]? = some b := by
  constructor
  · simp
  · rw [List.getElem?_append_right (by omega)]
    simp

theorem set_two {α : Type} (xs : List α) (a b c : α) : (xs ++ [a, b]).set (xs.length + 1) c = xs ++ [a, c] := by
  rw [List.set_append_right _ _ (by omega)]
  simp

theorem Herd.putB {W w : World} {xs : List ((Nat → Nat) × Thing)} (H : Herd W w xs) (i : Nat) {B : Nat → Nat} {g : Nat} {o : Obj} (hi : xs[i]? = some (B, tb g o)) (o' : Obj) : Herd W (w.putObj g o') (xs.set i (B, tb g o')) := by
  have h : (tb g o).P w B := H.rep i _ hi
  have hg : w.heap[g]? = some o := h.1
  have hlt := heap_lt hg
  have hz : (w.putObj g o').heap.size = w.heap.size := by simp [World.putObj]
  refine H.op i hi (x' := tb g o') ⟨?_, h.2.1, fun k hk => ?_⟩ ⟨rfl, rfl, rfl, by omega, fun k _ h0 => ?_, fun _ _ => rfl⟩
  · simp [World.putObj, hlt]
  · rw [hz]; exact h.2.2 k hk
  · have hne : g ≠ k := fun e => h.2.1 (by rw [e]; exact h0)
    simp [World.putObj, hne]

theorem InH.rec (W0 : World) (d l : Nat) (Q : List ((Nat → Nat) × Thing) → Prop) : Rec l (InH W0 d l Q) := by
  refine ⟨fun o W ⟨xs, Kd, Kl, _, H⟩ => H.at_tb _ (get_two xs _ _).2, fun o o' W ⟨xs, Kd, Kl, q, H⟩ => ⟨xs, Kd, Kl, q, ?_⟩⟩
  have := H.putB _ (get_two xs _ _).2 o'
  rwa [set_two] at this

theorem InH.start {W0 w : World} {xs : List ((Nat → Nat) × Thing)} {Q : List ((Nat → Nat) × Thing) → Prop} (H : Herd W0 w xs) (q : Q xs) (o : Obj) : InH W0 w.heap.size (w.heap.size + 1) Q o ((w.alloc (.deferred (some []))).alloc o) := by
  obtain ⟨Kd, H1⟩ := H.box (.deferred (some []))
  obtain ⟨Kl, H2⟩ := H1.box o
  rw [size_alloc', List.append_assoc] at H2
  exact ⟨xs, Kd, Kl, q, H2⟩

theorem Herd.setB {W w : World} {xs : List ((Nat → Nat) × Thing)} (H : Herd W w xs) (i : Nat) {B : Nat → Nat} {g : Nat} {cs : Array Value} {t : TypeId} (hi : xs[i]? = some (B, tb g (.cells cs t))) (k : Nat) (u : Value) : Herd W (w.setCell ⟨g, k, none⟩ u) (xs.set i (B, tb g (.cells (cs.setIfInBounds k u) t))) := by
  have h : (tb g (.cells cs t)).P w B := H.rep i _ hi
  refine H.op i hi (x' := tb g _) ⟨heap_setCell_at u h.1, h.2.1, fun k hk => ?_⟩ ⟨rfl, rfl, rfl, by rw [size_setCell]; exact Nat.le_refl _, fun k _ h0 => ?_, fun _ _ => rfl⟩
  · rw [size_setCell]; exact h.2.2 k hk
  · exact setCell_others _ _ _ _ _ (fun e => h.2.1 (by rw [← e]; exact h0))

/-- A list of the herd, one longer. -/
theorem Herd.appI {W w w' : World} {xs : List ((Nat → Nat) × Thing)} (H : Herd W w xs) (i : Nat) {K : Nat → Nat} {v v' : Value} {l : List Int} {x : Int} (hi : xs[i]? = some (K, tl v l)) {o : Obj}
    (hown : w'.ownsRow 0 3 1 v' (l.length + 1) (l.map (Value.int .i64) ++ [.int .i64 x])) (hgrow : (w.alloc o).grownBy w' v.ownBlock) (hat : v'.ownBlock = v.ownBlock ∨ v'.ownBlock = some (w.heap.size + 1)) : ∃ K', Herd W w' (xs.set i (K', tl v' (l ++ [x]))) := by
  have h : (tl v l).P w K := H.rep i _ hi
  have hs := hgrow.size
  rw [size_alloc'] at hs
  have hlt : ∀ k, v'.ownBlock = some k → k < w'.heap.size := row_lt hown
  refine ⟨fun k => if k < w.heap.size then K k else if v'.ownBlock = some k then 1 else 0, H.op i hi (x' := tl v' (l ++ [x])) ⟨?_, fun k hk => ?_, fun k hk => ?_⟩ ⟨hgrow.os, hgrow.tape, hgrow.output, by omega, fun k hk h0 => ?_, fun k hk => by simp only [if_pos hk]⟩⟩
  · unfold OI; rw [List.length_append, List.map_append]; exact hown
  · by_cases hkl : k < w.heap.size
    · simp only [if_pos hkl]
      rcases hat with e | e
      · exact h.2.1 k (e.symm.trans hk)
      · rw [hk] at e; simp at e; omega
    · simp [hkl, hk]
  · by_cases hkl : k < w.heap.size
    · omega
    · simp only [if_neg hkl] at hk
      by_cases e : v'.ownBlock = some k
      · exact hlt k e
      · simp [e] at hk
  · rw [hgrow.block k (by rw [size_alloc']; omega) (fun e => h.2.1 k e.symm h0)]
    exact Below.heap_alloc _ _ k hk

theorem wpListIn_int {F : Fence} {nF : Nat} {W w : World} {ops : Array Oper} {rest : List Oper} {o : Oper} {a : Act} {Q : Exit → Act → World → Prop} (hgd : o.guard = none) (s x : Operand)
    (ho : o.op = .call { callee := .builtin .append, args := #[s, x], argTypes := #[41, 41] }) {xs : List ((Nat → Nat) × Thing)} (H : Herd W w xs) (i : Nat) {K : Nat → Nat} {v : Value} {l : List Int} (hi : xs[i]? = some (K, tl v l)) (y : Int)
    (c : Nat) (hs : a.eval s = v) (hx : a.eval x = .slice (some ⟨w.heap.size, 0, none⟩) 1 c) (hn : l.length ≤ 10000000000000)
    (h : ∀ ad cap w' K', Herd W w' (xs.set i (K', tl (.slice ad (l.length + 1) cap) (l ++ [y]))) → wpListIn F nF Try.prog ops Q rest (a.put o.dst (.slice ad (l.length + 1) cap)) w') :
    wpListIn F nF Try.prog ops Q (o :: rest) a (w.alloc (.cells #[.int .i64 y] 3)) := by
  obtain ⟨i0, hi0, hz0, hz1, hz2⟩ := info_parts infoInt
  have hp : (tl v l).P w K := H.rep i _ hi
  have hr : w.ownsRow 0 3 1 v l.length (l.map (Value.int .i64)) := hp.1
  refine wpListIn_append_own_at _ hgd s x 41 ho 0 3 i0 _ 1 8 Try.underlying41 hi0 hz0 hz1 hz2 rfl (by omega) v l.length _ hs (hr.alloc _) ⟨w.heap.size, 0, none⟩ 1 c [.int .i64 y] hx rfl (World.news_of_block (cs := #[.int .i64 y]) (t := 3) (fr := (0, 0)) (heap_alloc_new w _)) (fun u hu => by rw [List.mem_singleton.1 hu]; rfl) (by unfold maxLen; omega) (by omega) (Nat.zero_le _) ?_
  intro v' w' hown hgrow _ hat
  rw [size_alloc'] at hat
  obtain ⟨K', H'⟩ := H.appI i hi hown hgrow hat
  obtain ⟨ad, cap, rfl⟩ := row_shape hown
  exact h ad cap w' K' H'

theorem wpList_int {W w : World} {ops : Array Oper} {rest : List Oper} {o : Oper} {a : Act} {Q : Exit → Act → World → Prop} (hgd : o.guard = none) (s x : Operand)
    (ho : o.op = .call { callee := .builtin .append, args := #[s, x], argTypes := #[41, 41] }) {xs : List ((Nat → Nat) × Thing)} (H : Herd W w xs) (i : Nat) {K : Nat → Nat} {v : Value} {l : List Int} (hi : xs[i]? = some (K, tl v l)) (y : Int)
    (c : Nat) (hs : a.eval s = v) (hx : a.eval x = .slice (some ⟨w.heap.size, 0, none⟩) 1 c) (hn : l.length ≤ 10000000000000)
    (h : ∀ ad cap w' K', Herd W w' (xs.set i (K', tl (.slice ad (l.length + 1) cap) (l ++ [y]))) → wpList Try.prog ops Q rest (a.put o.dst (.slice ad (l.length + 1) cap)) w') :
    wpList Try.prog ops Q (o :: rest) a (w.alloc (.cells #[.int .i64 y] 3)) := by
  obtain ⟨i0, hi0, hz0, hz1, hz2⟩ := info_parts infoInt
  have hp : (tl v l).P w K := H.rep i _ hi
  have hr : w.ownsRow 0 3 1 v l.length (l.map (Value.int .i64)) := hp.1
  refine wpList_append_lies _ hgd s x 41 ho 0 3 i0 _ 1 8 Try.underlying41 hi0 hz0 hz1 hz2 rfl (by omega) v l.length _ hs (hr.alloc _) ⟨w.heap.size, 0, none⟩ 1 c [.int .i64 y] hx rfl (World.news_of_block (cs := #[.int .i64 y]) (t := 3) (fr := (0, 0)) (heap_alloc_new w _)) (fun u hu => by rw [List.mem_singleton.1 hu]; rfl) (by omega) (by unfold maxLen; omega) (by omega) (Nat.zero_le _) (w.heap.size + 1) (size_alloc' _ _) ?_
  intro g cap w' hown hgrow hat hlt
  obtain ⟨K', H'⟩ := H.appI i hi hown hgrow (hat.elim (fun e => .inl (by rw [e]; rfl)) (fun e => .inr (by rw [e]; rfl)))
  exact h _ cap w' K' H'

/-- A list that was just made. -/
theorem Herd.list {W w w' : World} {xs : List ((Nat → Nat) × Thing)} (h : Herd W w xs) (hb : Below w.heap.size w w') {v : Value} {l : List Int} (ho : OI w' w.heap.size v l) : ∃ K, Herd W w' (xs ++ [(K, tl v l)]) := by
  refine ⟨fun k => if v.ownBlock = some k then 1 else 0, h.push hb ⟨ho.base (Nat.zero_le _), fun k hk => by simp [hk], fun k hk => ?_⟩ fun k hk => ?_⟩
  · by_cases e : v.ownBlock = some k
    · exact (ho.lt k e).2
    · simp [e] at hk
  · by_cases e : v.ownBlock = some k
    · exact (ho.lt k e).1
    · simp [e] at hk

theorem Herd.oi {W w : World} {xs : List ((Nat → Nat) × Thing)} (H : Herd W w xs) (i : Nat) {K : Nat → Nat} {v : Value} {l : List Int} (hi : xs[i]? = some (K, tl v l)) : OI w W.heap.size v l := by
  have h : (tl v l).P w K := H.rep i _ hi
  have hr : w.ownsRow 0 3 1 v l.length (l.map (Value.int .i64)) := h.1
  refine ⟨hr.1, ?_⟩
  rcases hr.2 with h2 | ⟨g, cap, cur, rfl, h1, r⟩
  · exact .inl h2
  · exact .inr ⟨g, cap, cur, rfl, H.up i _ hi g (h.2.1 g rfl), r⟩

end Go.Proofs.Ytmbgjkghcpkoiaa.H4

namespace Go.Proofs.Ytmbgjkghcpkoiaa.H4
open Go.RowKit Go.Shelf
attribute [local go_sem] Oper.semAt_some
set_option maxRecDepth 20000

/-- What stands between two turns of Order's loop. -/
def OrdI (keys : List Int) (g B bo n m : Nat) (xs : List ((Nat → Nat) × Thing)) : Prop :=
  ∃ K KB Ko Kv R ad cap l, xs = [(K, tq g R n), (Kv, tl (.slice ad l.length cap) l), (Ko, tb bo (.cells #[.slice ad l.length cap] 41)), (KB, tb B (.cells #[.pointer (some ⟨g, 0, none⟩)] 50))] ∧ m = R.length ∧ R.length ≤ 5864062014805 ∧ l ++ (drainAll R).map (·.val) = orderOf keys

/-- What stands in a turn of it. -/
def OrdY (keys : List Int) (g B bo n m : Nat) (x : Int × Int) (xs : List ((Nat → Nat) × Thing)) : Prop :=
  ∃ K KB Ko Kv R ad cap l, xs = [(K, tq g R n), (Kv, tl (.slice ad l.length cap) l), (Ko, tb bo (.cells #[.slice ad l.length cap] 41)), (KB, tb B (.cells #[.pointer (some ⟨g, 0, none⟩)] 50))] ∧ m = R.length + 1 ∧ R.length ≤ 5864062014805 ∧ l ++ x.2 :: (drainAll R).map (·.val) = orderOf keys

theorem ord_turn {W0 W : World} {keys : List Int} {g B bo n d lb m : Nat} {o : Obj} (h : InH W0 d lb (OrdI keys g B bo n m) o W) : Turn g B (fun x W => InH W0 d lb (OrdY keys g B bo n m x) o W) (fun W => InH W0 d lb (OrdI keys g B bo n 0) o W) W := by
  obtain ⟨xs, Kd, Kl, ⟨K, KB, Ko, Kv, R, ad, cap, l, rfl, hm, hR, he⟩, H⟩ := h
  refine ⟨W0, _, 0, 3, K, KB, R, n, H, rfl, rfl, by omega, fun W' H' => ⟨fun hn => ?_, fun hn => ?_⟩⟩
  · subst hn
    exact ⟨_, Kd, Kl, ⟨K, KB, Ko, Kv, [], ad, cap, l, rfl, rfl, Nat.zero_le _, he⟩, H'⟩
  · have hl := rest_len hn
    rw [drainAll_step hn] at he
    refine ⟨_, Kd, Kl, ⟨K, KB, Ko, Kv, rest R, ad, cap, l, rfl, by omega, by omega, ?_⟩, H'⟩
    rw [pkV_eq hn]
    exact he

set_option maxHeartbeats 1000000 in
theorem order_in (v : Value) (keys : List Int) (w : World) (hs : SI w v keys) (hn : keys.length ≤ 5864062014805) :
    Calls Try.prog 18 #[v] w fun e w' => ∃ a c, e = .returned (.slice a keys.length c) ∧ OI w' w.heap.size (.slice a keys.length c) (orderOf keys) ∧ Below w.heap.size w w' := by
  obtain ⟨a0, c0, rfl, h1, h2, h3, h4⟩ := hs
  unfold maxLen at h2
  have HC := hide h4
  clear h4
  refine (callsIn_wide (n := 3)).1 ?_
  refine callsIn_of_wp_marks Try.func18 rfl trivial ?_ rfl
  simp only [Try.ntmps18, List.size_toArray, List.length_cons, List.length_nil, Nat.reduceAdd, Nat.reduceSub, Array.replicate_succ, Array.replicate_zero, List.push_toArray, List.append_toArray, List.nil_append, List.cons_append]
  gi_wp2_with fail
  refine ⟨trivial, (callsIn_wide.2 (hnew (Herd.nil w))).mono ?_⟩
  rintro e w1 ⟨g, K, rfl, H1⟩
  have HF : Hid (∃ K, Herd w w1 [(K, tq g ((its keys).take 0) 0)]) := ⟨K, H1⟩
  clear H1
  gi_wp2
  gi_loopw [12] (fun i wr => ∃ k : Nat, i = .int .i64 k ∧ k ≤ keys.length ∧ Hid (∃ K, Herd w wr [(K, tq g ((its keys).take k) k)])) (fun i _ => keys.length - (intOf i).toNat)
  case atStart => exact ⟨0, rfl, Nat.zero_le _, HF.out⟩
  case round =>
    obtain ⟨k, rfl, hk, HR⟩ := hrel
    obtain ⟨K, H⟩ := HR.out
    by_cases hlt : k < keys.length
    · have hlt' : (k : Int) < (keys.length : Int) := by omega
      have hcell : ∃ b o, a0 = some ⟨b, o, none⟩ ∧ wr.cell? ⟨b, o + k, none⟩ = some (.int .i64 (keys.getD k 0)) := by
        cases a0 with
        | none => exact absurd (h3 rfl) (by omega)
        | some x =>
          obtain ⟨b, o, rfl⟩ := addr_lit (HC.out x rfl 0 (by omega))
          have := HC.out _ rfl k hlt
          rw [Addr.add_lit] at this
          exact ⟨b, o, rfl, (H.bel.cell (World.block_lt_of_cell? _ _ this)).trans this⟩
      obtain ⟨b, o, rfl, hc⟩ := hcell
      clear h3
      have HT := hide (its_take hlt)
      obtain ⟨ky, hky⟩ : ∃ ky, keys.getD k 0 = ky := ⟨_, rfl⟩
      rw [hky] at hc HT
      clear hky
      have hln := take_len keys hk
      have HLN := hide hln
      clear hln
      gi_wp2_with fail
      refine ⟨trivial, (callsIn_wide.2 (hpush H 0 rfl ky k (by have := HLN.out; omega) (by omega))).mono ?_⟩
      rintro e w2 ⟨rfl, K', H2⟩
      have HN : Hid (∃ K, Herd w w2 [(K, tq g ((its keys).take (k + 1)) (k + 1))]) := ⟨K', by rw [HT.out]; exact H2⟩
      clear H2
      gi_wp2
      go_roundw
      case rel => exact ⟨k + 1, by go_num, by omega, HN.out⟩
      case measure => simp [intOf]; omega
    · have hlt' : ¬ (k : Int) < (keys.length : Int) := by omega
      obtain rfl : k = keys.length := by omega
      obtain ⟨i0, hi0, hz0, hz1, hz2⟩ := info_parts infoInt
      gi_wp2_with (gi_at_make; refine wpListIn_make_own _ rfl _ _ 41 rfl wr.heap.size 3 i0 _ 1 Try.underlying41 hi0 hz0 hz1 .i64 .i64 _ keys.length rfl rfl rfl (by rw [hz2]; omega) (by unfold maxLen; omega) (Nat.le_refl _) ?_)
      intro w2 hown2 hg2
      have hb2 : Below wr.heap.size wr w2 := ⟨hg2.os, hg2.tape, hg2.output, hg2.size, fun k hk => hg2.block k hk (by simp)⟩
      obtain ⟨Kv, H2⟩ := H.list (v := .slice (some ⟨wr.heap.size, 0, none⟩) 0 keys.length) (l := []) hb2 hown2
      obtain ⟨Ko, H3⟩ := H2.box (.cells #[.slice (some ⟨wr.heap.size, 0, none⟩) 0 keys.length] 41)
      obtain ⟨bo, hbo⟩ : ∃ bo, w2.heap.size = bo := ⟨_, rfl⟩
      have HH3 := hide H3
      rw [hbo] at HH3
      have HW := hide hg2.size
      clear H HR hown2 hg2 hb2 H2 H3 hi0 hz0 hz1 hz2 hk hlt hlt'
      gi_wp2_with fail
      refine ⟨trivial, (callsIn_wide.2 (drain_any g _)).mono ?_⟩
      rintro e w4 ⟨rfl, hw4⟩
      obtain ⟨w3, hw3⟩ : ∃ w3, w2.alloc (.cells #[.slice (some ⟨wr.heap.size, 0, none⟩) 0 keys.length] 41) = w3 := ⟨_, rfl⟩
      rw [hw3] at HH3 hw4 ⊢
      obtain ⟨KB, H4⟩ := HH3.out.box (.cells #[.pointer (some ⟨g, 0, none⟩)] 50)
      rw [← hw4] at H4
      obtain ⟨B, hB⟩ : ∃ B, w3.heap.size = B := ⟨_, rfl⟩
      rw [hB] at H4 ⊢
      have HH4 := hide H4
      clear H4 HH3 hw3 hw4 hB
      gi_wp2_with fail
      refine wp_range (α := Int × Int) keys.length rfl (by decide) (gf := 25) (lb := #[.pointer (some ⟨B, 0, none⟩)]) rfl trivial (enters_of Try.func25 (by kernel_rfl) rfl)
        (encs := fun x => #[.int .i64 x.1, .int .i64 x.2]) (fun _ => rfl) (fun m => InH w w4.heap.size (w4.heap.size + 1) (OrdI keys g B bo keys.length m)) (fun m x => InH w w4.heap.size (w4.heap.size + 1) (OrdY keys g B bo keys.length m x)) (InH w w4.heap.size (w4.heap.size + 1) (OrdI keys g B bo keys.length 0)) (fun _ _ _ => False)
        (fun _ => InH.rec _ _ _ _) (fun _ _ => InH.rec _ _ _ _) (InH.rec _ _ _ _) (fun _ => ⟨fun _ _ h => h.elim, fun _ _ _ h => h.elim⟩) ?start ?seq ?a1 ?assign ?body ?done ?stop
      case start =>
        intro o
        refine InH.start HH4.out ⟨K, KB, Ko, Kv, _, _, _, [], rfl, ?_, ?_, ?_⟩ o
        · rw [take_len keys (Nat.le_refl _)]
        · rw [take_len keys (Nat.le_refl _)]; omega
        · rw [its_all]; rfl
      case seq =>
        intro o Jx hY W hW
        exact drain_in (w4.heap.size + 1) B g (fun m W => InH w w4.heap.size (w4.heap.size + 1) (OrdI keys g B bo keys.length m) o W) (fun m x W => InH w w4.heap.size (w4.heap.size + 1) (OrdY keys g B bo keys.length m x) o W) (InH w w4.heap.size (w4.heap.size + 1) (OrdI keys g B bo keys.length 0) o) Jx (fun m W h => ord_turn h) hY keys.length W hW Fence.wide rfl
      case assign =>
        intro x W K hK
        gi_wp2
        exact hK
      case body =>
        rintro m x o W ⟨xs, Kd, Kl, ⟨K, KB, Ko, Kv, R, ad, cap, l, rfl, hm, hR, he⟩, H⟩
        have c0 : W.cell? ⟨bo, 0, none⟩ = some (.slice ad l.length cap) := cellOf (H.at_tb 2 rfl) rfl
        have HE := hide he
        have hln : l.length ≤ 10000000000000 := by
          have := orderOf_len keys
          rw [← he] at this
          simp at this
          omega
        clear he
        obtain ⟨xk, xv⟩ := x
        gi_wp2_with (gi_at_builtin; refine wpListIn_int rfl _ _ rfl H 1 rfl xv _ rfl rfl hln ?_)
        intro ad' cap' w' K' H'
        have c1 : w'.cell? ⟨bo, 0, none⟩ = some (.slice ad l.length cap) := cellOf (H'.at_tb 2 rfl) rfl
        have f1 : w'.frozen? ⟨bo, 0, none⟩ = false := frozenOf (H'.at_tb 2 rfl)
        have H'' := hide (H'.setB 2 rfl 0 (.slice ad' (l.length + 1) cap'))
        clear H'
        gi_wp2
        refine ⟨R.length, by omega, [(K, tq g R keys.length), (K', tl (.slice ad' (l.length + 1) cap') (l ++ [xv])), (Ko, tb bo (.cells #[.slice ad' (l.length + 1) cap'] 41)), (KB, tb B (.cells #[.pointer (some ⟨g, 0, none⟩)] 50))], Kd, Kl, ⟨K, KB, Ko, K', R, ad', cap', l ++ [xv], ?_, rfl, hR, ?_⟩, H''.out⟩
        · rw [List.length_append]; rfl
        · rw [← HE.out]; simp
      case done =>
        rintro o W ⟨xs, Kd, Kl, ⟨K, KB, Ko, Kv, R, ad, cap, l, rfl, hm, hR, he⟩, H⟩
        obtain rfl : R = [] := List.eq_nil_of_length_eq_zero hm.symm
        have c0 : W.cell? ⟨bo, 0, none⟩ = some (.slice ad l.length cap) := cellOf (H.at_tb 2 rfl) rfl
        have hD : W.heap[w4.heap.size]? = some (.deferred (some [])) := H.at_tb 4 rfl
        have H5 := H.putB 4 rfl (.deferred none)
        have el : l = orderOf keys := by simpa [drainAll_nil] using he
        have HEL := hide el
        clear el he hm hR
        gi_wp2
        refine ⟨by simp, .inl ⟨_, _, rfl, run_takeDeferred hD, ?_⟩⟩
        refine ⟨_, results_tmp rfl _ _ _, ad, cap, ?_, ?_, H5.bel⟩
        · rw [← orderOf_len keys, ← HEL.out]; rfl
        · have := H5.oi 1 rfl
          rw [← orderOf_len keys, ← HEL.out]
          exact this
      case stop =>
        rintro c o W h
        exact h.elim

end Go.Proofs.Ytmbgjkghcpkoiaa.H4

