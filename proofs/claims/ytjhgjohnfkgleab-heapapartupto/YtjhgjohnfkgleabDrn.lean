import Derived.Test.YtjhgjohnfkgleabStp
import Derived.Shelf.Abstract
import Derived.Shelf.RegionOpen
import Derived.OwnWalkIn
import Derived.TacticsInMore
import Derived.LoopNIn
import Derived.LoopIn
namespace Go.Proofs.Ytjhgjohnfkgleab
open Go.RowKit Go.Shelf
attribute [local go_sem] Oper.semAt_some
set_option maxRecDepth 20000

theorem exists_least (P : Nat → Prop) : ∀ m, P m → ∃ k, P k ∧ ∀ j, P j → k ≤ j := by
  intro m
  induction m using Nat.strongRecOn with
  | ind m ih =>
    intro h
    by_cases hl : ∃ j, j < m ∧ P j
    · obtain ⟨j, hj, hp⟩ := hl
      exact ih j hj hp
    · exact ⟨m, h, fun j hj => by
        by_cases e : j < m
        · exact absurd ⟨j, e, hj⟩ hl
        · omega⟩

open Classical in
noncomputable def lst (I : Nat → World → Prop) (W : World) : Nat := if h : ∃ k, I k W ∧ ∀ j, I j W → k ≤ j then Classical.choose h else 0

theorem lst_is {I : Nat → World → Prop} {W : World} {m : Nat} (h : I m W) : I (lst I W) W ∧ lst I W ≤ m := by
  have hx : ∃ k, I k W ∧ ∀ j, I j W → k ≤ j := exists_least (fun k => I k W) m h
  unfold lst
  rw [dif_pos hx]
  exact ⟨(Classical.choose_spec hx).1, (Classical.choose_spec hx).2 m h⟩

theorem eqlInFunc {P : Program} (w : World) (d : Nat) (t : TypeId) {ps rs : Array TypeId} {vr : Bool} (h : P.underlying t = some (.func ps rs vr)) (f : Fn) (x y : Array Value) : (Op.equalIn (d + 1) t (.func f x y) .nilFunc).run P w = .ok false w := by
  simp [Op.equalIn, run_underlying h]

theorem eqlFunc {P : Program} (w : World) (t : TypeId) {ps rs : Array TypeId} {vr : Bool} (h : P.underlying t = some (.func ps rs vr)) (f : Fn) (x y : Array Value) : (binOp .eql t (.func f x y) .nilFunc).run P w = .ok (.bool false) w := by
  simp only [binOp]
  simp [Op.equal, Op.maxDepth, eqlInFunc w 9999 t h f x y]

theorem drain_any (g : Nat) (w : World) : Calls Try.prog 13 #[.pointer (some ⟨g, 0, none⟩)] w fun e w' => e = .returned (.func (.func 29) #[] #[.pointer (some ⟨w.heap.size, 0, none⟩)]) ∧ w' = w.alloc (.cells #[.pointer (some ⟨g, 0, none⟩)] 23) := by
  go_enter Try.func13, Try.ntmps13
  go_wp2
  go_ret
  exact ⟨rfl, rfl⟩

/-- What the iterator finds at the beginning of a turn, and what it hands on. -/
def Turn (g B : Nat) (Iy : Int × Int → World → Prop) (Ie : World → Prop) (W : World) : Prop :=
  ∃ (W0 : World) (xs : List ((Nat → Nat) × Thing)) (i j : Nat) (K KB : Nat → Nat) (R : List (It Int)) (n : Nat), Herd W0 W xs ∧ xs[i]? = some (K, tq g R n) ∧ xs[j]? = some (KB, tb B (.cells #[.pointer (some ⟨g, 0, none⟩)] 23)) ∧ R.length ≤ 6000000000000 ∧
    (∀ W', Herd W0 W' (xs.set i (K, tq g (rest R) n)) → (R = [] → Ie W') ∧ (R ≠ [] → Iy (pkK R, pkV R) W'))

set_option maxHeartbeats 1000000 in
theorem drain_in (l B g : Nat) (I : Nat → World → Prop) (Iy : Nat → Int × Int → World → Prop) (Ie Jx : World → Prop) (hI : ∀ m W, I m W → Turn g B (Iy m) Ie W)
    (hY : ∀ m x W, Iy m x W → YieldAt Fence.wide 1 Try.prog l #[.int .i64 x.1, .int .i64 x.2] W fun e W' => (e = .returned (.bool true) ∧ ∃ m', m' < m ∧ I m' W') ∨ (e = .returned (.bool false) ∧ Jx W'))
    (m : Nat) (W : World) (h : I m W) (F : Fence) (hF : F = Fence.wide) :
    CallsIn F 2 Try.prog 29 #[.func (.yield l) #[] #[], .pointer (some ⟨B, 0, none⟩)] W fun e W' => (∃ v, e = .returned v) ∧ (Ie W' ∨ Jx W') := by
  subst hF
  refine callsIn_of_wp Try.func29 rfl trivial ?_ rfl
  simp only [Try.ntmps29, List.size_toArray, List.length_cons, List.length_nil, Nat.reduceAdd, Nat.reduceSub, Array.replicate_succ, Array.replicate_zero, List.push_toArray, List.append_toArray, List.nil_append, List.cons_append]
  have he := fun (w : World) (f : Fn) (x y : Array Value) => eqlFunc (P := Try.prog) w _ (Try.underlying66) f x y
  gi_wp2
  gi_loopw [3] (fun p wr => ∃ m, I m wr) (fun p wr => lst I wr)
  case atStart => exact ⟨m, h⟩
  case round =>
    obtain ⟨m1, hm1⟩ := hrel
    obtain ⟨hm, _⟩ := lst_is hm1
    obtain ⟨W0, xs, i, j, K, KB, R, n, H, hi, hj, hR, hnext⟩ := hI _ _ hm
    have c0 : wr.cell? ⟨B, 0, none⟩ = some (.pointer (some ⟨g, 0, none⟩)) := cellOf (H.at_tb j hj) rfl
    have HN := hide hnext
    clear hnext hm1
    gi_wp2_with fail
    refine ⟨trivial, (callsIn_wide.2 (hpop H i hi hR)).mono ?_⟩
    rintro e w1 ⟨rfl, H1⟩
    obtain ⟨q1, q2⟩ := HN.out w1 H1
    by_cases hn : R = []
    · have hb : pkB R = false := by simp [pkB, hn]
      rw [hb]
      have q := q1 hn
      clear hn q1 q2
      gi_wp2
      refine ⟨fun _ h => (by cases h), ?_⟩
      gi_wp2
      refine bodyPost_ret (results_none rfl _ _ _) rfl ?_
      exact ⟨⟨_, rfl⟩, .inl q⟩
    · have hb : pkB R = true := by simp [pkB, hn]
      rw [hb]
      have q := q2 hn
      clear hn q1 q2
      obtain ⟨fn, tmps, assign, body, hy, hRd⟩ := hY _ _ _ q
      dsimp only at hy
      gi_wp2
      refine hRd.mono ?_
      rintro e W3 (⟨rfl, m', hm', hI3⟩ | ⟨rfl, hJx3⟩)
      · gi_wp2
        go_roundw
        case rel => exact ⟨m', hI3⟩
        case measure => exact Nat.lt_of_le_of_lt (lst_is hI3).2 hm'
      · gi_wp2
        refine bodyPost_ret (results_none rfl _ _ _) rfl ?_
        exact ⟨⟨_, rfl⟩, .inr hJx3⟩

end Go.Proofs.Ytjhgjohnfkgleab
