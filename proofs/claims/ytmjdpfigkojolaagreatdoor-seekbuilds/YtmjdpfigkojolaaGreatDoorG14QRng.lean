import Derived.Test.YtmjdpfigkojolaaGreatDoorG13Wkq
import Derived.Stop.RegionWithIn
import Derived.TacticsInMore
import Derived.LoopNIn
import Derived.LoopIn
import Derived.OwnWalkIn
import Derived.Shelf.RegionOpen
import Derived.RangeFuncBound
import Derived.Test.YtmjdpfigkojolaaGreatDoorG00Oix
import Derived.Lib.SliceRun
import Derived.Test.YtmjdpfigkojolaaGreatDoorRows
import Derived.RangeFuncNested
import Derived.RangeFuncCalls
import Derived.RangeFuncLeaves
import Derived.RangeFuncBox
namespace Go.Proofs.YtmjdpfigkojolaaGreatDoor
open Go.RowKit Go.Maps
set_option maxRecDepth 20000
set_option linter.unusedVariables false
set_option linter.unusedSimpArgs false

structure Bx (b : Nat) (w w' : World) : Prop where
  os : w'.os = w.os
  tape : w'.tape = w.tape
  output : w'.output = w.output
  size : w.heap.size ≤ w'.heap.size
  block : ∀ k, k < w.heap.size → k ≠ b → w'.heap[k]? = w.heap[k]?

theorem Bx.refl (b : Nat) (w : World) : Bx b w w := ⟨rfl, rfl, rfl, Nat.le_refl _, fun _ _ _ => rfl⟩
theorem Bx.below {b : Nat} {w W' w' : World} (h : Bx b w W') (hs : W'.heap.size = w.heap.size) (hb : Below W'.heap.size W' w') : Bx b w w' :=
  ⟨hb.os.trans h.os, hb.tape.trans h.tape, hb.output.trans h.output, Nat.le_trans h.size hb.size, fun k hk hn => (hb.block k (by omega)).trans (h.block k hk hn)⟩
theorem Bx.set {b : Nat} {w W' : World} (h : Bx b w W') (k : Nat) (u : Value) : Bx b w (W'.setCell ⟨b, k, none⟩ u) :=
  ⟨h.os, h.tape, h.output, by rw [size_setCell]; exact h.size, fun j hj hn => (setCell_others W' b k u j hn).trans (h.block j hj hn)⟩

structure Wks (W0 w : World) (b2 : Nat) (W' wr : World) (g r : Nat) (row : List Int) (p L : Nat) (o : List Int) (dn : Bool) (v : Value) (R : List (Array Value)) (K : Nat → Nat) (ys : List ((Nat → Nat) × Thing)) : Prop where
  tx : TX W' wr g r row p L o dn ((K, tpq v R) :: ys)
  bx : Bx b2 w W'
  sz : W'.heap.size = w.heap.size
  cell : W'.cell? ⟨b2, 0, none⟩ = some v
  fr : W'.frozen? ⟨b2, 0, none⟩ = false
  lo : W0.heap.size ≤ b2
  be : Below W0.heap.size W0 W'

theorem Wks.lt {W0 w : World} {b2 : Nat} {W' wr : World} {g r : Nat} {row : List Int} {p L : Nat} {o : List Int} {dn : Bool} {v : Value} {R : List (Array Value)} {K : Nat → Nat} {ys : List ((Nat → Nat) × Thing)} (h : Wks W0 w b2 W' wr g r row p L o dn v R K ys) : b2 < W'.heap.size := World.block_lt_of_cell? _ _ h.cell

end Go.Proofs.YtmjdpfigkojolaaGreatDoor

namespace Go.Proofs.YtmjdpfigkojolaaGreatDoor
open Go.RowKit Go.Maps
set_option maxRecDepth 20000
set_option linter.unusedVariables false

def Ians (w : World) (l : List Int) (limit : Int) (e : Ending) (w' : World) : Prop :=
  ∃ E n o a c, Ifl l limit E n o ∧ e = .returned (.tuple #[.slice a o.length c, .int .i64 (n : Nat), .int .i64 E]) ∧ OB w' w.heap.size (.slice a o.length c) o ∧ Below w.heap.size w w'

theorem ob_set {w : World} {B b : Nat} {v u : Value} {l : List Int} (h : OB w B v l) (hb : b < B) : OB (w.setCell ⟨b, 0, none⟩ u) B v l := h.move fun k hk => setCell_others w b 0 u k (by have := (h.lt k hk).1; omega)

theorem cell_set {w : World} {b c : Nat} {u z : Value} (h : w.cell? ⟨c, 0, none⟩ = some z) (hbc : b ≠ c) : (w.setCell ⟨b, 0, none⟩ u).cell? ⟨c, 0, none⟩ = some z := by
  rw [World.cell?_of_block (w := w) (setCell_others w b 0 u c (fun e => hbc e.symm))]; exact h
theorem froz_set {w : World} {b c : Nat} {u : Value} (h : w.frozen? ⟨c, 0, none⟩ = false) (hbc : b ≠ c) : (w.setCell ⟨b, 0, none⟩ u).frozen? ⟨c, 0, none⟩ = false := by
  rw [World.frozen?_of_block (w := w) (setCell_others w b 0 u c (fun e => hbc e.symm))]; exact h

theorem five {w : World} (o0 o1 o2 o3 o4 : Obj) : ∃ w5, w5 = ((((w.alloc o0).alloc o1).alloc o2).alloc o3).alloc o4 ∧ w5.heap[w.heap.size]? = some o0 ∧ w5.heap[w.heap.size + 1]? = some o1 ∧ w5.heap[w.heap.size + 2]? = some o2 ∧ w5.heap[w.heap.size + 3]? = some o3 ∧ w5.heap[w.heap.size + 4]? = some o4 ∧ w5.heap.size = w.heap.size + 5 ∧ Below w.heap.size w w5 := by
  have b1 := (Below.refl w.heap.size w).alloc (Nat.le_refl _) o0
  have b2 := b1.alloc b1.size o1
  have b3 := b2.alloc b2.size o2
  have b4 := b3.alloc b3.size o3
  have b5 := b4.alloc b4.size o4
  refine ⟨_, rfl, ?_, ?_, ?_, ?_, ?_, by simp, b5⟩
  · rw [Below.heap_alloc _ _ _ (by simp <;> omega), Below.heap_alloc _ _ _ (by simp <;> omega), Below.heap_alloc _ _ _ (by simp <;> omega), Below.heap_alloc _ _ _ (by simp <;> omega)]; exact heap_alloc_new _ _
  · rw [Below.heap_alloc _ _ _ (by simp <;> omega), Below.heap_alloc _ _ _ (by simp <;> omega), Below.heap_alloc _ _ _ (by simp <;> omega)]; exact (by simpa using heap_alloc_new (w.alloc o0) o1)
  · rw [Below.heap_alloc _ _ _ (by simp <;> omega), Below.heap_alloc _ _ _ (by simp <;> omega)]; exact (by simpa using heap_alloc_new ((w.alloc o0).alloc o1) o2)
  · rw [Below.heap_alloc _ _ _ (by simp <;> omega)]; exact (by simpa using heap_alloc_new (((w.alloc o0).alloc o1).alloc o2) o3)
  · exact (by simpa using heap_alloc_new ((((w.alloc o0).alloc o1).alloc o2).alloc o3) o4)

theorem one_cell {w : World} {g : Nat} {z : Value} {t : TypeId} (h : w.heap[g]? = some (.cells #[z] t (0, 0))) : w.cell? ⟨g, 0, none⟩ = some z ∧ w.frozen? ⟨g, 0, none⟩ = false := by
  constructor
  · unfold World.cell?; rw [h]; rfl
  · unfold World.frozen?; rw [h]; rfl

set_option maxHeartbeats 4000000 in
theorem hInflate {w : World} {v : Value} {l : List Int} (h : SB w v l) (hB : Byt l) (limit : Int) (T : Tab w) (O : Odr w) :
    Calls Tryz.prog 29 #[v, .int .i64 limit] w (Ians w l limit) := by
  obtain ⟨w5, hw5, t0, t1, t2, t3, t4, hsz, hb5⟩ := five (w := w) (.cells #[v] 22) (.cells #[.int .i64 limit] 3) (.cells #[.slice none 0 0] 22) (.cells #[.int .i64 0] 3) (.cells #[.int .i64 0] 25)
  obtain ⟨k0, -⟩ := one_cell t0
  obtain ⟨k1, -⟩ := one_cell t1
  obtain ⟨k2, j2⟩ := one_cell t2
  obtain ⟨k3, j3⟩ := one_cell t3
  obtain ⟨k4, j4⟩ := one_cell t4
  have hin := hinf1 k0 k1 ⟨_, k2⟩ ⟨_, k3⟩ j2 j3 (by omega) (h.below hb5) hB (T.mono hb5) (O.mono hb5)
  obtain ⟨w4, hw4⟩ : ∃ w4, (((w.alloc (.cells #[v] 22)).alloc (.cells #[.int .i64 limit] 3)).alloc (.cells #[.slice none 0 0] 22)).alloc (.cells #[.int .i64 0] 3) = w4 := ⟨_, rfl⟩
  have hs4 : w4.heap.size = w.heap.size + 4 := by rw [← hw4]; simp
  rw [hw4] at hw5
  have HCA : Hid (Calls Tryz.prog 22 #[.func (.func 49) #[] #[.pointer (some ⟨w.heap.size, 0, none⟩), .pointer (some ⟨w.heap.size + 1, 0, none⟩), .pointer (some ⟨w.heap.size + 2, 0, none⟩), .pointer (some ⟨w.heap.size + 3, 0, none⟩)]] w4 fun e w' => ∃ E n o a c, Ifl l limit E n o ∧ e = .returned (.int .i64 E) ∧ w'.cell? ⟨w.heap.size + 2, 0, none⟩ = some (.slice a o.length c) ∧ w'.cell? ⟨w.heap.size + 3, 0, none⟩ = some (.int .i64 (n : Nat)) ∧ w'.frozen? ⟨w.heap.size + 2, 0, none⟩ = false ∧ w'.frozen? ⟨w.heap.size + 3, 0, none⟩ = false ∧ OB w' (w.heap.size + 5) (.slice a o.length c) o ∧ Below w.heap.size w w') := by
    refine (hcaught w4 49 _ (fun w => Tryz.call49 _ w)
      (fun w' => ∃ n o a c, Ifl l limit 0 n o ∧ w'.cell? ⟨w.heap.size + 2, 0, none⟩ = some (.slice a o.length c) ∧ w'.cell? ⟨w.heap.size + 3, 0, none⟩ = some (.int .i64 (n : Nat)) ∧ w'.frozen? ⟨w.heap.size + 2, 0, none⟩ = false ∧ w'.frozen? ⟨w.heap.size + 3, 0, none⟩ = false ∧ OB w' (w.heap.size + 5) (.slice a o.length c) o ∧ Below w.heap.size w w' ∧ w'.cell? ⟨w.heap.size + 4, 0, none⟩ = some (.int .i64 0) ∧ w'.frozen? ⟨w.heap.size + 4, 0, none⟩ = false ∧ w.heap.size + 5 ≤ w'.heap.size)
      (fun E w' => Ifl l limit E 0 [] ∧ Below w5.heap.size w5 w') ?_ ?_ ?_).mono ?_
    · rw [← hw5]
      refine hin.mono ?_
      rintro e w' ⟨E, n, o, hI, ⟨rfl, rfl, w1, a, c, hb, ho, rfl⟩ | ⟨he, rfl, hb⟩⟩
      · refine .inl ⟨rfl, n, o, a, c, hI, ?_⟩
        have u2 : w1.cell? ⟨w.heap.size + 2, 0, none⟩ = some (.slice none 0 0) := by rw [hb.cell (by dsimp only; omega)]; exact k2
        have u3 : w1.cell? ⟨w.heap.size + 3, 0, none⟩ = some (.int .i64 0) := by rw [hb.cell (by dsimp only; omega)]; exact k3
        have u4 : w1.cell? ⟨w.heap.size + 4, 0, none⟩ = some (.int .i64 0) := by rw [hb.cell (by dsimp only; omega)]; exact k4
        have v2 : w1.frozen? ⟨w.heap.size + 2, 0, none⟩ = false := by rw [hb.frozen (by dsimp only; omega)]; exact j2
        have v3 : w1.frozen? ⟨w.heap.size + 3, 0, none⟩ = false := by rw [hb.frozen (by dsimp only; omega)]; exact j3
        have v4 : w1.frozen? ⟨w.heap.size + 4, 0, none⟩ = false := by rw [hb.frozen (by dsimp only; omega)]; exact j4
        rw [hsz] at ho
        have hsz1 := hb.size
        refine ⟨cell_set (World.cell?_setCell_same _ _ _ u2) (by omega), World.cell?_setCell_same _ _ _ (cell_set u3 (by omega)), froz_set ?_ (by omega), ?_, ob_set (ob_set ho (by omega)) (by omega), ?_, cell_set (cell_set u4 (by omega)) (by omega), froz_set (froz_set v4 (by omega)) (by omega), by simp; omega⟩
        · rw [World.frozen?_setCell]; exact v2
        · rw [World.frozen?_setCell]; exact froz_set v3 (by omega)
        · exact ((hb5.trans (hb.mono (by omega))).setCell (p := ⟨w.heap.size + 2, 0, none⟩) (by dsimp only; omega) _).setCell (p := ⟨w.heap.size + 3, 0, none⟩) (by dsimp only; omega) _
      · refine .inr ⟨E, rfl, ?_, hb⟩
        rcases hI with ⟨hd, rfl, rfl, rfl⟩ | ⟨hd, ps, q, o', ht, ⟨h0, _⟩ | ⟨_, rfl, rfl⟩⟩
        · exact .inl ⟨hd, rfl, rfl, rfl⟩
        · exact absurd h0 he
        · exact .inr ⟨hd, ps, q, o', ht, .inr ⟨he, rfl, rfl⟩⟩
    · rintro w' ⟨n, o, a, c, -, -, -, -, -, -, -, x1, x2, x3⟩
      rw [hs4]
      exact ⟨x1, x2, by omega⟩
    · rintro E w' ⟨-, hb⟩
      rw [hs4]
      exact ⟨by rw [hb.cell (by dsimp only; omega)]; exact k4, by rw [hb.frozen (by dsimp only; omega)]; exact j4, by have := hb.size; omega⟩
    · rintro e w' (⟨rfl, w1, ⟨n, o, a, c, hI, x2, x3, y2, y3, ho, hb, -⟩, rfl⟩ | ⟨E, w1, rfl, ⟨hI, hb⟩, rfl⟩)
      · rw [hs4]
        refine ⟨0, n, o, a, c, hI, rfl, cell_set x2 (by omega), cell_set x3 (by omega), froz_set y2 (by omega), froz_set y3 (by omega), ob_set ho (by omega), hb.setCell (p := ⟨w.heap.size + 4, 0, none⟩) (by dsimp only; omega) _⟩
      · rw [hs4]
        have hsz1 := hb.size
        have hbb : Below w.heap.size w (w1.setCell ⟨w.heap.size + 4, 0, none⟩ (.int .i64 E)) := (hb5.trans (hb.mono (by omega))).setCell (p := ⟨w.heap.size + 4, 0, none⟩) (by dsimp only; omega) _
        have u2 : w1.cell? ⟨w.heap.size + 2, 0, none⟩ = some (.slice none 0 0) := by rw [hb.cell (by dsimp only; omega)]; exact k2
        have u3 : w1.cell? ⟨w.heap.size + 3, 0, none⟩ = some (.int .i64 0) := by rw [hb.cell (by dsimp only; omega)]; exact k3
        have v2 : w1.frozen? ⟨w.heap.size + 2, 0, none⟩ = false := by rw [hb.frozen (by dsimp only; omega)]; exact j2
        have v3 : w1.frozen? ⟨w.heap.size + 3, 0, none⟩ = false := by rw [hb.frozen (by dsimp only; omega)]; exact j3
        have ha := (Below.refl (w1.setCell ⟨w.heap.size + 4, 0, none⟩ (.int .i64 E)).heap.size (w1.setCell ⟨w.heap.size + 4, 0, none⟩ (.int .i64 E))).alloc (Nat.le_refl _) (.cells #[.int .i64 E] 83)
        refine ⟨E, 0, [], none, 0, hI, rfl, ?_, ?_, ?_, ?_, World.ownsRow_nil _ _ _ _, hbb.alloc hbb.size _⟩
        · rw [ha.cell (by rw [size_setCell]; dsimp only; omega)]; exact cell_set u2 (by omega)
        · rw [ha.cell (by rw [size_setCell]; dsimp only; omega)]; exact cell_set u3 (by omega)
        · rw [ha.frozen (by rw [size_setCell]; dsimp only; omega)]; exact froz_set v2 (by omega)
        · rw [ha.frozen (by rw [size_setCell]; dsimp only; omega)]; exact froz_set v3 (by omega)
  have HW4 := hide hw4
  have hmf : ∀ (fn : Fn) (first cap : Array Value) (w : World), (Instr.makeFunc fn first cap).run Tryz.prog w = .ok (.func fn first cap) w := fun _ _ _ _ => rfl
  obtain ⟨a, c, hva, -⟩ := h
  subst hva
  clear hw4 hw5 hin t0 t1 t2 t3 t4 hsz hb5 k0 k1 k2 k3 k4 j2 j3 j4 hs4 T O hB
  go_enter Tryz.func29, Tryz.ntmps29
  go_wp2_with fail
  rw [HW4.out]
  refine HCA.out.mono ?_
  rintro e w6 ⟨E, n, o, a2, c2, hI, rfl, x2, x3, y2, y3, ho, hb⟩
  obtain ⟨M, HM⟩ : ∃ M : Nat, Hid (M = o.length) := ⟨_, rfl⟩
  rw [← HM.out] at x2
  have HI := hide hI
  have HOO := hide ho
  have HBB := hide hb
  clear hI ho hb HCA
  have z1 : (w6.setCell ⟨w.heap.size + 2, 0, none⟩ (.slice a2 M c2)).cell? ⟨w.heap.size + 3, 0, none⟩ = some (.int .i64 (n : Nat)) := cell_set x3 (by omega)
  have z2 : (w6.setCell ⟨w.heap.size + 2, 0, none⟩ (.slice a2 M c2)).frozen? ⟨w.heap.size + 3, 0, none⟩ = false := froz_set y3 (by omega)
  have z3 : ((w6.setCell ⟨w.heap.size + 2, 0, none⟩ (.slice a2 M c2)).setCell ⟨w.heap.size + 3, 0, none⟩ (.int .i64 (n : Nat))).cell? ⟨w.heap.size + 2, 0, none⟩ = some (.slice a2 M c2) := cell_set (World.cell?_setCell_same _ _ _ x2) (by omega)
  have z4 : ((w6.setCell ⟨w.heap.size + 2, 0, none⟩ (.slice a2 M c2)).setCell ⟨w.heap.size + 3, 0, none⟩ (.int .i64 (n : Nat))).cell? ⟨w.heap.size + 3, 0, none⟩ = some (.int .i64 (n : Nat)) := World.cell?_setCell_same _ _ _ z1
  have HOF : Hid (OB ((w6.setCell ⟨w.heap.size + 2, 0, none⟩ (.slice a2 M c2)).setCell ⟨w.heap.size + 3, 0, none⟩ (.int .i64 (n : Nat))) (w.heap.size + 5) (.slice a2 o.length c2) o) := ob_set (ob_set HOO.out (by omega)) (by omega)
  have HBF : Hid (Below w.heap.size w ((w6.setCell ⟨w.heap.size + 2, 0, none⟩ (.slice a2 M c2)).setCell ⟨w.heap.size + 3, 0, none⟩ (.int .i64 (n : Nat)))) := (HBB.out.setCell (p := ⟨w.heap.size + 2, 0, none⟩) (by dsimp only; omega) _).setCell (p := ⟨w.heap.size + 3, 0, none⟩) (by dsimp only; omega) _
  go_wp2
  go_region
  all_goals
    go_wp2
    refine bodyPost_ret (v := .tuple #[.slice a2 M c2, .int .i64 (n : Nat), .int .i64 E]) (by simp [results, Tryz.results29, go_sem, z3, z4]) rfl ?_
    refine ⟨E, n, o, a2, c2, HI.out, by rw [HM.out], ?_, ?_⟩
    · exact (HOF.out.base (by omega)).move fun k hk => rfl
    · exact HBF.out.drew
end Go.Proofs.YtmjdpfigkojolaaGreatDoor

namespace Go.Proofs.YtmjdpfigkojolaaGreatDoor
open Go.RowKit Go.Maps
set_option maxRecDepth 20000
set_option linter.unusedVariables false
set_option linter.unusedSimpArgs false

theorem Bx.low {b : Nat} {w w4 w' : World} (h : Bx b w4 w') (hb : Below w.heap.size w w4) (hlo : w.heap.size ≤ b) : Below w.heap.size w w' :=
  ⟨h.os.trans hb.os, h.tape.trans hb.tape, h.output.trans hb.output, Nat.le_trans hb.size h.size, fun k hk => (h.block k (Nat.lt_of_lt_of_le hk hb.size) (by omega)).trans (hb.block k hk)⟩

end Go.Proofs.YtmjdpfigkojolaaGreatDoor

namespace Go.Proofs.YtmjdpfigkojolaaGreatDoor
open Go.RowKit Go.Maps Go.Shelf
attribute [local go_sem] Oper.semAt_some
set_option maxRecDepth 20000
set_option linter.unusedVariables false

/-! The iterator that Blocks hands back. -/

theorem wtake_up {w w' : World} {B : Nat} (h : ∀ k, k < B → w'.heap[k]? = w.heap[k]?) (ho : w'.os = w.os) (ht : w'.tape = w.tape) (hp : w'.output = w.output) (h1 : B ≤ w.heap.size) (h2 : B ≤ w'.heap.size) : Below (wtake w B).heap.size (wtake w B) (wtake w' B) := by
  have e := wtake_size h1
  rw [e]
  exact ⟨ho, ht, hp, by have := wtake_size h2; omega, fun k hk => (wtake_at hk).trans ((h k hk).trans (wtake_at hk).symm)⟩

def BGo (J : Nat → (Nat → Prop) → World → Prop) (Jx : World → Prop) (k : Nat) (S : Nat → Prop) (u : Value) (U : World) (c : Bool) (U' : World) : Prop :=
  (c = true ∧ J (k + 1) (fun b => S b ∧ u.ownBlock ≠ some b) U' ∧ (∀ b, S b → u.ownBlock ≠ some b → U'.heap[b]? = U.heap[b]?) ∧ U.heap.size ≤ U'.heap.size) ∨ (c = false ∧ Jx U')

def BTurns (ps : List Pc) (o : List Int) (l : Nat) (J : Nat → (Nat → Prop) → World → Prop) (Jx : World → Prop) : Prop :=
  ∀ k x S U u, ps[k]? = some x → J k S U → (∀ b, S b → b < U.heap.size) → OB U 0 u (sgb o x) → (∀ b, u.ownBlock = some b → S b) → YieldAt Fence.wide 1 Tryz.prog l #[.agg (pcq x), u] U fun e U' => ∃ c, e = .returned (.bool c) ∧ BGo J Jx k S u U c U'

def BBears (J : Nat → (Nat → Prop) → World → Prop) : Prop := ∀ k S S' w w', J k S w → Mvb S w w' → (∀ b, S b → b < w.heap.size) → (∀ b, S b → S' b) → (∀ b, S' b → (S b ∨ w.heap.size ≤ b) ∧ b < w'.heap.size) → J k S' w'

structure Bhd (ps : List Pc) (o0 row : List Int) (L B : Nat) (J : Nat → (Nat → Prop) → World → Prop) (tB g r : Nat) (dn : Bool) (k : Nat) (S : Nat → Prop) (p : Nat) (out : List Int) (W : World) : Prop where
  ist : Ist (fun b => S b ∧ b ≠ tB) B W g r row p L out dn
  box : W.heap[tB]? = some (.cells #[.pointer (some ⟨g, 0, none⟩)] 50 (0, 0))
  sB : S tB
  bnd : ∀ b, S b → b < W.heap.size
  j : J k S W
  kl : k ≤ ps.length
  way : (dn = false ∧ ∃ E q, Txt row L p out (ps.drop k) E q o0) ∨ (dn = true ∧ k = ps.length)

theorem Txt.step {row : List Int} {L p : Nat} {out : List Int} {ps : List Pc} {E : Int} {q : Nat} {o0 : List Int} (h : Txt row L p out ps E q o0) {e : Int} {f : Bool} {k : Int} {q1 : Nat} {o1 : List Int} (hb : Blk row L p out e f k q1 o1) :
    (e ≠ 0 → ps = []) ∧ (e = 0 → ∃ rest, ps = ⟨k, f, p, q1, out.length, o1.length⟩ :: rest ∧ (∃ t, o0 = o1 ++ t) ∧ ((f = true ∧ rest = []) ∨ (f = false ∧ Txt row L q1 o1 rest E q o0))) := by
  cases h with
  | bad h1 h2 =>
    obtain ⟨rfl, _⟩ := h1.det hb
    exact ⟨fun _ => rfl, fun e0 => absurd e0 h2⟩
  | last h1 =>
    obtain ⟨rfl, h2⟩ := h1.det hb
    obtain ⟨rfl, rfl, rfl, rfl⟩ := h2 rfl
    exact ⟨fun e0 => absurd rfl e0, fun _ => ⟨[], rfl, ⟨[], by simp⟩, .inl ⟨rfl, rfl⟩⟩⟩
  | go h1 h3 =>
    obtain ⟨rfl, h2⟩ := h1.det hb
    obtain ⟨rfl, rfl, rfl, rfl⟩ := h2 rfl
    exact ⟨fun e0 => absurd rfl e0, fun _ => ⟨_, rfl, h3.pre, .inr ⟨rfl, h3⟩⟩⟩

theorem drop_cons {α : Type} {ps rest : List α} {x : α} {k : Nat} (h : ps.drop k = x :: rest) : ps[k]? = some x ∧ ps.drop (k + 1) = rest ∧ k < ps.length := by
  have h1 : k < ps.length := by
    rcases Nat.lt_or_ge k ps.length with q | q
    · exact q
    · rw [List.drop_eq_nil_of_le q] at h; cases h
  rw [List.drop_eq_getElem_cons h1] at h
  injection h with h2 h3
  exact ⟨by rw [List.getElem?_eq_getElem h1, h2], h3, h1⟩

variable {ps : List Pc} {o0 row : List Int} {L B : Nat} {J : Nat → (Nat → Prop) → World → Prop} {tB g r : Nat} {dn : Bool} {k : Nat} {S : Nat → Prop} {p : Nat} {out : List Int} {W : World}

structure Bmid (ps : List Pc) (o0 row : List Int) (L B : Nat) (J : Nat → (Nat → Prop) → World → Prop) (tB g r pB : Nat) (dn : Bool) (k : Nat) (S : Nat → Prop) (p q : Nat) (out o : List Int) (x : Pc) (Wr w2 : World) : Prop where
  hd : Bhd ps o0 row L B J tB g r false k S p out Wr
  pz : pB = Wr.heap.size
  got : ps[k]? = some x
  is : x = ⟨x.kind, dn, p, q, out.length, o.length⟩
  seg : ∃ s t, o = out ++ s ∧ o0 = o ++ t
  way : (dn = false ∧ ∃ E q', Txt row L q o (ps.drop (k + 1)) E q' o0) ∨ (dn = true ∧ k + 1 = ps.length)
  gone : ∃ V, V.heap.size = Wr.heap.size + 1 ∧ Below Wr.heap.size Wr V ∧ Gone (fun b => S b ∧ b ≠ tB) B pB V w2 g r row p L out dn x.kind q o
  lt : p < q ∧ q ≤ row.length

theorem Bhd.one (h : Bhd ps o0 row L B J tB g r false k S p out W) (O1 : Obj) {w2 : World} {E : Int} {f : Bool} {kk : Int} {q : Nat} {o : List Int} (hb : Blk row L p out E f kk q o) :
    (E ≠ 0 → k = ps.length) ∧ (E = 0 → Gone (fun b => S b ∧ b ≠ tB) B W.heap.size (W.alloc O1) w2 g r row p L out f kk q o → Bmid ps o0 row L B J tB g r W.heap.size f k S p q out o ⟨kk, f, p, q, out.length, o.length⟩ W w2) := by
  obtain ⟨hbit, -⟩ := h.ist.fact
  rcases h.way with ⟨_, E', q', ht⟩ | ⟨h0, _⟩
  · obtain ⟨h1, h2⟩ := ht.step hb
    refine ⟨fun he => ?_, fun he hg => ?_⟩
    · have := h1 he
      have h3 := h.kl
      rcases Nat.lt_or_ge k ps.length with q | q
      · rw [List.drop_eq_getElem_cons q] at this; cases this
      · omega
    · obtain ⟨rest, h3, h4, h5⟩ := h2 he
      obtain ⟨d1, d2, d3⟩ := drop_cons h3
      obtain ⟨s, hs⟩ := hb.pre
      obtain ⟨t, ht2⟩ := h4
      subst he
      have hlt := hb.lt hbit rfl
      refine ⟨h, rfl, d1, rfl, ⟨s, t, hs, ht2⟩, ?_, ⟨W.alloc O1, by simp, (Below.refl _ _).alloc (Nat.le_refl _) _, hg⟩, by omega⟩
      rcases h5 with ⟨rfl, h6⟩ | ⟨rfl, h6⟩
      · right
        refine ⟨rfl, ?_⟩
        have := congrArg List.length d2
        rw [h6, List.length_drop] at this
        simp at this
        omega
      · exact .inl ⟨rfl, E', q', by rw [d2]; exact h6⟩
  · cases h0

section
variable {q : Nat} {o : List Int} {x : Pc} {pB : Nat} {Wr w2 : World}

theorem Bmid.tbox (h : Bmid ps o0 row L B J tB g r pB dn k S p q out o x Wr w2) : w2.heap[tB]? = some (.cells #[.pointer (some ⟨g, 0, none⟩)] 50 (0, 0)) := by
  obtain ⟨V, h1, h2, h3⟩ := h.gone
  have hz := h.hd.bnd _ h.hd.sB
  refine h3.cell ((h2.block _ hz).trans h.hd.box) (fun e => e.2 rfl) (by rw [h.pz]; omega)

theorem Bmid.pbox (h : Bmid ps o0 row L B J tB g r pB dn k S p q out o x Wr w2) : w2.heap[pB]? = some (pcO x.kind dn p q out.length o.length) := by
  obtain ⟨V, h1, h2, S', h3, h4, h5, h6⟩ := h.gone
  exact h5

theorem Bmid.mvb (h : Bmid ps o0 row L B J tB g r pB dn k S p q out o x Wr w2) : Mvb S Wr w2 := by
  obtain ⟨V, h1, h2, S', h3, h4, h5, h6, h7⟩ := h.gone
  refine ⟨h6.os.trans h2.os, h6.tape.trans h2.tape, h6.output.trans h2.output, Nat.le_trans h2.size h6.size, fun b hb hS => (h6.blk b (by omega) (fun e => ?_)).trans (h2.block b hb)⟩
  rcases e with e | e
  · exact hS e.1
  · have := h.pz; omega

theorem Bmid.turn (h : Bmid ps o0 row L B J tB g r pB dn k S p q out o x Wr w2) (hJ : BBears J) {w3 : World} (hb : Below w2.heap.size w2 w3) : J k (grb S Wr w3) w3 ∧ ∀ b, grb S Wr w3 b → b < w3.heap.size := by
  have hm := h.mvb
  have hs := hm.size
  have hs2 := hb.size
  have hz : ∀ b, grb S Wr w3 b → b < w3.heap.size := fun b e => by
    rcases e with e | e
    · have := h.hd.bnd b e; omega
    · exact e.2
  refine ⟨hJ k S _ Wr w3 h.hd.j ⟨hb.os.trans hm.os, hb.tape.trans hm.tape, hb.output.trans hm.output, by omega, fun b e hS => (hb.block b (by omega)).trans (hm.blk b e hS)⟩ h.hd.bnd (fun b e => .inl e) (fun b e => ⟨?_, hz b e⟩), hz⟩
  rcases e with e | e
  · exact .inl e
  · exact .inr e.1

theorem Bmid.next (h : Bmid ps o0 row L B J tB g r pB dn k S p q out o x Wr w2) {w3 w4 : World} {u : Value} (hb : Below w2.heap.size w2 w3) (hu : ∀ b, u.ownBlock = some b → w2.heap.size ≤ b)
    (hj : J (k + 1) (fun b => grb S Wr w3 b ∧ u.ownBlock ≠ some b) w4) (hk : ∀ b, grb S Wr w3 b → u.ownBlock ≠ some b → w4.heap[b]? = w3.heap[b]?) (hs : w3.heap.size ≤ w4.heap.size) :
    Bhd ps o0 row L B J tB g r dn (k + 1) (fun b => grb S Wr w3 b ∧ u.ownBlock ≠ some b) q o w4 := by
  have hm := h.mvb
  have hs1 := hm.size
  have hs2 := hb.size
  have hzt := h.hd.bnd _ h.hd.sB
  have htb := h.tbox
  obtain ⟨V, h1, h2, S', h3, h4, h5, h6, h7⟩ := h.gone
  have hun : ∀ b, b < w2.heap.size → u.ownBlock ≠ some b := fun b hb e => by have := hu b e; omega
  have key : ∀ b, S' b → (grb S Wr w3 b ∧ u.ownBlock ≠ some b) ∧ b ≠ tB ∧ b < w2.heap.size := fun b e => by
    rcases h4 b e with e | e
    · have := h.hd.bnd b e.1
      exact ⟨⟨.inl e.1, hun b (by omega)⟩, e.2, by omega⟩
    · exact ⟨⟨.inr ⟨by omega, by omega⟩, hun b e.2⟩, by omega, e.2⟩
  refine ⟨h3.move (by omega) (fun b e => ?_) (fun b e => ⟨(key b e).1, (key b e).2.1⟩), ?_, ⟨.inl h.hd.sB, hun _ (by omega)⟩, fun b e => ?_, hj, ?_, h.way⟩
  · exact (hk b (key b e).1.1 (key b e).1.2).trans (hb.block b (key b e).2.2)
  · exact (hk tB (.inl h.hd.sB) (hun _ (by omega))).trans ((hb.block tB (by omega)).trans htb)
  · rcases e.1 with e | e
    · have := h.hd.bnd b e; omega
    · omega
  · have := h.got
    have := (List.getElem?_eq_some_iff.1 this).1
    omega
end
end Go.Proofs.YtmjdpfigkojolaaGreatDoor

namespace Go.Proofs.YtmjdpfigkojolaaGreatDoor
open Go.RowKit Go.Maps
set_option maxRecDepth 20000
set_option linter.unusedVariables false

theorem bclone_any (v : Value) (D : List Int) (w : World) (h : SB w v D) (hn : D.length ≤ 33554432) :
    Calls Tryz.prog 34 #[v] w fun e w' => ∃ u, e = .returned u ∧ OB w' w.heap.size u D ∧ Below w.heap.size w w' := by
  have he := fun (w : World) (a : Option Addr) (n c : Nat) => Lib.run_eql_slice_nil (P := Tryz.prog) w 22 5 a n c 0 0 Tryz.underlying22
  have H := hide h
  obtain ⟨ao, cap, rfl, hlc, hcm, hnil, hcell⟩ := h
  cases ao with
  | none =>
    have hc0 := hnil rfl
    subst hc0
    have hD : D = [] := List.length_eq_zero_iff.1 (by omega)
    subst hD
    clear hnil hcell hcm hlc
    go_enter Tryz.func34, Tryz.ntmps34
    go_wp2
    go_ret
    exact ⟨_, rfl, World.ownsRow_nil _ _ _ _, Below.refl _ _⟩
  | some ad =>
    clear hnil hcell
    have HSR := hide ((H.out.below ((Below.refl _ _).alloc (Nat.le_refl _) (.cells #[] 5))).src)
    have HO : Hid (OB (w.alloc (.cells #[] 5)) w.heap.size (.slice (some ⟨w.heap.size, 0, none⟩) 0 0) []) := by
      show World.ownsRow _ _ _ _ _ _ _
      refine ⟨by simp, .inr ⟨w.heap.size, 0, #[], by simp, Nat.le_refl _, heap_alloc_new w _, ?_⟩⟩
      simp
    go_enter Tryz.func34, Tryz.ntmps34
    go_wp2_with (at_builtin; refine wpList_app rfl _ _ 22 rfl w.heap.size (.slice (some ⟨w.heap.size, 0, none⟩) 0 0) _ [] D rfl HO.out rfl HSR.out (by simp; omega) (by simp) ?_)
    intro v6 w6 ho6 hg6
    have HN : Hid (OB w6 w.heap.size v6 D ∧ Below w.heap.size w w6) := by
      have b1 : Below w.heap.size w (w.alloc (.cells #[] 5)) := (Below.refl _ _).alloc (Nat.le_refl _) _
      have hb := hg6.by
      refine ⟨ho6, hb.os.trans b1.os, hb.tape.trans b1.tape, hb.output.trans b1.output, Nat.le_trans b1.size hb.size, fun k hk => (hb.block k (by have := b1.size; omega) (fun e => ?_)).trans (b1.block k hk)⟩
      simp [Value.ownBlock] at e
      omega
    go_wp2
    go_ret
    exact ⟨_, rfl, HN.out.1, HN.out.2⟩
end Go.Proofs.YtmjdpfigkojolaaGreatDoor

namespace Go.Proofs.YtmjdpfigkojolaaGreatDoor
open Go.RowKit Go.Maps Go.Shelf
attribute [local go_sem] Oper.semAt_some
set_option maxRecDepth 20000
set_option linter.unusedVariables false

abbrev bops : Array Oper := #[{ dst := some 19, op := Op.move (Operand.tmp 0), type := 90, pos := "inflate.go:68", after := #[], guard := none },
  { dst := some 20, op := Op.load 36 (Operand.tmp 5), type := 36, pos := "inflate.go:68", after := #[], guard := none },
  { dst := some 21, op := Op.load 50 (Operand.tmp 4), type := 50, pos := "inflate.go:68", after := #[], guard := none },
  { dst := some 22, op := Op.nilCheck (Operand.tmp 21), type := 0, pos := "inflate.go:68", after := #[{ on := 2, ground := Ground.data }], guard := none },
  { dst := some 23, op := Op.fieldAddr 57 (Operand.tmp 22) 1, type := 0, pos := "inflate.go:68", after := #[{ on := 3, ground := Ground.data }], guard := none },
  { dst := some 24, op := Op.load 22 (Operand.tmp 23), type := 22, pos := "inflate.go:68", after := #[{ on := 4, ground := Ground.data }], guard := none },
  { dst := some 25, op := Op.fieldAddr 36 (Operand.tmp 5) 4, type := 0, pos := "inflate.go:68", after := #[], guard := none },
  { dst := some 26, op := Op.load 3 (Operand.tmp 25), type := 3, pos := "inflate.go:68", after := #[{ on := 6, ground := Ground.data }], guard := none },
  { dst := some 27, op := Op.fieldAddr 36 (Operand.tmp 5) 5, type := 0, pos := "inflate.go:68", after := #[], guard := none },
  { dst := some 28, op := Op.load 3 (Operand.tmp 27), type := 3, pos := "inflate.go:68", after := #[{ on := 8, ground := Ground.data }], guard := none },
  { dst := some 29, op := Op.slice 22 (Operand.tmp 24) (some (Operand.tmp 26)) (some (Operand.tmp 28)) none, type := 22, pos := "inflate.go:68", after := #[{ on := 5, ground := Ground.data }, { on := 7, ground := Ground.data }, { on := 9, ground := Ground.data }], guard := none },
  { dst := some 30, op := Op.call { callee := Callee.value (Operand.func 34), args := #[Operand.tmp 29], argTypes := #[22] }, type := 22, pos := "inflate.go:68", after := #[{ on := 10, ground := Ground.data }], guard := none },
  { dst := some 31, op := Op.call { callee := Callee.value (Operand.tmp 19), args := #[Operand.tmp 20, Operand.tmp 30], argTypes := #[36, 22] }, type := 4, pos := "inflate.go:68", after := #[{ on := 0, ground := Ground.data }, { on := 1, ground := Ground.data }, { on := 11, ground := Ground.data }, { on := 11, ground := Ground.chain }], guard := none },
  { dst := some 32, op := Op.unOp UnOp.not 4 (Operand.tmp 31), type := 4, pos := "inflate.go:68", after := #[{ on := 12, ground := Ground.data }], guard := none }]

set_option maxHeartbeats 8000000 in
theorem reg5 {Q : Exit → Act → World → Prop} {w2 : World} {l tB pB g N M D p q cc sc : Nat} {kk : Int} {f : Bool} {ao sp : Option Addr} {s1 s2 s3 s6 s7 s8 s9 s10 s11 s12 s13 s14 s15 s16 s17 s18 s19 s20 s21 s22 s23 s24 s25 s26 s27 s28 s29 s30 s31 s32 : Value} {Y : Bool → World → Prop} {X : Value → World → Prop}
    (x0 : w2.cell? ⟨pB, 0, none⟩ = some (.int .i64 kk)) (x1 : w2.cell? ⟨pB, 1, none⟩ = some (.bool f)) (x2 : w2.cell? ⟨pB, 2, none⟩ = some (.int .i64 p)) (x3 : w2.cell? ⟨pB, 3, none⟩ = some (.int .i64 q)) (x4 : w2.cell? ⟨pB, 4, none⟩ = some (.int .i64 N)) (x5 : w2.cell? ⟨pB, 5, none⟩ = some (.int .i64 M))
    (x6 : w2.cell? ⟨tB, 0, none⟩ = some (.pointer (some ⟨g, 0, none⟩))) (x7 : w2.cell? ⟨g, 1, none⟩ = some (.slice ao M cc))
    (hsl : ∀ wx : World, (Instr.slice 22 (.slice ao M cc) (some (.int .i64 (N : Int))) (some (.int .i64 (M : Int))) none).run Tryz.prog wx = .ok (.slice sp D sc) wx)
    (hcl : Calls Tryz.prog 34 #[.slice sp D sc] w2.drew fun e w' => ∃ u, e = .returned u ∧ X u w')
    (hX : ∀ u w3, X u w3 → Below w2.heap.size w2 w3) (hpz : pB < w2.heap.size)
    (hy : ∀ u w3, X u w3 → YieldAt Fence.wide 1 Tryz.prog l #[.agg #[.int .i64 kk, .bool f, .int .i64 p, .int .i64 q, .int .i64 N, .int .i64 M], u] w3 fun e w4 => ∃ c, e = .returned (.bool c) ∧ Y c w4 ∧ ∃ u', u' = u ∧ X u w3)
    (hP : ∀ (c : List PanicEntry) (a : Act) (d : Option Tmp) (v : Value) (w : World), Q (.panic c) (a.put d v) w → Q (.panic c) a w)
    (hQ : ∀ u w3 c w4, X u w3 → Y c w4 → Q .normal ({ tmps := #[.func (.yield l) #[] #[], s1, s2, s3, .pointer (some ⟨tB, 0, none⟩), .pointer (some ⟨pB, 0, none⟩), s6, s7, s8, s9, s10, s11, s12, s13, s14, s15, s16, s17, s18, .func (.yield l) #[] #[], .agg #[.int .i64 kk, .bool f, .int .i64 p, .int .i64 q, .int .i64 N, .int .i64 M], .pointer (some ⟨g, 0, none⟩), .pointer (some ⟨g, 0, none⟩), .pointer (some ⟨g, 1, none⟩), .slice ao M cc, .pointer (some ⟨pB, 4, none⟩), .int .i64 N, .pointer (some ⟨pB, 5, none⟩), .int .i64 M, .slice sp D sc, u, .bool c, .bool (!c)], defers := [] }) w4) :
    (Code.region 5 bops true).wpIn Fence.wide 2 Tryz.prog Q ({ tmps := #[.func (.yield l) #[] #[], s1, s2, s3, .pointer (some ⟨tB, 0, none⟩), .pointer (some ⟨pB, 0, none⟩), s6, s7, s8, s9, s10, s11, s12, s13, s14, s15, s16, s17, s18, s19, s20, s21, s22, s23, s24, s25, s26, s27, s28, s29, s30, s31, s32], defers := [] }) w2 := by
  obtain ⟨W, HW⟩ : ∃ W, Hid (W = w2.drew) := ⟨_, rfl⟩
  have k0 : W.cell? ⟨pB, 0, none⟩ = some (.int .i64 kk) := by rw [HW.out]; exact x0
  have k1 : W.cell? ⟨pB, 1, none⟩ = some (.bool f) := by rw [HW.out]; exact x1
  have k2 : W.cell? ⟨pB, 2, none⟩ = some (.int .i64 p) := by rw [HW.out]; exact x2
  have k3 : W.cell? ⟨pB, 3, none⟩ = some (.int .i64 q) := by rw [HW.out]; exact x3
  have k4 : W.cell? ⟨pB, 4, none⟩ = some (.int .i64 N) := by rw [HW.out]; exact x4
  have k5 : W.cell? ⟨pB, 5, none⟩ = some (.int .i64 M) := by rw [HW.out]; exact x5
  have k6 : W.cell? ⟨tB, 0, none⟩ = some (.pointer (some ⟨g, 0, none⟩)) := by rw [HW.out]; exact x6
  have k7 : W.cell? ⟨g, 1, none⟩ = some (.slice ao M cc) := by rw [HW.out]; exact x7
  rw [← HW.out] at hcl
  have z0 : ∀ u w3, X u w3 → w3.cell? ⟨pB, 0, none⟩ = some (.int .i64 kk) := fun u w3 h => ((hX u w3 h).cell hpz).trans x0
  have z1 : ∀ u w3, X u w3 → w3.cell? ⟨pB, 1, none⟩ = some (.bool f) := fun u w3 h => ((hX u w3 h).cell hpz).trans x1
  have z2 : ∀ u w3, X u w3 → w3.cell? ⟨pB, 2, none⟩ = some (.int .i64 p) := fun u w3 h => ((hX u w3 h).cell hpz).trans x2
  have z3 : ∀ u w3, X u w3 → w3.cell? ⟨pB, 3, none⟩ = some (.int .i64 q) := fun u w3 h => ((hX u w3 h).cell hpz).trans x3
  have z4 : ∀ u w3, X u w3 → w3.cell? ⟨pB, 4, none⟩ = some (.int .i64 N) := fun u w3 h => ((hX u w3 h).cell hpz).trans x4
  have z5 : ∀ u w3, X u w3 → w3.cell? ⟨pB, 5, none⟩ = some (.int .i64 M) := fun u w3 h => ((hX u w3 h).cell hpz).trans x5
  have HCL := hide hcl
  have HYY := hide hy
  have HQQ := hide hQ
  clear x0 x1 x2 x3 x4 x5 x6 x7 hcl hy hQ hX hpz
  have y_all : ∀ u w3, X u w3 → ∀ li : Array Bool, li = #[true, true, true, true, true, true, true, true, true, true, true, true, false, false] → wpAnyIn Fence.wide 2 Tryz.prog .any bops Q 2 li ({ tmps := #[.func (.yield l) #[] #[], s1, s2, s3, .pointer (some ⟨tB, 0, none⟩), .pointer (some ⟨pB, 0, none⟩), s6, s7, s8, s9, s10, s11, s12, s13, s14, s15, s16, s17, s18, .func (.yield l) #[] #[], .agg #[.int .i64 kk, .bool f, .int .i64 p, .int .i64 q, .int .i64 N, .int .i64 M], .pointer (some ⟨g, 0, none⟩), .pointer (some ⟨g, 0, none⟩), .pointer (some ⟨g, 1, none⟩), .slice ao M cc, .pointer (some ⟨pB, 4, none⟩), .int .i64 N, .pointer (some ⟨pB, 5, none⟩), .int .i64 M, .slice sp D sc, u, s31, s32], defers := [] }) w3 := by
    intro u w3 hx li hli
    subst hli
    refine wpAnyIn_ready (rs := [12]) (by kernel_rfl) (by simp) ?_
    refine AllReadyIn.cons rfl (fun K hK => ?_) ?_
    · obtain ⟨fn, tmps, assign, body, hyy, hRd⟩ := HYY.out u w3 hx
      have HRD := hide hRd
      clear hRd
      go_simp
      gi_wp2_with fail
      refine HRD.out.mono ?_
      rintro e w4 ⟨c, rfl, hY, u', -, hx'⟩
      have HY4 := hide hY
      clear hY
      go_simp
      refine hK _ _ ?_
      refine wpAnyIn_ready (rs := [13]) (by kernel_rfl) (by simp) ?_
      refine AllReadyIn.cons rfl (fun K hK => ?_) AllReadyIn.nil
      go_simp
      refine hK _ _ ?_
      refine wpAnyIn_done (by kernel_rfl) ?_ _
      exact HQQ.out u w3 c w4 hx HY4.out
    exact AllReadyIn.nil
  have y_p : ∀ u w3, X u w3 → ∀ li : Array Bool, li = #[true, false, true, true, true, true, true, true, true, true, true, true, false, false] → wpAnyIn Fence.wide 2 Tryz.prog .any bops Q 3 li ({ tmps := #[.func (.yield l) #[] #[], s1, s2, s3, .pointer (some ⟨tB, 0, none⟩), .pointer (some ⟨pB, 0, none⟩), s6, s7, s8, s9, s10, s11, s12, s13, s14, s15, s16, s17, s18, .func (.yield l) #[] #[], s20, .pointer (some ⟨g, 0, none⟩), .pointer (some ⟨g, 0, none⟩), .pointer (some ⟨g, 1, none⟩), .slice ao M cc, .pointer (some ⟨pB, 4, none⟩), .int .i64 N, .pointer (some ⟨pB, 5, none⟩), .int .i64 M, .slice sp D sc, u, s31, s32], defers := [] }) w3 := by
    intro u w3 hx li hli
    subst hli
    refine wpAnyIn_ready (rs := [1]) (by kernel_rfl) (by simp) ?_
    refine AllReadyIn.cons rfl (fun K hK => ?_) ?_
    · have a0 := z0 u w3 hx
      have a1 := z1 u w3 hx
      have a2 := z2 u w3 hx
      have a3 := z3 u w3 hx
      have a4 := z4 u w3 hx
      have a5 := z5 u w3 hx
      clear z0 z1 z2 z3 z4 z5
      go_simp
      refine hK _ _ ?_
      exact y_all u w3 hx _ (by kernel_rfl)
    exact AllReadyIn.nil
  clear HYY HQQ
  have t_1 : ∀ li : Array Bool, li = #[true, true, true, true, true, true, true, true, true, true, true, false, false, false] → wpAnyIn Fence.wide 2 Tryz.prog .any bops Q 3 li ({ tmps := #[.func (.yield l) #[] #[], s1, s2, s3, .pointer (some ⟨tB, 0, none⟩), .pointer (some ⟨pB, 0, none⟩), s6, s7, s8, s9, s10, s11, s12, s13, s14, s15, s16, s17, s18, .func (.yield l) #[] #[], .agg #[.int .i64 kk, .bool f, .int .i64 p, .int .i64 q, .int .i64 N, .int .i64 M], .pointer (some ⟨g, 0, none⟩), .pointer (some ⟨g, 0, none⟩), .pointer (some ⟨g, 1, none⟩), .slice ao M cc, .pointer (some ⟨pB, 4, none⟩), .int .i64 N, .pointer (some ⟨pB, 5, none⟩), .int .i64 M, .slice sp D sc, s30, s31, s32], defers := [] }) W := by
    intro li hli
    subst hli
    refine wpAnyIn_ready (rs := [11]) (by kernel_rfl) (by simp) ?_
    refine AllReadyIn.cons rfl (fun K hK => ?_) ?_
    · go_simp
      refine ⟨trivial, (callsIn_wide.2 HCL.out).mono ?_⟩
      rintro e w3 ⟨u, rfl, hx⟩
      go_simp
      refine hK _ _ ?_
      exact y_all u w3 hx _ (by kernel_rfl)
    exact AllReadyIn.nil
  have t_0 : ∀ li : Array Bool, li = #[true, false, true, true, true, true, true, true, true, true, true, false, false, false] → wpAnyIn Fence.wide 2 Tryz.prog .any bops Q 4 li ({ tmps := #[.func (.yield l) #[] #[], s1, s2, s3, .pointer (some ⟨tB, 0, none⟩), .pointer (some ⟨pB, 0, none⟩), s6, s7, s8, s9, s10, s11, s12, s13, s14, s15, s16, s17, s18, .func (.yield l) #[] #[], s20, .pointer (some ⟨g, 0, none⟩), .pointer (some ⟨g, 0, none⟩), .pointer (some ⟨g, 1, none⟩), .slice ao M cc, .pointer (some ⟨pB, 4, none⟩), .int .i64 N, .pointer (some ⟨pB, 5, none⟩), .int .i64 M, .slice sp D sc, s30, s31, s32], defers := [] }) W := by
    intro li hli
    subst hli
    refine wpAnyIn_ready (rs := [1, 11]) (by kernel_rfl) (by simp) ?_
    refine AllReadyIn.cons rfl (fun K hK => ?_) ?_
    · go_simp
      refine hK _ _ ?_
      exact t_1 _ (by kernel_rfl)
    refine AllReadyIn.cons rfl (fun K hK => ?_) ?_
    · go_simp
      refine ⟨trivial, (callsIn_wide.2 HCL.out).mono ?_⟩
      rintro e w3 ⟨u, rfl, hx⟩
      go_simp
      refine hK _ _ ?_
      exact y_p u w3 hx _ (by kernel_rfl)
    exact AllReadyIn.nil
  clear HCL y_all y_p z0 z1 z2 z3 z4 z5
  have s_1111 : ∀ li : Array Bool, li = #[true, true, true, true, true, false, true, true, true, true, false, false, false, false] → wpAnyIn Fence.wide 2 Tryz.prog .any bops Q 5 li ({ tmps := #[.func (.yield l) #[] #[], s1, s2, s3, .pointer (some ⟨tB, 0, none⟩), .pointer (some ⟨pB, 0, none⟩), s6, s7, s8, s9, s10, s11, s12, s13, s14, s15, s16, s17, s18, .func (.yield l) #[] #[], .agg #[.int .i64 kk, .bool f, .int .i64 p, .int .i64 q, .int .i64 N, .int .i64 M], .pointer (some ⟨g, 0, none⟩), .pointer (some ⟨g, 0, none⟩), .pointer (some ⟨g, 1, none⟩), s24, .pointer (some ⟨pB, 4, none⟩), .int .i64 N, .pointer (some ⟨pB, 5, none⟩), .int .i64 M, s29, s30, s31, s32], defers := [] }) W := by
    intro li hli
    subst hli
    refine wpAnyIn_ready (rs := [5]) (by kernel_rfl) (by simp) ?_
    refine AllReadyIn.cons rfl (fun K hK => ?_) ?_
    · go_simp
      refine hK _ _ ?_
      refine wpAnyIn_take (i := 10) (v := .slice sp D sc) rfl rfl (by kernel_rfl) (by kernel_rfl) (by kernel_rfl) (fun _ _ _ h => hP _ _ _ _ _ h) ⟨Or.inl ⟨by rfl, fun w => by go_simp⟩, fun _ => rfl⟩ ?_
      exact t_1 _ (by kernel_rfl)
    exact AllReadyIn.nil
  have s_1201 : ∀ li : Array Bool, li = #[true, true, true, true, true, true, true, false, true, true, false, false, false, false] → wpAnyIn Fence.wide 2 Tryz.prog .any bops Q 5 li ({ tmps := #[.func (.yield l) #[] #[], s1, s2, s3, .pointer (some ⟨tB, 0, none⟩), .pointer (some ⟨pB, 0, none⟩), s6, s7, s8, s9, s10, s11, s12, s13, s14, s15, s16, s17, s18, .func (.yield l) #[] #[], .agg #[.int .i64 kk, .bool f, .int .i64 p, .int .i64 q, .int .i64 N, .int .i64 M], .pointer (some ⟨g, 0, none⟩), .pointer (some ⟨g, 0, none⟩), .pointer (some ⟨g, 1, none⟩), .slice ao M cc, .pointer (some ⟨pB, 4, none⟩), s26, .pointer (some ⟨pB, 5, none⟩), .int .i64 M, s29, s30, s31, s32], defers := [] }) W := by
    intro li hli
    subst hli
    refine wpAnyIn_ready (rs := [7]) (by kernel_rfl) (by simp) ?_
    refine AllReadyIn.cons rfl (fun K hK => ?_) ?_
    · go_simp
      refine hK _ _ ?_
      refine wpAnyIn_take (i := 10) (v := .slice sp D sc) rfl rfl (by kernel_rfl) (by kernel_rfl) (by kernel_rfl) (fun _ _ _ h => hP _ _ _ _ _ h) ⟨Or.inl ⟨by rfl, fun w => by go_simp⟩, fun _ => rfl⟩ ?_
      exact t_1 _ (by kernel_rfl)
    exact AllReadyIn.nil
  have s_1210 : ∀ li : Array Bool, li = #[true, true, true, true, true, true, true, true, true, false, false, false, false, false] → wpAnyIn Fence.wide 2 Tryz.prog .any bops Q 5 li ({ tmps := #[.func (.yield l) #[] #[], s1, s2, s3, .pointer (some ⟨tB, 0, none⟩), .pointer (some ⟨pB, 0, none⟩), s6, s7, s8, s9, s10, s11, s12, s13, s14, s15, s16, s17, s18, .func (.yield l) #[] #[], .agg #[.int .i64 kk, .bool f, .int .i64 p, .int .i64 q, .int .i64 N, .int .i64 M], .pointer (some ⟨g, 0, none⟩), .pointer (some ⟨g, 0, none⟩), .pointer (some ⟨g, 1, none⟩), .slice ao M cc, .pointer (some ⟨pB, 4, none⟩), .int .i64 N, .pointer (some ⟨pB, 5, none⟩), s28, s29, s30, s31, s32], defers := [] }) W := by
    intro li hli
    subst hli
    refine wpAnyIn_ready (rs := [9]) (by kernel_rfl) (by simp) ?_
    refine AllReadyIn.cons rfl (fun K hK => ?_) ?_
    · go_simp
      refine hK _ _ ?_
      refine wpAnyIn_take (i := 10) (v := .slice sp D sc) rfl rfl (by kernel_rfl) (by kernel_rfl) (by kernel_rfl) (fun _ _ _ h => hP _ _ _ _ _ h) ⟨Or.inl ⟨by rfl, fun w => by go_simp⟩, fun _ => rfl⟩ ?_
      exact t_1 _ (by kernel_rfl)
    exact AllReadyIn.nil
  have s_0111 : ∀ li : Array Bool, li = #[true, false, true, true, true, false, true, true, true, true, false, false, false, false] → wpAnyIn Fence.wide 2 Tryz.prog .any bops Q 6 li ({ tmps := #[.func (.yield l) #[] #[], s1, s2, s3, .pointer (some ⟨tB, 0, none⟩), .pointer (some ⟨pB, 0, none⟩), s6, s7, s8, s9, s10, s11, s12, s13, s14, s15, s16, s17, s18, .func (.yield l) #[] #[], s20, .pointer (some ⟨g, 0, none⟩), .pointer (some ⟨g, 0, none⟩), .pointer (some ⟨g, 1, none⟩), s24, .pointer (some ⟨pB, 4, none⟩), .int .i64 N, .pointer (some ⟨pB, 5, none⟩), .int .i64 M, s29, s30, s31, s32], defers := [] }) W := by
    intro li hli
    subst hli
    refine wpAnyIn_ready (rs := [1, 5]) (by kernel_rfl) (by simp) ?_
    refine AllReadyIn.cons rfl (fun K hK => ?_) ?_
    · go_simp
      refine hK _ _ ?_
      exact s_1111 _ (by kernel_rfl)
    refine AllReadyIn.cons rfl (fun K hK => ?_) ?_
    · go_simp
      refine hK _ _ ?_
      refine wpAnyIn_take (i := 10) (v := .slice sp D sc) rfl rfl (by kernel_rfl) (by kernel_rfl) (by kernel_rfl) (fun _ _ _ h => hP _ _ _ _ _ h) ⟨Or.inl ⟨by rfl, fun w => by go_simp⟩, fun _ => rfl⟩ ?_
      exact t_0 _ (by kernel_rfl)
    exact AllReadyIn.nil
  have s_0201 : ∀ li : Array Bool, li = #[true, false, true, true, true, true, true, false, true, true, false, false, false, false] → wpAnyIn Fence.wide 2 Tryz.prog .any bops Q 6 li ({ tmps := #[.func (.yield l) #[] #[], s1, s2, s3, .pointer (some ⟨tB, 0, none⟩), .pointer (some ⟨pB, 0, none⟩), s6, s7, s8, s9, s10, s11, s12, s13, s14, s15, s16, s17, s18, .func (.yield l) #[] #[], s20, .pointer (some ⟨g, 0, none⟩), .pointer (some ⟨g, 0, none⟩), .pointer (some ⟨g, 1, none⟩), .slice ao M cc, .pointer (some ⟨pB, 4, none⟩), s26, .pointer (some ⟨pB, 5, none⟩), .int .i64 M, s29, s30, s31, s32], defers := [] }) W := by
    intro li hli
    subst hli
    refine wpAnyIn_ready (rs := [1, 7]) (by kernel_rfl) (by simp) ?_
    refine AllReadyIn.cons rfl (fun K hK => ?_) ?_
    · go_simp
      refine hK _ _ ?_
      exact s_1201 _ (by kernel_rfl)
    refine AllReadyIn.cons rfl (fun K hK => ?_) ?_
    · go_simp
      refine hK _ _ ?_
      refine wpAnyIn_take (i := 10) (v := .slice sp D sc) rfl rfl (by kernel_rfl) (by kernel_rfl) (by kernel_rfl) (fun _ _ _ h => hP _ _ _ _ _ h) ⟨Or.inl ⟨by rfl, fun w => by go_simp⟩, fun _ => rfl⟩ ?_
      exact t_0 _ (by kernel_rfl)
    exact AllReadyIn.nil
  have s_0210 : ∀ li : Array Bool, li = #[true, false, true, true, true, true, true, true, true, false, false, false, false, false] → wpAnyIn Fence.wide 2 Tryz.prog .any bops Q 6 li ({ tmps := #[.func (.yield l) #[] #[], s1, s2, s3, .pointer (some ⟨tB, 0, none⟩), .pointer (some ⟨pB, 0, none⟩), s6, s7, s8, s9, s10, s11, s12, s13, s14, s15, s16, s17, s18, .func (.yield l) #[] #[], s20, .pointer (some ⟨g, 0, none⟩), .pointer (some ⟨g, 0, none⟩), .pointer (some ⟨g, 1, none⟩), .slice ao M cc, .pointer (some ⟨pB, 4, none⟩), .int .i64 N, .pointer (some ⟨pB, 5, none⟩), s28, s29, s30, s31, s32], defers := [] }) W := by
    intro li hli
    subst hli
    refine wpAnyIn_ready (rs := [1, 9]) (by kernel_rfl) (by simp) ?_
    refine AllReadyIn.cons rfl (fun K hK => ?_) ?_
    · go_simp
      refine hK _ _ ?_
      exact s_1210 _ (by kernel_rfl)
    refine AllReadyIn.cons rfl (fun K hK => ?_) ?_
    · go_simp
      refine hK _ _ ?_
      refine wpAnyIn_take (i := 10) (v := .slice sp D sc) rfl rfl (by kernel_rfl) (by kernel_rfl) (by kernel_rfl) (fun _ _ _ h => hP _ _ _ _ _ h) ⟨Or.inl ⟨by rfl, fun w => by go_simp⟩, fun _ => rfl⟩ ?_
      exact t_0 _ (by kernel_rfl)
    exact AllReadyIn.nil
  have s_1011 : ∀ li : Array Bool, li = #[true, true, false, false, false, false, true, true, true, true, false, false, false, false] → wpAnyIn Fence.wide 2 Tryz.prog .any bops Q 8 li ({ tmps := #[.func (.yield l) #[] #[], s1, s2, s3, .pointer (some ⟨tB, 0, none⟩), .pointer (some ⟨pB, 0, none⟩), s6, s7, s8, s9, s10, s11, s12, s13, s14, s15, s16, s17, s18, .func (.yield l) #[] #[], .agg #[.int .i64 kk, .bool f, .int .i64 p, .int .i64 q, .int .i64 N, .int .i64 M], s21, s22, s23, s24, .pointer (some ⟨pB, 4, none⟩), .int .i64 N, .pointer (some ⟨pB, 5, none⟩), .int .i64 M, s29, s30, s31, s32], defers := [] }) W := by
    intro li hli
    subst hli
    refine wpAnyIn_ready (rs := [2]) (by kernel_rfl) (by simp) ?_
    refine AllReadyIn.cons rfl (fun K hK => ?_) ?_
    · go_simp
      refine hK _ _ ?_
      refine wpAnyIn_take (i := 3) (v := .pointer (some ⟨g, 0, none⟩)) rfl rfl (by kernel_rfl) (by kernel_rfl) (by kernel_rfl) (fun _ _ _ h => hP _ _ _ _ _ h) ⟨Or.inl ⟨by rfl, fun w => by go_simp⟩, fun _ => rfl⟩ ?_
      refine wpAnyIn_take (i := 4) (v := .pointer (some ⟨g, 1, none⟩)) rfl rfl (by kernel_rfl) (by kernel_rfl) (by kernel_rfl) (fun _ _ _ h => hP _ _ _ _ _ h) ⟨Or.inl ⟨by rfl, fun w => by go_simp⟩, fun _ => rfl⟩ ?_
      exact s_1111 _ (by kernel_rfl)
    exact AllReadyIn.nil
  have s_1101 : ∀ li : Array Bool, li = #[true, true, true, true, true, false, true, false, true, true, false, false, false, false] → wpAnyIn Fence.wide 2 Tryz.prog .any bops Q 6 li ({ tmps := #[.func (.yield l) #[] #[], s1, s2, s3, .pointer (some ⟨tB, 0, none⟩), .pointer (some ⟨pB, 0, none⟩), s6, s7, s8, s9, s10, s11, s12, s13, s14, s15, s16, s17, s18, .func (.yield l) #[] #[], .agg #[.int .i64 kk, .bool f, .int .i64 p, .int .i64 q, .int .i64 N, .int .i64 M], .pointer (some ⟨g, 0, none⟩), .pointer (some ⟨g, 0, none⟩), .pointer (some ⟨g, 1, none⟩), s24, .pointer (some ⟨pB, 4, none⟩), s26, .pointer (some ⟨pB, 5, none⟩), .int .i64 M, s29, s30, s31, s32], defers := [] }) W := by
    intro li hli
    subst hli
    refine wpAnyIn_ready (rs := [5, 7]) (by kernel_rfl) (by simp) ?_
    refine AllReadyIn.cons rfl (fun K hK => ?_) ?_
    · go_simp
      refine hK _ _ ?_
      exact s_1201 _ (by kernel_rfl)
    refine AllReadyIn.cons rfl (fun K hK => ?_) ?_
    · go_simp
      refine hK _ _ ?_
      exact s_1111 _ (by kernel_rfl)
    exact AllReadyIn.nil
  have s_1110 : ∀ li : Array Bool, li = #[true, true, true, true, true, false, true, true, true, false, false, false, false, false] → wpAnyIn Fence.wide 2 Tryz.prog .any bops Q 6 li ({ tmps := #[.func (.yield l) #[] #[], s1, s2, s3, .pointer (some ⟨tB, 0, none⟩), .pointer (some ⟨pB, 0, none⟩), s6, s7, s8, s9, s10, s11, s12, s13, s14, s15, s16, s17, s18, .func (.yield l) #[] #[], .agg #[.int .i64 kk, .bool f, .int .i64 p, .int .i64 q, .int .i64 N, .int .i64 M], .pointer (some ⟨g, 0, none⟩), .pointer (some ⟨g, 0, none⟩), .pointer (some ⟨g, 1, none⟩), s24, .pointer (some ⟨pB, 4, none⟩), .int .i64 N, .pointer (some ⟨pB, 5, none⟩), s28, s29, s30, s31, s32], defers := [] }) W := by
    intro li hli
    subst hli
    refine wpAnyIn_ready (rs := [5, 9]) (by kernel_rfl) (by simp) ?_
    refine AllReadyIn.cons rfl (fun K hK => ?_) ?_
    · go_simp
      refine hK _ _ ?_
      exact s_1210 _ (by kernel_rfl)
    refine AllReadyIn.cons rfl (fun K hK => ?_) ?_
    · go_simp
      refine hK _ _ ?_
      exact s_1111 _ (by kernel_rfl)
    exact AllReadyIn.nil
  have s_1200 : ∀ li : Array Bool, li = #[true, true, true, true, true, true, true, false, true, false, false, false, false, false] → wpAnyIn Fence.wide 2 Tryz.prog .any bops Q 6 li ({ tmps := #[.func (.yield l) #[] #[], s1, s2, s3, .pointer (some ⟨tB, 0, none⟩), .pointer (some ⟨pB, 0, none⟩), s6, s7, s8, s9, s10, s11, s12, s13, s14, s15, s16, s17, s18, .func (.yield l) #[] #[], .agg #[.int .i64 kk, .bool f, .int .i64 p, .int .i64 q, .int .i64 N, .int .i64 M], .pointer (some ⟨g, 0, none⟩), .pointer (some ⟨g, 0, none⟩), .pointer (some ⟨g, 1, none⟩), .slice ao M cc, .pointer (some ⟨pB, 4, none⟩), s26, .pointer (some ⟨pB, 5, none⟩), s28, s29, s30, s31, s32], defers := [] }) W := by
    intro li hli
    subst hli
    refine wpAnyIn_ready (rs := [7, 9]) (by kernel_rfl) (by simp) ?_
    refine AllReadyIn.cons rfl (fun K hK => ?_) ?_
    · go_simp
      refine hK _ _ ?_
      exact s_1210 _ (by kernel_rfl)
    refine AllReadyIn.cons rfl (fun K hK => ?_) ?_
    · go_simp
      refine hK _ _ ?_
      exact s_1201 _ (by kernel_rfl)
    exact AllReadyIn.nil
  have s_0011 : ∀ li : Array Bool, li = #[true, false, false, false, false, false, true, true, true, true, false, false, false, false] → wpAnyIn Fence.wide 2 Tryz.prog .any bops Q 9 li ({ tmps := #[.func (.yield l) #[] #[], s1, s2, s3, .pointer (some ⟨tB, 0, none⟩), .pointer (some ⟨pB, 0, none⟩), s6, s7, s8, s9, s10, s11, s12, s13, s14, s15, s16, s17, s18, .func (.yield l) #[] #[], s20, s21, s22, s23, s24, .pointer (some ⟨pB, 4, none⟩), .int .i64 N, .pointer (some ⟨pB, 5, none⟩), .int .i64 M, s29, s30, s31, s32], defers := [] }) W := by
    intro li hli
    subst hli
    refine wpAnyIn_ready (rs := [1, 2]) (by kernel_rfl) (by simp) ?_
    refine AllReadyIn.cons rfl (fun K hK => ?_) ?_
    · go_simp
      refine hK _ _ ?_
      exact s_1011 _ (by kernel_rfl)
    refine AllReadyIn.cons rfl (fun K hK => ?_) ?_
    · go_simp
      refine hK _ _ ?_
      refine wpAnyIn_take (i := 3) (v := .pointer (some ⟨g, 0, none⟩)) rfl rfl (by kernel_rfl) (by kernel_rfl) (by kernel_rfl) (fun _ _ _ h => hP _ _ _ _ _ h) ⟨Or.inl ⟨by rfl, fun w => by go_simp⟩, fun _ => rfl⟩ ?_
      refine wpAnyIn_take (i := 4) (v := .pointer (some ⟨g, 1, none⟩)) rfl rfl (by kernel_rfl) (by kernel_rfl) (by kernel_rfl) (fun _ _ _ h => hP _ _ _ _ _ h) ⟨Or.inl ⟨by rfl, fun w => by go_simp⟩, fun _ => rfl⟩ ?_
      exact s_0111 _ (by kernel_rfl)
    exact AllReadyIn.nil
  have s_0101 : ∀ li : Array Bool, li = #[true, false, true, true, true, false, true, false, true, true, false, false, false, false] → wpAnyIn Fence.wide 2 Tryz.prog .any bops Q 7 li ({ tmps := #[.func (.yield l) #[] #[], s1, s2, s3, .pointer (some ⟨tB, 0, none⟩), .pointer (some ⟨pB, 0, none⟩), s6, s7, s8, s9, s10, s11, s12, s13, s14, s15, s16, s17, s18, .func (.yield l) #[] #[], s20, .pointer (some ⟨g, 0, none⟩), .pointer (some ⟨g, 0, none⟩), .pointer (some ⟨g, 1, none⟩), s24, .pointer (some ⟨pB, 4, none⟩), s26, .pointer (some ⟨pB, 5, none⟩), .int .i64 M, s29, s30, s31, s32], defers := [] }) W := by
    intro li hli
    subst hli
    refine wpAnyIn_ready (rs := [1, 5, 7]) (by kernel_rfl) (by simp) ?_
    refine AllReadyIn.cons rfl (fun K hK => ?_) ?_
    · go_simp
      refine hK _ _ ?_
      exact s_1101 _ (by kernel_rfl)
    refine AllReadyIn.cons rfl (fun K hK => ?_) ?_
    · go_simp
      refine hK _ _ ?_
      exact s_0201 _ (by kernel_rfl)
    refine AllReadyIn.cons rfl (fun K hK => ?_) ?_
    · go_simp
      refine hK _ _ ?_
      exact s_0111 _ (by kernel_rfl)
    exact AllReadyIn.nil
  have s_0110 : ∀ li : Array Bool, li = #[true, false, true, true, true, false, true, true, true, false, false, false, false, false] → wpAnyIn Fence.wide 2 Tryz.prog .any bops Q 7 li ({ tmps := #[.func (.yield l) #[] #[], s1, s2, s3, .pointer (some ⟨tB, 0, none⟩), .pointer (some ⟨pB, 0, none⟩), s6, s7, s8, s9, s10, s11, s12, s13, s14, s15, s16, s17, s18, .func (.yield l) #[] #[], s20, .pointer (some ⟨g, 0, none⟩), .pointer (some ⟨g, 0, none⟩), .pointer (some ⟨g, 1, none⟩), s24, .pointer (some ⟨pB, 4, none⟩), .int .i64 N, .pointer (some ⟨pB, 5, none⟩), s28, s29, s30, s31, s32], defers := [] }) W := by
    intro li hli
    subst hli
    refine wpAnyIn_ready (rs := [1, 5, 9]) (by kernel_rfl) (by simp) ?_
    refine AllReadyIn.cons rfl (fun K hK => ?_) ?_
    · go_simp
      refine hK _ _ ?_
      exact s_1110 _ (by kernel_rfl)
    refine AllReadyIn.cons rfl (fun K hK => ?_) ?_
    · go_simp
      refine hK _ _ ?_
      exact s_0210 _ (by kernel_rfl)
    refine AllReadyIn.cons rfl (fun K hK => ?_) ?_
    · go_simp
      refine hK _ _ ?_
      exact s_0111 _ (by kernel_rfl)
    exact AllReadyIn.nil
  have s_0200 : ∀ li : Array Bool, li = #[true, false, true, true, true, true, true, false, true, false, false, false, false, false] → wpAnyIn Fence.wide 2 Tryz.prog .any bops Q 7 li ({ tmps := #[.func (.yield l) #[] #[], s1, s2, s3, .pointer (some ⟨tB, 0, none⟩), .pointer (some ⟨pB, 0, none⟩), s6, s7, s8, s9, s10, s11, s12, s13, s14, s15, s16, s17, s18, .func (.yield l) #[] #[], s20, .pointer (some ⟨g, 0, none⟩), .pointer (some ⟨g, 0, none⟩), .pointer (some ⟨g, 1, none⟩), .slice ao M cc, .pointer (some ⟨pB, 4, none⟩), s26, .pointer (some ⟨pB, 5, none⟩), s28, s29, s30, s31, s32], defers := [] }) W := by
    intro li hli
    subst hli
    refine wpAnyIn_ready (rs := [1, 7, 9]) (by kernel_rfl) (by simp) ?_
    refine AllReadyIn.cons rfl (fun K hK => ?_) ?_
    · go_simp
      refine hK _ _ ?_
      exact s_1200 _ (by kernel_rfl)
    refine AllReadyIn.cons rfl (fun K hK => ?_) ?_
    · go_simp
      refine hK _ _ ?_
      exact s_0210 _ (by kernel_rfl)
    refine AllReadyIn.cons rfl (fun K hK => ?_) ?_
    · go_simp
      refine hK _ _ ?_
      exact s_0201 _ (by kernel_rfl)
    exact AllReadyIn.nil
  have s_1001 : ∀ li : Array Bool, li = #[true, true, false, false, false, false, true, false, true, true, false, false, false, false] → wpAnyIn Fence.wide 2 Tryz.prog .any bops Q 9 li ({ tmps := #[.func (.yield l) #[] #[], s1, s2, s3, .pointer (some ⟨tB, 0, none⟩), .pointer (some ⟨pB, 0, none⟩), s6, s7, s8, s9, s10, s11, s12, s13, s14, s15, s16, s17, s18, .func (.yield l) #[] #[], .agg #[.int .i64 kk, .bool f, .int .i64 p, .int .i64 q, .int .i64 N, .int .i64 M], s21, s22, s23, s24, .pointer (some ⟨pB, 4, none⟩), s26, .pointer (some ⟨pB, 5, none⟩), .int .i64 M, s29, s30, s31, s32], defers := [] }) W := by
    intro li hli
    subst hli
    refine wpAnyIn_ready (rs := [2, 7]) (by kernel_rfl) (by simp) ?_
    refine AllReadyIn.cons rfl (fun K hK => ?_) ?_
    · go_simp
      refine hK _ _ ?_
      refine wpAnyIn_take (i := 3) (v := .pointer (some ⟨g, 0, none⟩)) rfl rfl (by kernel_rfl) (by kernel_rfl) (by kernel_rfl) (fun _ _ _ h => hP _ _ _ _ _ h) ⟨Or.inl ⟨by rfl, fun w => by go_simp⟩, fun _ => rfl⟩ ?_
      refine wpAnyIn_take (i := 4) (v := .pointer (some ⟨g, 1, none⟩)) rfl rfl (by kernel_rfl) (by kernel_rfl) (by kernel_rfl) (fun _ _ _ h => hP _ _ _ _ _ h) ⟨Or.inl ⟨by rfl, fun w => by go_simp⟩, fun _ => rfl⟩ ?_
      exact s_1101 _ (by kernel_rfl)
    refine AllReadyIn.cons rfl (fun K hK => ?_) ?_
    · go_simp
      refine hK _ _ ?_
      exact s_1011 _ (by kernel_rfl)
    exact AllReadyIn.nil
  have s_1010 : ∀ li : Array Bool, li = #[true, true, false, false, false, false, true, true, true, false, false, false, false, false] → wpAnyIn Fence.wide 2 Tryz.prog .any bops Q 9 li ({ tmps := #[.func (.yield l) #[] #[], s1, s2, s3, .pointer (some ⟨tB, 0, none⟩), .pointer (some ⟨pB, 0, none⟩), s6, s7, s8, s9, s10, s11, s12, s13, s14, s15, s16, s17, s18, .func (.yield l) #[] #[], .agg #[.int .i64 kk, .bool f, .int .i64 p, .int .i64 q, .int .i64 N, .int .i64 M], s21, s22, s23, s24, .pointer (some ⟨pB, 4, none⟩), .int .i64 N, .pointer (some ⟨pB, 5, none⟩), s28, s29, s30, s31, s32], defers := [] }) W := by
    intro li hli
    subst hli
    refine wpAnyIn_ready (rs := [2, 9]) (by kernel_rfl) (by simp) ?_
    refine AllReadyIn.cons rfl (fun K hK => ?_) ?_
    · go_simp
      refine hK _ _ ?_
      refine wpAnyIn_take (i := 3) (v := .pointer (some ⟨g, 0, none⟩)) rfl rfl (by kernel_rfl) (by kernel_rfl) (by kernel_rfl) (fun _ _ _ h => hP _ _ _ _ _ h) ⟨Or.inl ⟨by rfl, fun w => by go_simp⟩, fun _ => rfl⟩ ?_
      refine wpAnyIn_take (i := 4) (v := .pointer (some ⟨g, 1, none⟩)) rfl rfl (by kernel_rfl) (by kernel_rfl) (by kernel_rfl) (fun _ _ _ h => hP _ _ _ _ _ h) ⟨Or.inl ⟨by rfl, fun w => by go_simp⟩, fun _ => rfl⟩ ?_
      exact s_1110 _ (by kernel_rfl)
    refine AllReadyIn.cons rfl (fun K hK => ?_) ?_
    · go_simp
      refine hK _ _ ?_
      exact s_1011 _ (by kernel_rfl)
    exact AllReadyIn.nil
  have s_1100 : ∀ li : Array Bool, li = #[true, true, true, true, true, false, true, false, true, false, false, false, false, false] → wpAnyIn Fence.wide 2 Tryz.prog .any bops Q 7 li ({ tmps := #[.func (.yield l) #[] #[], s1, s2, s3, .pointer (some ⟨tB, 0, none⟩), .pointer (some ⟨pB, 0, none⟩), s6, s7, s8, s9, s10, s11, s12, s13, s14, s15, s16, s17, s18, .func (.yield l) #[] #[], .agg #[.int .i64 kk, .bool f, .int .i64 p, .int .i64 q, .int .i64 N, .int .i64 M], .pointer (some ⟨g, 0, none⟩), .pointer (some ⟨g, 0, none⟩), .pointer (some ⟨g, 1, none⟩), s24, .pointer (some ⟨pB, 4, none⟩), s26, .pointer (some ⟨pB, 5, none⟩), s28, s29, s30, s31, s32], defers := [] }) W := by
    intro li hli
    subst hli
    refine wpAnyIn_ready (rs := [5, 7, 9]) (by kernel_rfl) (by simp) ?_
    refine AllReadyIn.cons rfl (fun K hK => ?_) ?_
    · go_simp
      refine hK _ _ ?_
      exact s_1200 _ (by kernel_rfl)
    refine AllReadyIn.cons rfl (fun K hK => ?_) ?_
    · go_simp
      refine hK _ _ ?_
      exact s_1110 _ (by kernel_rfl)
    refine AllReadyIn.cons rfl (fun K hK => ?_) ?_
    · go_simp
      refine hK _ _ ?_
      exact s_1101 _ (by kernel_rfl)
    exact AllReadyIn.nil
  have s_0001 : ∀ li : Array Bool, li = #[true, false, false, false, false, false, true, false, true, true, false, false, false, false] → wpAnyIn Fence.wide 2 Tryz.prog .any bops Q 10 li ({ tmps := #[.func (.yield l) #[] #[], s1, s2, s3, .pointer (some ⟨tB, 0, none⟩), .pointer (some ⟨pB, 0, none⟩), s6, s7, s8, s9, s10, s11, s12, s13, s14, s15, s16, s17, s18, .func (.yield l) #[] #[], s20, s21, s22, s23, s24, .pointer (some ⟨pB, 4, none⟩), s26, .pointer (some ⟨pB, 5, none⟩), .int .i64 M, s29, s30, s31, s32], defers := [] }) W := by
    intro li hli
    subst hli
    refine wpAnyIn_ready (rs := [1, 2, 7]) (by kernel_rfl) (by simp) ?_
    refine AllReadyIn.cons rfl (fun K hK => ?_) ?_
    · go_simp
      refine hK _ _ ?_
      exact s_1001 _ (by kernel_rfl)
    refine AllReadyIn.cons rfl (fun K hK => ?_) ?_
    · go_simp
      refine hK _ _ ?_
      refine wpAnyIn_take (i := 3) (v := .pointer (some ⟨g, 0, none⟩)) rfl rfl (by kernel_rfl) (by kernel_rfl) (by kernel_rfl) (fun _ _ _ h => hP _ _ _ _ _ h) ⟨Or.inl ⟨by rfl, fun w => by go_simp⟩, fun _ => rfl⟩ ?_
      refine wpAnyIn_take (i := 4) (v := .pointer (some ⟨g, 1, none⟩)) rfl rfl (by kernel_rfl) (by kernel_rfl) (by kernel_rfl) (fun _ _ _ h => hP _ _ _ _ _ h) ⟨Or.inl ⟨by rfl, fun w => by go_simp⟩, fun _ => rfl⟩ ?_
      exact s_0101 _ (by kernel_rfl)
    refine AllReadyIn.cons rfl (fun K hK => ?_) ?_
    · go_simp
      refine hK _ _ ?_
      exact s_0011 _ (by kernel_rfl)
    exact AllReadyIn.nil
  have s_0010 : ∀ li : Array Bool, li = #[true, false, false, false, false, false, true, true, true, false, false, false, false, false] → wpAnyIn Fence.wide 2 Tryz.prog .any bops Q 10 li ({ tmps := #[.func (.yield l) #[] #[], s1, s2, s3, .pointer (some ⟨tB, 0, none⟩), .pointer (some ⟨pB, 0, none⟩), s6, s7, s8, s9, s10, s11, s12, s13, s14, s15, s16, s17, s18, .func (.yield l) #[] #[], s20, s21, s22, s23, s24, .pointer (some ⟨pB, 4, none⟩), .int .i64 N, .pointer (some ⟨pB, 5, none⟩), s28, s29, s30, s31, s32], defers := [] }) W := by
    intro li hli
    subst hli
    refine wpAnyIn_ready (rs := [1, 2, 9]) (by kernel_rfl) (by simp) ?_
    refine AllReadyIn.cons rfl (fun K hK => ?_) ?_
    · go_simp
      refine hK _ _ ?_
      exact s_1010 _ (by kernel_rfl)
    refine AllReadyIn.cons rfl (fun K hK => ?_) ?_
    · go_simp
      refine hK _ _ ?_
      refine wpAnyIn_take (i := 3) (v := .pointer (some ⟨g, 0, none⟩)) rfl rfl (by kernel_rfl) (by kernel_rfl) (by kernel_rfl) (fun _ _ _ h => hP _ _ _ _ _ h) ⟨Or.inl ⟨by rfl, fun w => by go_simp⟩, fun _ => rfl⟩ ?_
      refine wpAnyIn_take (i := 4) (v := .pointer (some ⟨g, 1, none⟩)) rfl rfl (by kernel_rfl) (by kernel_rfl) (by kernel_rfl) (fun _ _ _ h => hP _ _ _ _ _ h) ⟨Or.inl ⟨by rfl, fun w => by go_simp⟩, fun _ => rfl⟩ ?_
      exact s_0110 _ (by kernel_rfl)
    refine AllReadyIn.cons rfl (fun K hK => ?_) ?_
    · go_simp
      refine hK _ _ ?_
      exact s_0011 _ (by kernel_rfl)
    exact AllReadyIn.nil
  have s_0100 : ∀ li : Array Bool, li = #[true, false, true, true, true, false, true, false, true, false, false, false, false, false] → wpAnyIn Fence.wide 2 Tryz.prog .any bops Q 8 li ({ tmps := #[.func (.yield l) #[] #[], s1, s2, s3, .pointer (some ⟨tB, 0, none⟩), .pointer (some ⟨pB, 0, none⟩), s6, s7, s8, s9, s10, s11, s12, s13, s14, s15, s16, s17, s18, .func (.yield l) #[] #[], s20, .pointer (some ⟨g, 0, none⟩), .pointer (some ⟨g, 0, none⟩), .pointer (some ⟨g, 1, none⟩), s24, .pointer (some ⟨pB, 4, none⟩), s26, .pointer (some ⟨pB, 5, none⟩), s28, s29, s30, s31, s32], defers := [] }) W := by
    intro li hli
    subst hli
    refine wpAnyIn_ready (rs := [1, 5, 7, 9]) (by kernel_rfl) (by simp) ?_
    refine AllReadyIn.cons rfl (fun K hK => ?_) ?_
    · go_simp
      refine hK _ _ ?_
      exact s_1100 _ (by kernel_rfl)
    refine AllReadyIn.cons rfl (fun K hK => ?_) ?_
    · go_simp
      refine hK _ _ ?_
      exact s_0200 _ (by kernel_rfl)
    refine AllReadyIn.cons rfl (fun K hK => ?_) ?_
    · go_simp
      refine hK _ _ ?_
      exact s_0110 _ (by kernel_rfl)
    refine AllReadyIn.cons rfl (fun K hK => ?_) ?_
    · go_simp
      refine hK _ _ ?_
      exact s_0101 _ (by kernel_rfl)
    exact AllReadyIn.nil
  have s_1000 : ∀ li : Array Bool, li = #[true, true, false, false, false, false, true, false, true, false, false, false, false, false] → wpAnyIn Fence.wide 2 Tryz.prog .any bops Q 10 li ({ tmps := #[.func (.yield l) #[] #[], s1, s2, s3, .pointer (some ⟨tB, 0, none⟩), .pointer (some ⟨pB, 0, none⟩), s6, s7, s8, s9, s10, s11, s12, s13, s14, s15, s16, s17, s18, .func (.yield l) #[] #[], .agg #[.int .i64 kk, .bool f, .int .i64 p, .int .i64 q, .int .i64 N, .int .i64 M], s21, s22, s23, s24, .pointer (some ⟨pB, 4, none⟩), s26, .pointer (some ⟨pB, 5, none⟩), s28, s29, s30, s31, s32], defers := [] }) W := by
    intro li hli
    subst hli
    refine wpAnyIn_ready (rs := [2, 7, 9]) (by kernel_rfl) (by simp) ?_
    refine AllReadyIn.cons rfl (fun K hK => ?_) ?_
    · go_simp
      refine hK _ _ ?_
      refine wpAnyIn_take (i := 3) (v := .pointer (some ⟨g, 0, none⟩)) rfl rfl (by kernel_rfl) (by kernel_rfl) (by kernel_rfl) (fun _ _ _ h => hP _ _ _ _ _ h) ⟨Or.inl ⟨by rfl, fun w => by go_simp⟩, fun _ => rfl⟩ ?_
      refine wpAnyIn_take (i := 4) (v := .pointer (some ⟨g, 1, none⟩)) rfl rfl (by kernel_rfl) (by kernel_rfl) (by kernel_rfl) (fun _ _ _ h => hP _ _ _ _ _ h) ⟨Or.inl ⟨by rfl, fun w => by go_simp⟩, fun _ => rfl⟩ ?_
      exact s_1100 _ (by kernel_rfl)
    refine AllReadyIn.cons rfl (fun K hK => ?_) ?_
    · go_simp
      refine hK _ _ ?_
      exact s_1010 _ (by kernel_rfl)
    refine AllReadyIn.cons rfl (fun K hK => ?_) ?_
    · go_simp
      refine hK _ _ ?_
      exact s_1001 _ (by kernel_rfl)
    exact AllReadyIn.nil
  have s_0000 : ∀ li : Array Bool, li = #[true, false, false, false, false, false, true, false, true, false, false, false, false, false] → wpAnyIn Fence.wide 2 Tryz.prog .any bops Q 11 li ({ tmps := #[.func (.yield l) #[] #[], s1, s2, s3, .pointer (some ⟨tB, 0, none⟩), .pointer (some ⟨pB, 0, none⟩), s6, s7, s8, s9, s10, s11, s12, s13, s14, s15, s16, s17, s18, .func (.yield l) #[] #[], s20, s21, s22, s23, s24, .pointer (some ⟨pB, 4, none⟩), s26, .pointer (some ⟨pB, 5, none⟩), s28, s29, s30, s31, s32], defers := [] }) W := by
    intro li hli
    subst hli
    refine wpAnyIn_ready (rs := [1, 2, 7, 9]) (by kernel_rfl) (by simp) ?_
    refine AllReadyIn.cons rfl (fun K hK => ?_) ?_
    · go_simp
      refine hK _ _ ?_
      exact s_1000 _ (by kernel_rfl)
    refine AllReadyIn.cons rfl (fun K hK => ?_) ?_
    · go_simp
      refine hK _ _ ?_
      refine wpAnyIn_take (i := 3) (v := .pointer (some ⟨g, 0, none⟩)) rfl rfl (by kernel_rfl) (by kernel_rfl) (by kernel_rfl) (fun _ _ _ h => hP _ _ _ _ _ h) ⟨Or.inl ⟨by rfl, fun w => by go_simp⟩, fun _ => rfl⟩ ?_
      refine wpAnyIn_take (i := 4) (v := .pointer (some ⟨g, 1, none⟩)) rfl rfl (by kernel_rfl) (by kernel_rfl) (by kernel_rfl) (fun _ _ _ h => hP _ _ _ _ _ h) ⟨Or.inl ⟨by rfl, fun w => by go_simp⟩, fun _ => rfl⟩ ?_
      exact s_0100 _ (by kernel_rfl)
    refine AllReadyIn.cons rfl (fun K hK => ?_) ?_
    · go_simp
      refine hK _ _ ?_
      exact s_0010 _ (by kernel_rfl)
    refine AllReadyIn.cons rfl (fun K hK => ?_) ?_
    · go_simp
      refine hK _ _ ?_
      exact s_0001 _ (by kernel_rfl)
    exact AllReadyIn.nil
  refine wpIn_region_any (by kernel_rfl) ?_
  change wpAnyIn _ _ _ _ _ _ _ _ _ (World.drew _)
  rw [← HW.out]
  refine wpAnyIn_take (i := 0) (v := .func (.yield l) #[] #[]) rfl rfl (by kernel_rfl) (by kernel_rfl) (by kernel_rfl) (fun _ _ _ h => hP _ _ _ _ _ h) ⟨Or.inl ⟨by rfl, fun w => by go_simp⟩, fun _ => rfl⟩ ?_
  refine wpAnyIn_take (i := 6) (v := .pointer (some ⟨pB, 4, none⟩)) rfl rfl (by kernel_rfl) (by kernel_rfl) (by kernel_rfl) (fun _ _ _ h => hP _ _ _ _ _ h) ⟨Or.inl ⟨by rfl, fun w => by go_simp⟩, fun _ => rfl⟩ ?_
  refine wpAnyIn_take (i := 8) (v := .pointer (some ⟨pB, 5, none⟩)) rfl rfl (by kernel_rfl) (by kernel_rfl) (by kernel_rfl) (fun _ _ _ h => hP _ _ _ _ _ h) ⟨Or.inl ⟨by rfl, fun w => by go_simp⟩, fun _ => rfl⟩ ?_
  exact s_0000 _ (by kernel_rfl)
end Go.Proofs.YtmjdpfigkojolaaGreatDoor

namespace Go.Proofs.YtmjdpfigkojolaaGreatDoor
open Go.RowKit Go.Maps Go.Shelf
set_option maxRecDepth 20000
set_option linter.unusedVariables false
set_option linter.unusedSimpArgs false

theorem slice_none (wx : World) : (Instr.slice 22 (.slice none 0 0) (some (.int .i64 ((0 : Nat) : Int))) (some (.int .i64 ((0 : Nat) : Int))) none).run Tryz.prog wx = .ok (.slice none 0 0) wx := by
  go_simp

theorem slice_some (b N M cc : Nat) (h1 : N ≤ M) (h2 : M ≤ cc) (h3 : cc ≤ 9223372036854775807) (wx : World) :
    (Instr.slice 22 (.slice (some ⟨b, 0, none⟩) M cc) (some (.int .i64 (N : Int))) (some (.int .i64 (M : Int))) none).run Tryz.prog wx = .ok (.slice (some ⟨b, if cc = N then 0 else N, none⟩) (M - N) (cc - N)) wx := by
  have x1 : ¬ ((cc : Int) < (M : Int)) := by omega
  have x2 : ¬ ((M : Int) < (N : Int)) := by omega
  have x3 : (M : Int) ≤ (cc : Int) := by omega
  have x4 : (N : Int) ≤ (M : Int) := by omega
  by_cases h : cc = N
  · rw [if_pos h]
    go_simp
    intro hlt
    omega
  · rw [if_neg h]
    go_simp

theorem seg_copy {w2 : World} {ao : Option Addr} {cc : Nat} {out o o0 : List Int} {x : Pc} (hob : OB w2 0 (.slice ao o.length cc) o) (hs : ∃ s t, o = out ++ s ∧ o0 = o ++ t) (h0 : x.to0 = out.length) (h1 : x.to1 = o.length) (hL : o.length ≤ 16777216) :
    ∃ sp sc, (∀ wx : World, (Instr.slice 22 (.slice ao o.length cc) (some (.int .i64 (out.length : Int))) (some (.int .i64 (o.length : Int))) none).run Tryz.prog wx = .ok (.slice sp (o.length - out.length) sc) wx) ∧
      Calls Tryz.prog 34 #[.slice sp (o.length - out.length) sc] w2.drew fun e w' => ∃ u, e = .returned u ∧ OB w' w2.heap.size u (sgb o0 x) ∧ Below w2.heap.size w2 w' := by
  obtain ⟨s, t, rfl, rfl⟩ := hs
  have hse : sgb (out ++ s ++ t) x = s := sg_at h0 h1
  rw [hse]
  have hln : (out ++ s).length - out.length = s.length := by simp
  have key : ∀ sp sc, SB w2 (.slice sp s.length sc) s → Calls Tryz.prog 34 #[.slice sp s.length sc] w2.drew fun e w' => ∃ u, e = .returned u ∧ OB w' w2.heap.size u s ∧ Below w2.heap.size w2 w' := fun sp sc hsb => by
    refine (bclone_any _ s w2.drew (hsb.heap rfl) (by rw [List.length_append] at hL; omega)).mono ?_
    rintro e w' ⟨u, rfl, ho, hb⟩
    exact ⟨u, rfl, ho, (Below.refl _ _).drew.trans hb⟩
  rw [hln]
  rcases hob.2 with ⟨e, h2⟩ | ⟨g, cap, cur, e, h2, h3, h4, h5, h6, h7⟩
  · simp only [Value.slice.injEq] at e
    obtain ⟨rfl, e1, rfl⟩ := e
    have hz : (out ++ s).length = 0 := e1
    rw [List.length_append] at hz
    obtain rfl : out = [] := List.length_eq_zero_iff.1 (by omega)
    obtain rfl : s = [] := List.length_eq_zero_iff.1 (by omega)
    exact ⟨none, 0, slice_none, key none 0 (World.ownsRow_nil w2 0 5 1 |> fun (q : OB w2 0 (.slice none 0 0) []) => q.sb)⟩
  · simp only [Value.slice.injEq, Option.some.injEq] at e
    obtain ⟨rfl, -, rfl⟩ := e
    have hcap : (out ++ s).length ≤ cc ∧ cc ≤ 9223372036854775807 := by
      obtain ⟨ao', cap', he, a1, a2, -⟩ := hob.sb
      simp only [Value.slice.injEq] at he
      obtain ⟨-, -, rfl⟩ := he
      unfold maxLen at a2
      exact ⟨a1, by omega⟩
    refine ⟨some ⟨g, if cc = out.length then 0 else out.length, none⟩, cc - out.length, fun wx => ?_, ?_⟩
    · have := slice_some g out.length (out ++ s).length cc (by simp) hcap.1 hcap.2 wx
      rw [hln] at this
      exact this
    · by_cases hz : cc = out.length
      · have h8 := hcap.1
        rw [List.length_append] at h8
        obtain rfl : s = [] := List.length_eq_zero_iff.1 (by omega)
        exact key _ _ ⟨_, _, rfl, Nat.zero_le _, by unfold maxLen; omega, (fun q => by cases q), fun x _ i hi => by simp at hi⟩
      · rw [if_neg hz]
        have h9 := hob.sb.part8 (at' := out.length) (n := s.length) (by rw [List.length_append]; exact Nat.le_refl _)
        rw [Nat.zero_add, List.drop_left, List.take_length] at h9
        exact key _ _ h9
end Go.Proofs.YtmjdpfigkojolaaGreatDoor

namespace Go.Proofs.YtmjdpfigkojolaaGreatDoor
open Go.RowKit Go.Maps Go.Shelf
attribute [local go_sem] Oper.semAt_some
set_option maxRecDepth 20000
set_option linter.unusedVariables false

theorem eqInB_func {P : Program} (w : World) (d : Nat) (t : TypeId) {u : Array TypeId} {r : Array TypeId} {x : Bool} (h : P.underlying t = some (.func u r x)) (fn : Fn) (a b : Array Value) : (Op.equalIn (d + 1) t (.func fn a b) .nilFunc).run P w = .ok false w := by
  simp [Op.equalIn, run_underlying h]

theorem eqlB_func {P : Program} (w : World) (t : TypeId) {u : Array TypeId} {r : Array TypeId} {x : Bool} (h : P.underlying t = some (.func u r x)) (fn : Fn) (a b : Array Value) : (binOp .eql t (.func fn a b) .nilFunc).run P w = .ok (.bool false) w := by
  have h1 : (Op.equal t (.func fn a b) .nilFunc).run P w = .ok false w := eqInB_func w 9999 t h fn a b
  simp [binOp, h1]

theorem yldb_under : Tryz.prog.underlying 90 = some (.func #[36, 22] #[4] false) := by kernel_rfl

theorem Bhd.start {data : List Int} {limit : Int} {ps : List Pc} {o0 : List Int} {d : Bool} {J : Nat → (Nat → Prop) → World → Prop} {g r : Nat} {w w1 : World} {E : Int} {q : Nat} (ht : Txt (unpack data) limit.toNat 0 [] ps E q o0) (hj : J 0 (fun _ => False) w) (hJ : BBears J) (hX : TX w w1 g r (unpack data) 0 limit.toNat [] false []) :
    Bhd ps o0 (unpack data) limit.toNat w.heap.size J w1.heap.size g r false 0 (fun b => w.heap.size ≤ b ∧ b < w1.heap.size + 1) 0 [] (w1.alloc (.cells #[.pointer (some ⟨g, 0, none⟩)] 50)) := by
  have hb := hX.bel
  have hs := hb.size
  have ha := (Below.refl w1.heap.size w1).alloc (Nat.le_refl _) (.cells #[.pointer (some ⟨g, 0, none⟩)] 50)
  have hI : Ist (fun b => w.heap.size ≤ b ∧ b < w1.heap.size) w.heap.size w1 g r (unpack data) 0 limit.toNat [] false := by
    obtain ⟨Kt, Kr, Ko, a, c, fl, fd, HH, hf, hL⟩ := hX
    refine ⟨w, Kt, Kr, Ko, a, c, fl, fd, [], rfl, HH, hf, hL, fun d hd k hk => ?_⟩
    obtain ⟨i, hi⟩ := List.getElem?_of_mem hd
    exact ⟨HH.up i d hi k hk, d.2.sup (HH.rep i d hi) k hk⟩
  refine ⟨hI.move (by simp) (fun b hb2 => ha.block b hb2.2) (fun b hb2 => ⟨⟨hb2.1, by omega⟩, by omega⟩), heap_alloc_new _ _, ⟨by omega, by omega⟩, fun b hb2 => by simpa using hb2.2, hJ 0 (fun _ => False) _ w _ hj ⟨rfl |>.trans (ha.os.trans hb.os), ha.tape.trans hb.tape, ha.output.trans hb.output, by simp; omega, fun b h1 _ => (ha.block b (by omega)).trans (hb.block b h1)⟩ (fun b e => e.elim) (fun b e => e.elim) (fun b e => ⟨.inr e.1, by simpa using e.2⟩), Nat.zero_le _, .inl ⟨rfl, E, q, ht⟩⟩

set_option maxHeartbeats 4000000 in
theorem blk2_any (l dB lB : Nat) {data : List Int} {limit : Int} {ps : List Pc} {o0 : List Int} {v : Value} {J : Nat → (Nat → Prop) → World → Prop} {Jx : World → Prop} {w : World} {E : Int} {q0 : Nat} (hd : data.length ≤ 33554432 ∧ 0 ≤ limit ∧ limit ≤ 16777216) (ht : Txt (unpack data) limit.toNat 0 [] ps E q0 o0) (h : SB w v data) (hB : Byt data)
    (c0 : w.cell? ⟨dB, 0, none⟩ = some v) (c1 : w.cell? ⟨lB, 0, none⟩ = some (.int .i64 limit)) (hJ : BBears J) (hTO : ∀ k S W, J k S W → w.heap.size ≤ W.heap.size → Tab (wtake W w.heap.size) ∧ Odr (wtake W w.heap.size)) (hY : BTurns ps o0 l J Jx) (hj : J 0 (fun _ => False) w) (F : Fence) (hF : F = Fence.wide) :
    CallsIn F 2 Tryz.prog 46 #[.func (.yield l) #[] #[], .pointer (some ⟨dB, 0, none⟩), .pointer (some ⟨lB, 0, none⟩)] w fun e w' => (∃ v, e = .returned v) ∧ ((∃ S, J ps.length S w') ∨ Jx w') := by
  subst hF
  have HBG := hide (hbegin h hB limit)
  have HD := hide hd
  have HT := hide ht
  have HJ := hide hJ
  have HTO := hide hTO
  have HY := hide hY
  have HJ0 := hide hj
  have hyl : ∀ (fn : Fn) (a b : Array Value) (w : World), (binOp .eql 90 (.func fn a b) .nilFunc).run Tryz.prog w = .ok (.bool false) w := fun fn a b w => eqlB_func w _ yldb_under fn a b
  have hmf : ∀ (fn : Fn) (first cap : Array Value) (w : World), (Instr.makeFunc fn first cap).run Tryz.prog w = .ok (.func fn first cap) w := fun _ _ _ _ => rfl
  obtain ⟨a0, cc0, rfl, -⟩ := h
  clear hd ht hB hJ hTO hY hj
  refine callsIn_of_wp Tryz.func46 rfl trivial ?_ rfl
  simp only [Tryz.ntmps46, List.size_toArray, List.length_cons, List.length_nil, Nat.reduceAdd, Nat.reduceSub, Array.replicate_succ, Array.replicate_zero, List.push_toArray, List.append_toArray, List.nil_append, List.cons_append]
  gi_wp2_with fail
  refine ⟨trivial, (callsIn_wide.2 HBG.out).mono ?_⟩
  rintro e w1 (⟨-, g, r, rfl, h1⟩ | ⟨hn, -⟩)
  case inr => exact absurd HD.out hn
  have HS := hide (Bhd.start (d := true) HT.out HJ0.out HJ.out h1)
  clear h1 HBG HJ0 HT c0 c1
  obtain ⟨row, HROW⟩ : ∃ row, Hid (row = unpack data) := ⟨_, rfl⟩
  obtain ⟨L, HL⟩ : ∃ L, Hid (L = limit.toNat) := ⟨_, rfl⟩
  rw [← HROW.out, ← HL.out] at HS
  gi_wp2
  clear hyl
  obtain ⟨B, HBZ⟩ : ∃ B, Hid (w.heap.size = B) := ⟨_, rfl⟩
  obtain ⟨tB, HTB⟩ : ∃ tB, Hid (w1.heap.size = tB) := ⟨_, rfl⟩
  rw [HBZ.out, HTB.out] at HS
  rw [HBZ.out] at HTO
  rw [HTB.out]
  gi_loopw [5] (fun p5 wr => ∃ (k : Nat) (S : Nat → Prop) (p : Nat) (out : List Int) (dn : Bool), Hid (Bhd ps o0 row L B J tB g r dn k S p out wr)) (fun _ wr => row.length + 1 - (intOf ((wr.cell? ⟨r, 1, none⟩).getD undef)).toNat)
  case atStart => exact ⟨0, _, 0, [], false, HS⟩
  case round =>
    obtain ⟨k, S, p, out, dn, HX⟩ := hrel
    clear HS
    have HMS : Hid ((intOf ((wr.cell? ⟨r, 1, none⟩).getD undef)).toNat = p) := by
      obtain ⟨-, -, -, -, -, -, -, -, a, c, fl, fd, -, -, h3⟩ := HX.out.ist.fact
      show _ = _; rw [h3]; simp [intOf]
    have tb0 := (one_cell HX.out.box).1
    obtain ⟨-, -, -, -, -, -, -, -, aw, cw, fl, fd, hg, -, -⟩ := HX.out.ist.fact
    have g3 := (txO_cells hg).2.2.2.1
    clear hg
    cases dn with
    | true =>
      have HE : Hid (∃ S, J ps.length S wr) := by
        rcases HX.out.way with ⟨h0, _⟩ | ⟨_, h0⟩
        · cases h0
        · exact ⟨S, by rw [← h0]; exact HX.out.j⟩
      gi_wp2
      refine bodyPost_end (results_none rfl _ _ _) rfl ?_
      exact ⟨⟨_, rfl⟩, .inl HE.out⟩
    | false =>
    obtain ⟨w0, hw0⟩ : ∃ w0, wr.alloc (pcO 0 false 0 0 0 0) = w0 := ⟨_, rfl⟩
    have hb0 : Below wr.heap.size wr w0 := by rw [← hw0]; exact (Below.refl _ _).alloc (Nat.le_refl _) _
    have hz0 : w0.heap.size = wr.heap.size + 1 := by rw [← hw0]; simp
    have hp0 : w0.heap[wr.heap.size]? = some (pcO 0 false 0 0 0 0) := by rw [← hw0]; exact heap_alloc_new _ _
    have hBw := HX.out.ist.size
    have HCB : Hid (Calls Tryz.prog 22 #[.func (.func 47) #[] #[.pointer (some ⟨tB, 0, none⟩), .pointer (some ⟨wr.heap.size, 0, none⟩)]] w0 fun e w' => ∃ E f k q o, Blk row L p out E f k q o ∧ e = .returned (.int .i64 E) ∧ ((E = 0 ∧ Gone (fun b => S b ∧ b ≠ tB) B wr.heap.size w0 w' g r row p L out f k q o) ∨ (E ≠ 0 ∧ Mvb (fun b => S b ∧ b ≠ tB) w0 w'))) := by
      have hu := wtake_up (w := wr) (w' := w0) (B := B) (fun k hk => hb0.block k (by omega)) hb0.os hb0.tape hb0.output hBw (by omega)
      obtain ⟨hT, hO⟩ := HTO.out k S wr HX.out.j hBw
      exact hcaughtB (HX.out.ist.move hb0.size (fun b hb => hb0.block b (HX.out.bnd b hb.1)) (fun _ q => q)) (hT.mono hu) (hO.mono hu) (fun b hb => by have := HX.out.bnd b hb.1; omega) ((hb0.block tB (HX.out.bnd _ HX.out.sB)).trans HX.out.box) hp0 (fun e => e.2 rfl) (fun e => by have := HX.out.bnd _ e.1; omega)
    have HB0 := hide hb0
    have HZ0 := hide hz0
    have HW0 := hide hw0
    clear hw0 hb0 hz0 hp0 hBw
    gi_wp2_with fail
    rw [HW0.out]
    refine ⟨trivial, (callsIn_wide.2 HCB.out).mono ?_⟩
    rintro e w2 ⟨E, f, kk, q, o, hblk, rfl, ⟨rfl, hgo⟩ | ⟨he, hm⟩⟩
    case inr =>
      have HE : Hid (∃ S, J ps.length S w2) := by
        have h1 := (HX.out.one (pcO 0 false 0 0 0 0) (w2 := w2) hblk).1 he
        have hz := HZ0.out
        have hs := hm.size
        have h3 : J k (grb S wr w2) w2 := HJ.out k S _ wr w2 HX.out.j ⟨hm.os.trans HB0.out.os, hm.tape.trans HB0.out.tape, hm.output.trans HB0.out.output, by omega, fun b hb hS => (hm.blk b (by omega) (fun e => hS e.1)).trans (HB0.out.block b hb)⟩ HX.out.bnd (fun b e => .inl e) (fun b e => by
          rcases e with e | e
          · have := HX.out.bnd b e; exact ⟨.inl e, by omega⟩
          · exact ⟨.inr e.1, e.2⟩)
        exact ⟨_, by rw [← h1]; exact h3⟩
      have he' : (E != 0) = true := by simpa using he
      clear hm hblk he HCB tb0 g3
      gi_wp2
      refine bodyPost_ret (results_none rfl _ _ _) rfl ?_
      exact ⟨⟨_, rfl⟩, .inl HE.out⟩
    have HM : Hid (Bmid ps o0 row L B J tB g r wr.heap.size f k S p q out o ⟨kk, f, p, q, out.length, o.length⟩ wr w2) := (HX.out.one (pcO 0 false 0 0 0 0) hblk).2 rfl (by rw [HW0.out]; exact hgo)
    clear hgo hblk HCB tb0 g3 HX HB0 HZ0
    obtain ⟨pB, HPB⟩ : ∃ pB, Hid (wr.heap.size = pB) := ⟨_, rfl⟩
    rw [HPB.out] at HM
    rw [HPB.out]
    gi_wp2
    obtain ⟨N, HN⟩ : ∃ N : Nat, Hid (N = out.length) := ⟨_, rfl⟩
    obtain ⟨M, HM2⟩ : ∃ M : Nat, Hid (M = o.length) := ⟨_, rfl⟩
    obtain ⟨x0, x1, x2, x3, x4, x5, -⟩ := pc_cells HM.out.pbox
    have x6 := (one_cell HM.out.tbox).1
    obtain ⟨ao, cc, hob, x7⟩ : ∃ ao cc, OB w2 0 (.slice ao o.length cc) o ∧ w2.cell? ⟨g, 1, none⟩ = some (.slice ao o.length cc) := by
      obtain ⟨V, -, -, S', h3, -⟩ := HM.out.gone
      obtain ⟨-, -, -, -, -, -, -, -, a, c, fl, fd, hg, ho, -⟩ := h3.fact
      exact ⟨a, c, ho, (txO_cells hg).2.1⟩
    have hoL : o.length ≤ 16777216 := by
      obtain ⟨V, -, -, S', h3, -⟩ := HM.out.gone
      obtain ⟨-, -, -, -, h4, h5, -⟩ := h3.fact
      omega
    obtain ⟨sp, sc, hsl, hcl⟩ := seg_copy (x := ⟨kk, f, p, q, out.length, o.length⟩) hob HM.out.seg rfl rfl hoL
    have hpz := (Array.getElem?_eq_some_iff.1 HM.out.pbox).1
    simp only [← HN.out, ← HM2.out] at x0 x1 x2 x3 x4 x5 x7 hsl hcl
    refine reg5 (X := fun u w3 => OB w3 w2.heap.size u (sgb o0 ⟨kk, f, p, q, N, M⟩) ∧ Below w2.heap.size w2 w3) (Y := fun c w4 => ∃ u w3, (OB w3 w2.heap.size u (sgb o0 ⟨kk, f, p, q, N, M⟩) ∧ Below w2.heap.size w2 w3) ∧ BGo J Jx k (grb S wr w3) u w3 c w4) x0 x1 x2 x3 x4 x5 x6 x7 hsl hcl (fun u w3 h => h.2) hpz ?_ ?_ ?_
    · rintro u w3 ⟨ho, hb⟩
      obtain ⟨h1, h2⟩ := HM.out.turn HJ.out hb
      have h3 := HY.out k _ _ w3 u HM.out.got h1 h2 (by rw [← HN.out, ← HM2.out]; exact ho.base (Nat.zero_le _)) (fun b e => .inr ⟨Nat.le_trans HM.out.mvb.size (ho.lt b e).1, (ho.lt b e).2⟩)
      rw [← HN.out, ← HM2.out] at h3
      exact h3.mono fun e w4 ⟨c, he, hg⟩ => ⟨c, he, ⟨u, w3, ⟨ho, hb⟩, hg⟩, u, rfl, ho, hb⟩
    · intro c a d v w h
      simp (config := { zetaDelta := true }) only [Exit.then, Exit.inBlock] at h ⊢
      obtain ⟨-, ⟨v', hv⟩, -⟩ := h
      cases hv
    · rintro u w3 c w4 - ⟨u', w3', ⟨ho, hb⟩, hg⟩
      have HMM := HM
      clear hsl hcl x0 x1 x2 x3 x4 x5 x6 x7 hob hoL hpz
      rcases hg with ⟨rfl, hj, hk, hs⟩ | ⟨rfl, hjx⟩
      · have HNX := hide (HMM.out.next hb (fun b e => (ho.lt b e).1) hj hk hs)
        have HLT := hide HMM.out.lt
        clear hj hk hs ho hb HM HMM
        gi_wp2
        go_roundw
        case rel => exact ⟨k + 1, _, q, o, f, HNX⟩
        case measure =>
          obtain ⟨-, -, -, -, -, -, -, -, a, c, fl, fd, -, -, h3⟩ := HNX.out.ist.fact
          rw [HMS.out, h3]
          simp [intOf]
          have := HLT.out
          omega
      · have HJX := hide hjx
        clear hjx ho hb HM HMM
        gi_wp2
        refine bodyPost_ret (results_none rfl _ _ _) rfl ?_
        exact ⟨⟨_, rfl⟩, .inr HJX.out⟩
end Go.Proofs.YtmjdpfigkojolaaGreatDoor

namespace Go.Proofs.YtmjdpfigkojolaaGreatDoor.H4
open Go.RowKit
variable {F : Fence} {n : Nat} {P : Program}

structure Rec (l : Nat) (I : Obj → World → Prop) : Prop where
  get : ∀ o W, I o W → W.heap[l]? = some o
  put : ∀ o o' W, I o W → I o' (W.putObj l o')

end Go.Proofs.YtmjdpfigkojolaaGreatDoor.H4

