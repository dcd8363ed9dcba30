import Derived.Test.YtdpoggapenjjfaaGreatDoorG35Ibt
import Derived.Deep.MidRow
import Derived.Deep.DeepCutAuto
import Derived.Deep.RegionLaw
import Derived.Stop.RegionWithIn
import Derived.TacticsInMore
import Derived.LoopNIn
import Derived.LoopIn
import Derived.OwnWalkIn
import Derived.Shelf.RegionOpen
import Derived.RangeFuncBound
import Derived.Test.YtdpoggapenjjfaaGreatDoorG00Rev
import Derived.Lib.SliceRun
namespace Go.Proofs.YtdpoggapenjjfaaGreatDoor
open Go.RowKit Go.Maps
set_option maxRecDepth 20000
set_option linter.unusedVariables false

/-! What Blocks' loop runs under its catch: one block, into a box. -/

theorem szPc : (Tryz.prog.info? 36).map (·.size) = some 6 := by kernel_rfl

theorem put6_at {w : World} {g : Nat} (h : w.heap[g]? = some (pcO 0 false 0 0 0 0)) (k : Int) (f : Bool) (x y u v : Int) :
    (w.setCells g 0 [.int .i64 k, .bool f, .int .i64 x, .int .i64 y, .int .i64 u, .int .i64 v]).heap[g]? = some (pcO k f x y u v) := by
  simp only [World.setCells]
  rw [heap_setCell_at _ (heap_setCell_at _ (heap_setCell_at _ (heap_setCell_at _ (heap_setCell_at _ (heap_setCell_at _ h)))))]
  rfl

theorem put6_ne (w : World) (g b : Nat) (hb : b ≠ g) (u0 u1 u2 u3 u4 u5 : Value) : (w.setCells g 0 [u0, u1, u2, u3, u4, u5]).heap[b]? = w.heap[b]? := by
  simp only [World.setCells]
  rw [setCell_others _ _ _ _ b hb, setCell_others _ _ _ _ b hb, setCell_others _ _ _ _ b hb, setCell_others _ _ _ _ b hb, setCell_others _ _ _ _ b hb, setCell_others _ _ _ _ b hb]

theorem put6_size (w : World) (g : Nat) (u0 u1 u2 u3 u4 u5 : Value) : (w.setCells g 0 [u0, u1, u2, u3, u4, u5]).heap.size = w.heap.size := by
  simp only [World.setCells]
  rw [size_setCell, size_setCell, size_setCell, size_setCell, size_setCell, size_setCell]

structure Wrt (g : Nat) (o : Obj) (w w' : World) : Prop where
  os : w'.os = w.os
  tape : w'.tape = w.tape
  output : w'.output = w.output
  size : w'.heap.size = w.heap.size
  held : w'.heap[g]? = some o
  ne : ∀ b, b ≠ g → w'.heap[b]? = w.heap[b]?

theorem Wrt.at {g : Nat} {o : Obj} {w w' : World} (h : Wrt g o w w') : w'.heap[g]? = some o := h.held

theorem set_same (w : World) (g k : Nat) (u : Value) : (w.setCell ⟨g, k, none⟩ u).os = w.os ∧ (w.setCell ⟨g, k, none⟩ u).tape = w.tape ∧ (w.setCell ⟨g, k, none⟩ u).output = w.output := ⟨rfl, rfl, rfl⟩

theorem put6_wrt {w : World} {g : Nat} (h : w.heap[g]? = some (pcO 0 false 0 0 0 0)) (k : Int) (f : Bool) (x y u v : Int) :
    Wrt g (pcO k f x y u v) w (w.setCells g 0 [.int .i64 k, .bool f, .int .i64 x, .int .i64 y, .int .i64 u, .int .i64 v]) := by
  have h1 := put6_size w g (.int .i64 k) (.bool f) (.int .i64 x) (.int .i64 y) (.int .i64 u) (.int .i64 v)
  have h2 := put6_at h k f x y u v
  have h3 : ∀ b, b ≠ g → _ := fun b hb => put6_ne w g b hb (.int .i64 k) (.bool f) (.int .i64 x) (.int .i64 y) (.int .i64 u) (.int .i64 v)
  have h4 : (w.setCells g 0 [.int .i64 k, .bool f, .int .i64 x, .int .i64 y, .int .i64 u, .int .i64 v]).os = w.os ∧ (w.setCells g 0 [.int .i64 k, .bool f, .int .i64 x, .int .i64 y, .int .i64 u, .int .i64 v]).tape = w.tape ∧ (w.setCells g 0 [.int .i64 k, .bool f, .int .i64 x, .int .i64 y, .int .i64 u, .int .i64 v]).output = w.output := by
    simp only [World.setCells]
    refine ⟨?_, ?_, ?_⟩
    · rw [(set_same _ _ _ _).1, (set_same _ _ _ _).1, (set_same _ _ _ _).1, (set_same _ _ _ _).1, (set_same _ _ _ _).1, (set_same _ _ _ _).1]
    · rw [(set_same _ _ _ _).2.1, (set_same _ _ _ _).2.1, (set_same _ _ _ _).2.1, (set_same _ _ _ _).2.1, (set_same _ _ _ _).2.1, (set_same _ _ _ _).2.1]
    · rw [(set_same _ _ _ _).2.2, (set_same _ _ _ _).2.2, (set_same _ _ _ _).2.2, (set_same _ _ _ _).2.2, (set_same _ _ _ _).2.2, (set_same _ _ _ _).2.2]
  exact ⟨h4.1, h4.2.1, h4.2.2, h1, h2, h3⟩

theorem wpList_storePb {ops : Array Oper} {rest : List Oper} {op : Oper} {a : Act} {w : World} {Q : Exit → Act → World → Prop} (hgd : op.guard = none) (x y : Operand) (ho : op.op = .store 36 x y) (g : Nat) (k : Int) (f : Bool) (p q n m : Int) (hx : a.eval x = .pointer (some ⟨g, 0, none⟩))
    (hy : a.eval y = .agg #[.int .i64 k, .bool f, .int .i64 p, .int .i64 q, .int .i64 n, .int .i64 m]) (hB : w.heap[g]? = some (pcO 0 false 0 0 0 0))
    (hK : ∀ w', Wrt g (pcO k f p q n m) w w' → wpList Tryz.prog ops Q rest (a.put op.dst undef) w') : wpList Tryz.prog ops Q (op :: rest) a w := by
  have hw := put6_wrt hB k f p q n m
  have hk := hK _ hw
  have h1 : (#[.int .i64 k, .bool f, .int .i64 p, .int .i64 q, .int .i64 n, .int .i64 m] : Array Value).all (·.oneCell') = true := by simp [Value.oneCell']
  clear hK hw
  refine wpList_store_mid hgd 36 x y ho g 0 #[.int .i64 k, .bool f, .int .i64 p, .int .i64 q, .int .i64 n, .int .i64 m] hx hy ?_ szPc h1 hk
  clear hk h1 hx hy ho
  obtain ⟨c0, c1, c2, c3, c4, c5, hf⟩ := pc_cells hB
  intro j hj
  have hj6 : j < 6 := hj
  rw [Nat.zero_add]
  refine ⟨?_, hf j⟩
  match j, hj6 with
  | 0, _ => rw [c0]; rfl
  | 1, _ => rw [c1]; rfl
  | 2, _ => rw [c2]; rfl
  | 3, _ => rw [c3]; rfl
  | 4, _ => rw [c4]; rfl
  | 5, _ => rw [c5]; rfl

theorem Mvb.trans {S : Nat → Prop} {w1 w2 w3 : World} (h : Mvb S w1 w2) (k : Mvb S w2 w3) : Mvb S w1 w3 :=
  ⟨k.os.trans h.os, k.tape.trans h.tape, k.output.trans h.output, Nat.le_trans h.size k.size, fun b hb hS => (k.blk b (Nat.lt_of_lt_of_le hb h.size) hS).trans (h.blk b hb hS)⟩
theorem Mvb.mono {S S' : Nat → Prop} {w1 w2 : World} (h : Mvb S w1 w2) (hS : ∀ b, b < w1.heap.size → S b → S' b) : Mvb S' w1 w2 :=
  ⟨h.os, h.tape, h.output, h.size, fun b hb q => h.blk b hb fun e => q (hS b hb e)⟩
theorem Mvb.of {S : Nat → Prop} {w1 w2 : World} (h : Below w1.heap.size w1 w2) : Mvb S w1 w2 := ⟨h.os, h.tape, h.output, h.size, fun b hb _ => h.block b hb⟩
theorem Wrt.mvb {g : Nat} {o : Obj} {w w' : World} (h : Wrt g o w w') {S : Nat → Prop} (hg : S g) : Mvb S w w' := ⟨h.os, h.tape, h.output, by rw [h.size]; exact Nat.le_refl _, fun b _ hS => h.ne b fun e => hS (e ▸ hg)⟩

def Gone (S : Nat → Prop) (B pB : Nat) (V w' : World) (g r : Nat) (row : List Int) (p L : Nat) (out : List Int) (f : Bool) (k : Int) (q : Nat) (o : List Int) : Prop :=
  ∃ S', Ist S' B w' g r row q L o f ∧ (∀ b, S' b → S b ∨ (V.heap.size ≤ b ∧ b < w'.heap.size)) ∧ w'.heap[pB]? = some (pcO k f p q out.length o.length) ∧ Mvb (fun b => S b ∨ b = pB) V w' ∧ ¬ S' pB

def One (S : Nat → Prop) (B pB : Nat) (V : World) (g r : Nat) (row : List Int) (p L : Nat) (out : List Int) (e : Ending) (w' : World) : Prop :=
  ∃ E f k q o, Blk row L p out E f k q o ∧ ((E = 0 ∧ e = .returned (.tuple #[]) ∧ Gone S B pB V w' g r row p L out f k q o) ∨ (E ≠ 0 ∧ e = flt E ∧ Mvb S V w'))

set_option maxHeartbeats 2000000 in
theorem hblk21 {S : Nat → Prop} {B tB pB : Nat} {V : World} {g r : Nat} {row : List Int} {p L : Nat} {out : List Int} {dn : Bool} (h : Ist S B V g r row p L out dn) (T : Tab (wtake V B)) (O : Odr (wtake V B))
    (ht : V.heap[tB]? = some (.cells #[.pointer (some ⟨g, 0, none⟩)] 43 (0, 0))) (hp : V.heap[pB]? = some (pcO 0 false 0 0 0 0)) (h1 : ¬ S tB) (h2 : ¬ S pB) :
    Calls Tryz.prog 17 #[.pointer (some ⟨tB, 0, none⟩), .pointer (some ⟨pB, 0, none⟩)] V (One S B pB V g r row p L out) := by
  have HB := hide (hblockS h T O)
  have c0 : V.cell? ⟨tB, 0, none⟩ = some (.pointer (some ⟨g, 0, none⟩)) := by unfold World.cell?; rw [ht]; rfl
  have HP := hide hp
  have H2 := hide h2
  have hpz := (Array.getElem?_eq_some_iff.1 hp).1
  have HZ := hide hpz
  clear h T O ht hp h1 h2 hpz
  go_enter Tryz.func17, Tryz.ntmps17
  go_wp2_with fail
  refine HB.out.mono ?_
  rintro e w1 ⟨hm, E, f, k, q, o, hblk, ⟨rfl, rfl, hI⟩ | ⟨he, rfl⟩⟩
  · have HM := hide hm
    have HI := hide hI
    have HK := hide hblk
    have HP1 : Hid (w1.heap[pB]? = some (pcO 0 false 0 0 0 0)) := (hm.blk pB HZ.out H2.out).trans HP.out
    obtain ⟨N, HN⟩ : ∃ N : Int, Hid (N = (out.length : Int)) := ⟨_, rfl⟩
    obtain ⟨M, HM2⟩ : ∃ M : Int, Hid (M = (o.length : Int)) := ⟨_, rfl⟩
    obtain ⟨P, HPP⟩ : ∃ P : Int, Hid (P = (p : Int)) := ⟨_, rfl⟩
    obtain ⟨R, HRR⟩ : ∃ R : Int, Hid (R = (q : Int)) := ⟨_, rfl⟩
    rw [← HN.out, ← HM2.out, ← HPP.out, ← HRR.out]
    clear hm hI hblk HB c0
    go_wp2_with (refine wpList_storePb rfl _ _ rfl pB k f P R N M rfl rfl HP1.out ?_; intro wn HW)
    have HW2 := hide HW
    clear HW
    go_wp2
    refine bodyPost_end (results_none rfl _ _ _) rfl ?_
    have hn : ¬ grb S V w1 pB := fun e => by
      rcases e with e | e
      · exact H2.out e
      · have := HZ.out; omega
    refine ⟨0, f, k, q, o, HK.out, .inl ⟨rfl, rfl, grb S V w1, HI.out.move (by rw [HW2.out.size]; exact Nat.le_refl _) (fun b hb => HW2.out.ne b fun e => hn (e ▸ hb)) (fun _ q => q), fun b hb => ?_, ?_, ?_, hn⟩⟩
    · rcases hb with hb | hb
      · exact .inl hb
      · exact .inr ⟨hb.1, by rw [HW2.out.size]; exact hb.2⟩
    · rw [HW2.out.at, HN.out, HM2.out, HPP.out, HRR.out]
    · exact (HM.out.mono fun b _ e => .inl e).trans (HW2.out.mvb (.inr rfl))
  · have HM := hide hm
    have HK := hide hblk
    clear hm hblk HB c0
    go_wp2
    exact ⟨rfl, E, f, k, q, o, HK.out, .inr ⟨he, rfl, HM.out⟩⟩

theorem Gone.later {S : Nat → Prop} {B pB : Nat} {V V' w w' : World} {g r : Nat} {row : List Int} {p L : Nat} {out : List Int} {f : Bool} {k : Int} {q : Nat} {o : List Int} {b : Nat} {x : Obj} (h : Gone S B pB V w g r row p L out f k q o) (hV : V'.heap.size ≤ V.heap.size) (hVV : Mvb S V' V) (hS : ∀ c, S c → c < V'.heap.size) (hp : pB < V'.heap.size)
    (hb : V'.heap.size ≤ b) (hbV : b < V.heap.size) (hW : Wrt b x w w') : Gone S B pB V' w' g r row p L out f k q o := by
  obtain ⟨S', h1, h2, h3, h4, h5⟩ := h
  have hbn : ¬ S' b := fun e => by
    rcases h2 b e with e | e
    · have := hS b e; omega
    · omega
  refine ⟨S', h1.move (by rw [hW.size]; exact Nat.le_refl _) (fun c hc => hW.ne c fun e => hbn (e ▸ hc)) (fun _ q => q), fun c hc => ?_, (hW.ne pB (by omega)).trans h3, ?_, h5⟩
  · rcases h2 c hc with e | e
    · exact .inl e
    · exact .inr ⟨by omega, by rw [hW.size]; exact e.2⟩
  · have a := (hVV.mono (S' := fun c => S c ∨ c = pB) fun c _ e => .inl e).trans h4
    exact ⟨hW.os.trans a.os, hW.tape.trans a.tape, hW.output.trans a.output, by rw [hW.size]; exact a.size, fun c hc hn => (hW.ne c (by omega)).trans (a.blk c hc hn)⟩

theorem wrt_set {w : World} {b : Nat} {z : Value} {t : TypeId} (h : w.heap[b]? = some (.cells #[z] t (0, 0))) (u : Value) : Wrt b (.cells #[u] t (0, 0)) w (w.setCell ⟨b, 0, none⟩ u) :=
  ⟨rfl, rfl, rfl, size_setCell _ _ _, by rw [heap_setCell_at _ h]; rfl, fun c hc => setCell_others _ _ _ _ c hc⟩

theorem Gone.cell {S : Nat → Prop} {B pB : Nat} {V w : World} {g r : Nat} {row : List Int} {p L : Nat} {out : List Int} {f : Bool} {k : Int} {q : Nat} {o : List Int} (h : Gone S B pB V w g r row p L out f k q o) {b : Nat} {x : Obj} (hb : V.heap[b]? = some x) (hS : ¬ S b) (hp : b ≠ pB) : w.heap[b]? = some x := by
  obtain ⟨S', h1, h2, h3, h4, h5⟩ := h
  exact (h4.blk b (Array.getElem?_eq_some_iff.1 hb).1 (fun e => by rcases e with e | e; exact hS e; exact hp e)).trans hb

set_option maxHeartbeats 2000000 in
theorem hcaughtB {S : Nat → Prop} {B tB pB : Nat} {V : World} {g r : Nat} {row : List Int} {p L : Nat} {out : List Int} {dn : Bool} (h : Ist S B V g r row p L out dn) (T : Tab (wtake V B)) (O : Odr (wtake V B)) (hS : ∀ b, S b → b < V.heap.size)
    (ht : V.heap[tB]? = some (.cells #[.pointer (some ⟨g, 0, none⟩)] 43 (0, 0))) (hp : V.heap[pB]? = some (pcO 0 false 0 0 0 0)) (h1 : ¬ S tB) (h2 : ¬ S pB) :
    Calls Tryz.prog 16 #[.func (.func 17) #[] #[.pointer (some ⟨tB, 0, none⟩), .pointer (some ⟨pB, 0, none⟩)]] V fun e w' => ∃ E f k q o, Blk row L p out E f k q o ∧ e = .returned (.int .i64 E) ∧ ((E = 0 ∧ Gone S B pB V w' g r row p L out f k q o) ∨ (E ≠ 0 ∧ Mvb S V w')) := by
  obtain ⟨V1, hV1⟩ : ∃ V1, V.alloc (.cells #[.int .i64 0] 51) = V1 := ⟨_, rfl⟩
  have hb1 : Below V.heap.size V V1 := by rw [← hV1]; exact (Below.refl _ _).alloc (Nat.le_refl _) _
  have hz1 : V1.heap.size = V.heap.size + 1 := by rw [← hV1]; simp
  have he1 : V1.heap[V.heap.size]? = some (.cells #[.int .i64 0] 51 (0, 0)) := by rw [← hV1]; exact heap_alloc_new _ _
  have htz := (Array.getElem?_eq_some_iff.1 ht).1
  have hpz := (Array.getElem?_eq_some_iff.1 hp).1
  have hBV := h.size
  have hI : Ist S B V1 g r row p L out dn := h.move hb1.size (fun b hb => hb1.block b (hS b hb)) (fun _ q => q)
  have hwt : wtake V1 B = wtake V B ∨ Below (wtake V B).heap.size (wtake V B) (wtake V1 B) := .inr (by
    have e := wtake_size hBV
    rw [e]
    exact ⟨hb1.os, hb1.tape, hb1.output, by have := wtake_size (w := V1) (B := B) (by omega); omega, fun k hk => (wtake_at hk).trans ((hb1.block k (by omega)).trans (wtake_at hk).symm)⟩)
  have hw2 : Below (wtake V B).heap.size (wtake V B) (wtake V1 B) := by
    rcases hwt with e | e
    · rw [e]; exact Below.refl _ _
    · exact e
  have HC := hblk21 hI (T.mono hw2) (O.mono hw2) ((hb1.block tB htz).trans ht) ((hb1.block pB hpz).trans hp) h1 h2
  have hnS : ¬ S V.heap.size := fun e => by have := hS _ e; omega
  refine (hcaught V 17 _ (fun w => Tryz.call17 _ w)
    (fun w' => ∃ f k q o, Blk row L p out 0 f k q o ∧ Gone S B pB V1 w' g r row p L out f k q o)
    (fun E w' => ∃ f k q o, Blk row L p out E f k q o ∧ E ≠ 0 ∧ Mvb S V1 w') ?_ ?_ ?_).mono ?_
  · rw [hV1]
    refine HC.mono ?_
    rintro e w' ⟨E, f, k, q, o, hb, ⟨rfl, rfl, hg⟩ | ⟨he, rfl, hm⟩⟩
    · exact .inl ⟨rfl, f, k, q, o, hb, hg⟩
    · exact .inr ⟨E, rfl, f, k, q, o, hb, he, hm⟩
  · rintro w' ⟨f, k, q, o, hb, hg⟩
    have hx := hg.cell he1 hnS (by omega)
    refine ⟨by unfold World.cell?; rw [hx]; rfl, by unfold World.frozen?; rw [hx]; rfl, (Array.getElem?_eq_some_iff.1 hx).1⟩
  · rintro E w' ⟨f, k, q, o, hb, he, hm⟩
    have hx := (hm.blk _ (by omega) hnS).trans he1
    refine ⟨by unfold World.cell?; rw [hx]; rfl, by unfold World.frozen?; rw [hx]; rfl, (Array.getElem?_eq_some_iff.1 hx).1⟩
  · rintro e w' (⟨rfl, w1, ⟨f, k, q, o, hb, hg⟩, rfl⟩ | ⟨E, w1, rfl, ⟨f, k, q, o, hb, he, hm⟩, rfl⟩)
    · have hx := hg.cell he1 hnS (by omega)
      exact ⟨0, f, k, q, o, hb, rfl, .inl ⟨rfl, hg.later (by omega) (Mvb.of hb1) hS hpz (Nat.le_refl _) (by omega) (wrt_set hx _)⟩⟩
    · refine ⟨E, f, k, q, o, hb, rfl, .inr ⟨he, ?_⟩⟩
      have hx := (hm.blk _ (by omega) hnS).trans he1
      have a := (Mvb.of (S := S) hb1).trans hm
      have hW := wrt_set hx (.int .i64 E)
      have hs := hm.size
      have b2 := (Below.refl (w1.setCell ⟨V.heap.size, 0, none⟩ (.int .i64 E)).heap.size (w1.setCell ⟨V.heap.size, 0, none⟩ (.int .i64 E))).alloc (Nat.le_refl _) (.cells #[.int .i64 E] 59)
      exact ⟨a.os, a.tape, a.output, by have := b2.size; rw [hW.size] at this; omega, fun c hc hn => (b2.block c (by rw [hW.size]; omega)).trans ((hW.ne c (by omega)).trans (a.blk c hc hn))⟩
end Go.Proofs.YtdpoggapenjjfaaGreatDoor

namespace Go.Proofs.YtdpoggapenjjfaaGreatDoor
open Go.RowKit Go.Maps
set_option maxRecDepth 20000
set_option linter.unusedVariables false

end Go.Proofs.YtdpoggapenjjfaaGreatDoor

namespace Go.Proofs.YtdpoggapenjjfaaGreatDoor
open Go.RowKit Go.Maps
set_option maxRecDepth 20000
set_option linter.unusedVariables false
set_option linter.unusedSimpArgs false

structure Bx (b : Nat) (w w' : World) : Prop where
  os : w'.os = w.os
  tape : w'.tape = w.tape
  output : w'.output = w.output
  size : w.heap.size ≤ w'.heap.size
  block : ∀ k, k < w.heap.size → k ≠ b → w'.heap[k]? = w.heap[k]?

theorem Bx.refl (b : Nat) (w : World) : Bx b w w := ⟨rfl, rfl, rfl, Nat.le_refl _, fun _ _ _ => rfl⟩
theorem Bx.below {b : Nat} {w W' w' : World} (h : Bx b w W') (hs : W'.heap.size = w.heap.size) (hb : Below W'.heap.size W' w') : Bx b w w' :=
  ⟨hb.os.trans h.os, hb.tape.trans h.tape, hb.output.trans h.output, Nat.le_trans h.size hb.size, fun k hk hn => (hb.block k (by omega)).trans (h.block k hk hn)⟩
theorem Bx.set {b : Nat} {w W' : World} (h : Bx b w W') (k : Nat) (u : Value) : Bx b w (W'.setCell ⟨b, k, none⟩ u) :=
  ⟨h.os, h.tape, h.output, by rw [size_setCell]; exact h.size, fun j hj hn => (setCell_others W' b k u j hn).trans (h.block j hj hn)⟩

structure Wks (W0 w : World) (b2 : Nat) (W' wr : World) (g r : Nat) (row : List Int) (p L : Nat) (o : List Int) (dn : Bool) (v : Value) (R : List (Array Value)) (K : Nat → Nat) (ys : List ((Nat → Nat) × Thing)) : Prop where
  tx : TX W' wr g r row p L o dn ((K, tpq v R) :: ys)
  bx : Bx b2 w W'
  sz : W'.heap.size = w.heap.size
  cell : W'.cell? ⟨b2, 0, none⟩ = some v
  fr : W'.frozen? ⟨b2, 0, none⟩ = false
  lo : W0.heap.size ≤ b2
  be : Below W0.heap.size W0 W'

theorem Wks.lt {W0 w : World} {b2 : Nat} {W' wr : World} {g r : Nat} {row : List Int} {p L : Nat} {o : List Int} {dn : Bool} {v : Value} {R : List (Array Value)} {K : Nat → Nat} {ys : List ((Nat → Nat) × Thing)} (h : Wks W0 w b2 W' wr g r row p L o dn v R K ys) : b2 < W'.heap.size := World.block_lt_of_cell? _ _ h.cell

end Go.Proofs.YtdpoggapenjjfaaGreatDoor

namespace Go.Proofs.YtdpoggapenjjfaaGreatDoor
open Go.RowKit Go.Maps
set_option maxRecDepth 20000
set_option linter.unusedVariables false
set_option linter.unusedSimpArgs false

theorem Bx.low {b : Nat} {w w4 w' : World} (h : Bx b w4 w') (hb : Below w.heap.size w w4) (hlo : w.heap.size ≤ b) : Below w.heap.size w w' :=
  ⟨h.os.trans hb.os, h.tape.trans hb.tape, h.output.trans hb.output, Nat.le_trans hb.size h.size, fun k hk => (h.block k (Nat.lt_of_lt_of_le hk hb.size) (by omega)).trans (hb.block k hk)⟩

end Go.Proofs.YtdpoggapenjjfaaGreatDoor

namespace Go.Proofs.YtdpoggapenjjfaaGreatDoor
open Go.RowKit Go.Maps Go.Shelf
attribute [local go_sem] Oper.semAt_some
set_option maxRecDepth 20000
set_option linter.unusedVariables false

/-! The iterator that Blocks hands back. -/

theorem wtake_up {w w' : World} {B : Nat} (h : ∀ k, k < B → w'.heap[k]? = w.heap[k]?) (ho : w'.os = w.os) (ht : w'.tape = w.tape) (hp : w'.output = w.output) (h1 : B ≤ w.heap.size) (h2 : B ≤ w'.heap.size) : Below (wtake w B).heap.size (wtake w B) (wtake w' B) := by
  have e := wtake_size h1
  rw [e]
  exact ⟨ho, ht, hp, by have := wtake_size h2; omega, fun k hk => (wtake_at hk).trans ((h k hk).trans (wtake_at hk).symm)⟩

def BGo (J : Nat → (Nat → Prop) → World → Prop) (Jx : World → Prop) (k : Nat) (S : Nat → Prop) (u : Value) (U : World) (c : Bool) (U' : World) : Prop :=
  (c = true ∧ J (k + 1) (fun b => S b ∧ u.ownBlock ≠ some b) U' ∧ (∀ b, S b → u.ownBlock ≠ some b → U'.heap[b]? = U.heap[b]?) ∧ U.heap.size ≤ U'.heap.size) ∨ (c = false ∧ Jx U')

def BTurns (ps : List Pc) (o : List Int) (l : Nat) (J : Nat → (Nat → Prop) → World → Prop) (Jx : World → Prop) : Prop :=
  ∀ k x S U u, ps[k]? = some x → J k S U → (∀ b, S b → b < U.heap.size) → OB U 0 u (sgb o x) → (∀ b, u.ownBlock = some b → S b) → YieldAt Fence.wide 1 Tryz.prog l #[.agg (pcq x), u] U fun e U' => ∃ c, e = .returned (.bool c) ∧ BGo J Jx k S u U c U'

def BBears (J : Nat → (Nat → Prop) → World → Prop) : Prop := ∀ k S S' w w', J k S w → Mvb S w w' → (∀ b, S b → b < w.heap.size) → (∀ b, S b → S' b) → (∀ b, S' b → (S b ∨ w.heap.size ≤ b) ∧ b < w'.heap.size) → J k S' w'

structure Bhd (ps : List Pc) (o0 row : List Int) (L B : Nat) (J : Nat → (Nat → Prop) → World → Prop) (tB g r : Nat) (dn : Bool) (k : Nat) (S : Nat → Prop) (p : Nat) (out : List Int) (W : World) : Prop where
  ist : Ist (fun b => S b ∧ b ≠ tB) B W g r row p L out dn
  box : W.heap[tB]? = some (.cells #[.pointer (some ⟨g, 0, none⟩)] 43 (0, 0))
  sB : S tB
  bnd : ∀ b, S b → b < W.heap.size
  j : J k S W
  kl : k ≤ ps.length
  way : (dn = false ∧ ∃ E q, Txt row L p out (ps.drop k) E q o0) ∨ (dn = true ∧ k = ps.length)

theorem Txt.step {row : List Int} {L p : Nat} {out : List Int} {ps : List Pc} {E : Int} {q : Nat} {o0 : List Int} (h : Txt row L p out ps E q o0) {e : Int} {f : Bool} {k : Int} {q1 : Nat} {o1 : List Int} (hb : Blk row L p out e f k q1 o1) :
    (e ≠ 0 → ps = []) ∧ (e = 0 → ∃ rest, ps = ⟨k, f, p, q1, out.length, o1.length⟩ :: rest ∧ (∃ t, o0 = o1 ++ t) ∧ ((f = true ∧ rest = []) ∨ (f = false ∧ Txt row L q1 o1 rest E q o0))) := by
  cases h with
  | bad h1 h2 =>
    obtain ⟨rfl, _⟩ := h1.det hb
    exact ⟨fun _ => rfl, fun e0 => absurd e0 h2⟩
  | last h1 =>
    obtain ⟨rfl, h2⟩ := h1.det hb
    obtain ⟨rfl, rfl, rfl, rfl⟩ := h2 rfl
    exact ⟨fun e0 => absurd rfl e0, fun _ => ⟨[], rfl, ⟨[], by simp⟩, .inl ⟨rfl, rfl⟩⟩⟩
  | go h1 h3 =>
    obtain ⟨rfl, h2⟩ := h1.det hb
    obtain ⟨rfl, rfl, rfl, rfl⟩ := h2 rfl
    exact ⟨fun e0 => absurd rfl e0, fun _ => ⟨_, rfl, h3.pre, .inr ⟨rfl, h3⟩⟩⟩

theorem drop_cons {α : Type} {ps rest : List α} {x : α} {k : Nat} (h : ps.drop k = x :: rest) : ps[k]? = some x ∧ ps.drop (k + 1) = rest ∧ k < ps.length := by
  have h1 : k < ps.length := by
    rcases Nat.lt_or_ge k ps.length with q | q
    · exact q
    · rw [List.drop_eq_nil_of_le q] at h; cases h
  rw [List.drop_eq_getElem_cons h1] at h
  injection h with h2 h3
  exact ⟨by rw [List.getElem?_eq_getElem h1, h2], h3, h1⟩

variable {ps : List Pc} {o0 row : List Int} {L B : Nat} {J : Nat → (Nat → Prop) → World → Prop} {tB g r : Nat} {dn : Bool} {k : Nat} {S : Nat → Prop} {p : Nat} {out : List Int} {W : World}

structure Bmid (ps : List Pc) (o0 row : List Int) (L B : Nat) (J : Nat → (Nat → Prop) → World → Prop) (tB g r pB : Nat) (dn : Bool) (k : Nat) (S : Nat → Prop) (p q : Nat) (out o : List Int) (x : Pc) (Wr w2 : World) : Prop where
  hd : Bhd ps o0 row L B J tB g r false k S p out Wr
  pz : pB = Wr.heap.size
  got : ps[k]? = some x
  is : x = ⟨x.kind, dn, p, q, out.length, o.length⟩
  seg : ∃ s t, o = out ++ s ∧ o0 = o ++ t
  way : (dn = false ∧ ∃ E q', Txt row L q o (ps.drop (k + 1)) E q' o0) ∨ (dn = true ∧ k + 1 = ps.length)
  gone : ∃ V, V.heap.size = Wr.heap.size + 1 ∧ Below Wr.heap.size Wr V ∧ Gone (fun b => S b ∧ b ≠ tB) B pB V w2 g r row p L out dn x.kind q o
  lt : p < q ∧ q ≤ row.length

theorem Bhd.one (h : Bhd ps o0 row L B J tB g r false k S p out W) (O1 : Obj) {w2 : World} {E : Int} {f : Bool} {kk : Int} {q : Nat} {o : List Int} (hb : Blk row L p out E f kk q o) :
    (E ≠ 0 → k = ps.length) ∧ (E = 0 → Gone (fun b => S b ∧ b ≠ tB) B W.heap.size (W.alloc O1) w2 g r row p L out f kk q o → Bmid ps o0 row L B J tB g r W.heap.size f k S p q out o ⟨kk, f, p, q, out.length, o.length⟩ W w2) := by
  obtain ⟨hbit, -⟩ := h.ist.fact
  rcases h.way with ⟨_, E', q', ht⟩ | ⟨h0, _⟩
  · obtain ⟨h1, h2⟩ := ht.step hb
    refine ⟨fun he => ?_, fun he hg => ?_⟩
    · have := h1 he
      have h3 := h.kl
      rcases Nat.lt_or_ge k ps.length with q | q
      · rw [List.drop_eq_getElem_cons q] at this; cases this
      · omega
    · obtain ⟨rest, h3, h4, h5⟩ := h2 he
      obtain ⟨d1, d2, d3⟩ := drop_cons h3
      obtain ⟨s, hs⟩ := hb.pre
      obtain ⟨t, ht2⟩ := h4
      subst he
      have hlt := hb.lt hbit rfl
      refine ⟨h, rfl, d1, rfl, ⟨s, t, hs, ht2⟩, ?_, ⟨W.alloc O1, by simp, (Below.refl _ _).alloc (Nat.le_refl _) _, hg⟩, by omega⟩
      rcases h5 with ⟨rfl, h6⟩ | ⟨rfl, h6⟩
      · right
        refine ⟨rfl, ?_⟩
        have := congrArg List.length d2
        rw [h6, List.length_drop] at this
        simp at this
        omega
      · exact .inl ⟨rfl, E', q', by rw [d2]; exact h6⟩
  · cases h0

section
variable {q : Nat} {o : List Int} {x : Pc} {pB : Nat} {Wr w2 : World}

theorem Bmid.tbox (h : Bmid ps o0 row L B J tB g r pB dn k S p q out o x Wr w2) : w2.heap[tB]? = some (.cells #[.pointer (some ⟨g, 0, none⟩)] 43 (0, 0)) := by
  obtain ⟨V, h1, h2, h3⟩ := h.gone
  have hz := h.hd.bnd _ h.hd.sB
  refine h3.cell ((h2.block _ hz).trans h.hd.box) (fun e => e.2 rfl) (by rw [h.pz]; omega)

theorem Bmid.pbox (h : Bmid ps o0 row L B J tB g r pB dn k S p q out o x Wr w2) : w2.heap[pB]? = some (pcO x.kind dn p q out.length o.length) := by
  obtain ⟨V, h1, h2, S', h3, h4, h5, h6⟩ := h.gone
  exact h5

theorem Bmid.mvb (h : Bmid ps o0 row L B J tB g r pB dn k S p q out o x Wr w2) : Mvb S Wr w2 := by
  obtain ⟨V, h1, h2, S', h3, h4, h5, h6, h7⟩ := h.gone
  refine ⟨h6.os.trans h2.os, h6.tape.trans h2.tape, h6.output.trans h2.output, Nat.le_trans h2.size h6.size, fun b hb hS => (h6.blk b (by omega) (fun e => ?_)).trans (h2.block b hb)⟩
  rcases e with e | e
  · exact hS e.1
  · have := h.pz; omega

theorem Bmid.turn (h : Bmid ps o0 row L B J tB g r pB dn k S p q out o x Wr w2) (hJ : BBears J) {w3 : World} (hb : Below w2.heap.size w2 w3) : J k (grb S Wr w3) w3 ∧ ∀ b, grb S Wr w3 b → b < w3.heap.size := by
  have hm := h.mvb
  have hs := hm.size
  have hs2 := hb.size
  have hz : ∀ b, grb S Wr w3 b → b < w3.heap.size := fun b e => by
    rcases e with e | e
    · have := h.hd.bnd b e; omega
    · exact e.2
  refine ⟨hJ k S _ Wr w3 h.hd.j ⟨hb.os.trans hm.os, hb.tape.trans hm.tape, hb.output.trans hm.output, by omega, fun b e hS => (hb.block b (by omega)).trans (hm.blk b e hS)⟩ h.hd.bnd (fun b e => .inl e) (fun b e => ⟨?_, hz b e⟩), hz⟩
  rcases e with e | e
  · exact .inl e
  · exact .inr e.1

theorem Bmid.next (h : Bmid ps o0 row L B J tB g r pB dn k S p q out o x Wr w2) {w3 w4 : World} {u : Value} (hb : Below w2.heap.size w2 w3) (hu : ∀ b, u.ownBlock = some b → w2.heap.size ≤ b)
    (hj : J (k + 1) (fun b => grb S Wr w3 b ∧ u.ownBlock ≠ some b) w4) (hk : ∀ b, grb S Wr w3 b → u.ownBlock ≠ some b → w4.heap[b]? = w3.heap[b]?) (hs : w3.heap.size ≤ w4.heap.size) :
    Bhd ps o0 row L B J tB g r dn (k + 1) (fun b => grb S Wr w3 b ∧ u.ownBlock ≠ some b) q o w4 := by
  have hm := h.mvb
  have hs1 := hm.size
  have hs2 := hb.size
  have hzt := h.hd.bnd _ h.hd.sB
  have htb := h.tbox
  obtain ⟨V, h1, h2, S', h3, h4, h5, h6, h7⟩ := h.gone
  have hun : ∀ b, b < w2.heap.size → u.ownBlock ≠ some b := fun b hb e => by have := hu b e; omega
  have key : ∀ b, S' b → (grb S Wr w3 b ∧ u.ownBlock ≠ some b) ∧ b ≠ tB ∧ b < w2.heap.size := fun b e => by
    rcases h4 b e with e | e
    · have := h.hd.bnd b e.1
      exact ⟨⟨.inl e.1, hun b (by omega)⟩, e.2, by omega⟩
    · exact ⟨⟨.inr ⟨by omega, by omega⟩, hun b e.2⟩, by omega, e.2⟩
  refine ⟨h3.move (by omega) (fun b e => ?_) (fun b e => ⟨(key b e).1, (key b e).2.1⟩), ?_, ⟨.inl h.hd.sB, hun _ (by omega)⟩, fun b e => ?_, hj, ?_, h.way⟩
  · exact (hk b (key b e).1.1 (key b e).1.2).trans (hb.block b (key b e).2.2)
  · exact (hk tB (.inl h.hd.sB) (hun _ (by omega))).trans ((hb.block tB (by omega)).trans htb)
  · rcases e.1 with e | e
    · have := h.hd.bnd b e; omega
    · omega
  · have := h.got
    have := (List.getElem?_eq_some_iff.1 this).1
    omega
end
end Go.Proofs.YtdpoggapenjjfaaGreatDoor

namespace Go.Proofs.YtdpoggapenjjfaaGreatDoor
open Go.RowKit Go.Maps
set_option maxRecDepth 20000
set_option linter.unusedVariables false

theorem bclone_any (v : Value) (D : List Int) (w : World) (h : SB w v D) (hn : D.length ≤ 33554432) :
    Calls Tryz.prog 13 #[v] w fun e w' => ∃ u, e = .returned u ∧ OB w' w.heap.size u D ∧ Below w.heap.size w w' := by
  have he := fun (w : World) (a : Option Addr) (n c : Nat) => Lib.run_eql_slice_nil (P := Tryz.prog) w 22 5 a n c 0 0 Tryz.underlying22
  have H := hide h
  obtain ⟨ao, cap, rfl, hlc, hcm, hnil, hcell⟩ := h
  cases ao with
  | none =>
    have hc0 := hnil rfl
    subst hc0
    have hD : D = [] := List.length_eq_zero_iff.1 (by omega)
    subst hD
    clear hnil hcell hcm hlc
    go_enter Tryz.func13, Tryz.ntmps13
    go_wp2
    go_ret
    exact ⟨_, rfl, World.ownsRow_nil _ _ _ _, Below.refl _ _⟩
  | some ad =>
    clear hnil hcell
    have HSR := hide ((H.out.below ((Below.refl _ _).alloc (Nat.le_refl _) (.cells #[] 5))).src)
    have HO : Hid (OB (w.alloc (.cells #[] 5)) w.heap.size (.slice (some ⟨w.heap.size, 0, none⟩) 0 0) []) := by
      show World.ownsRow _ _ _ _ _ _ _
      refine ⟨by simp, .inr ⟨w.heap.size, 0, #[], by simp, Nat.le_refl _, heap_alloc_new w _, ?_⟩⟩
      simp
    go_enter Tryz.func13, Tryz.ntmps13
    go_wp2_with (at_builtin; refine wpList_app rfl _ _ 22 rfl w.heap.size (.slice (some ⟨w.heap.size, 0, none⟩) 0 0) _ [] D rfl HO.out rfl HSR.out (by simp; omega) (by simp) ?_)
    intro v6 w6 ho6 hg6
    have HN : Hid (OB w6 w.heap.size v6 D ∧ Below w.heap.size w w6) := by
      have b1 : Below w.heap.size w (w.alloc (.cells #[] 5)) := (Below.refl _ _).alloc (Nat.le_refl _) _
      have hb := hg6.by
      refine ⟨ho6, hb.os.trans b1.os, hb.tape.trans b1.tape, hb.output.trans b1.output, Nat.le_trans b1.size hb.size, fun k hk => (hb.block k (by have := b1.size; omega) (fun e => ?_)).trans (b1.block k hk)⟩
      simp [Value.ownBlock] at e
      omega
    go_wp2
    go_ret
    exact ⟨_, rfl, HN.out.1, HN.out.2⟩
end Go.Proofs.YtdpoggapenjjfaaGreatDoor

namespace Go.Proofs.YtdpoggapenjjfaaGreatDoor
open Go.RowKit Go.Maps Go.Shelf
attribute [local go_sem] Oper.semAt_some
set_option maxRecDepth 20000
set_option linter.unusedVariables false

abbrev bops : Array Oper := #[{ dst := some 19, op := Op.move (Operand.tmp 0), type := 42, pos := "inflate.go:68", after := #[], guard := none },
  { dst := some 20, op := Op.load 36 (Operand.tmp 5), type := 36, pos := "inflate.go:68", after := #[], guard := none },
  { dst := some 21, op := Op.load 43 (Operand.tmp 4), type := 43, pos := "inflate.go:68", after := #[], guard := none },
  { dst := some 22, op := Op.nilCheck (Operand.tmp 21), type := 0, pos := "inflate.go:68", after := #[{ on := 2, ground := Ground.data }], guard := none },
  { dst := some 23, op := Op.fieldAddr 50 (Operand.tmp 22) 1, type := 0, pos := "inflate.go:68", after := #[{ on := 3, ground := Ground.data }], guard := none },
  { dst := some 24, op := Op.load 22 (Operand.tmp 23), type := 22, pos := "inflate.go:68", after := #[{ on := 4, ground := Ground.data }], guard := none },
  { dst := some 25, op := Op.fieldAddr 36 (Operand.tmp 5) 4, type := 0, pos := "inflate.go:68", after := #[], guard := none },
  { dst := some 26, op := Op.load 3 (Operand.tmp 25), type := 3, pos := "inflate.go:68", after := #[{ on := 6, ground := Ground.data }], guard := none },
  { dst := some 27, op := Op.fieldAddr 36 (Operand.tmp 5) 5, type := 0, pos := "inflate.go:68", after := #[], guard := none },
  { dst := some 28, op := Op.load 3 (Operand.tmp 27), type := 3, pos := "inflate.go:68", after := #[{ on := 8, ground := Ground.data }], guard := none },
  { dst := some 29, op := Op.slice 22 (Operand.tmp 24) (some (Operand.tmp 26)) (some (Operand.tmp 28)) none, type := 22, pos := "inflate.go:68", after := #[{ on := 5, ground := Ground.data }, { on := 7, ground := Ground.data }, { on := 9, ground := Ground.data }], guard := none },
  { dst := some 30, op := Op.call { callee := Callee.value (Operand.func 13), args := #[Operand.tmp 29], argTypes := #[22] }, type := 22, pos := "inflate.go:68", after := #[{ on := 10, ground := Ground.data }], guard := none },
  { dst := some 31, op := Op.call { callee := Callee.value (Operand.tmp 19), args := #[Operand.tmp 20, Operand.tmp 30], argTypes := #[36, 22] }, type := 4, pos := "inflate.go:68", after := #[{ on := 0, ground := Ground.data }, { on := 1, ground := Ground.data }, { on := 11, ground := Ground.data }, { on := 11, ground := Ground.chain }], guard := none },
  { dst := some 32, op := Op.unOp UnOp.not 4 (Operand.tmp 31), type := 4, pos := "inflate.go:68", after := #[{ on := 12, ground := Ground.data }], guard := none }]

set_option maxHeartbeats 8000000 in
theorem reg5 {Q : Exit → Act → World → Prop} {w2 : World} {l tB pB g N M D p q cc sc : Nat} {kk : Int} {f : Bool} {ao sp : Option Addr} {s1 s2 s3 s6 s7 s8 s9 s10 s11 s12 s13 s14 s15 s16 s17 s18 s19 s20 s21 s22 s23 s24 s25 s26 s27 s28 s29 s30 s31 s32 : Value} {Y : Bool → World → Prop} {X : Value → World → Prop}
    (x0 : w2.cell? ⟨pB, 0, none⟩ = some (.int .i64 kk)) (x1 : w2.cell? ⟨pB, 1, none⟩ = some (.bool f)) (x2 : w2.cell? ⟨pB, 2, none⟩ = some (.int .i64 p)) (x3 : w2.cell? ⟨pB, 3, none⟩ = some (.int .i64 q)) (x4 : w2.cell? ⟨pB, 4, none⟩ = some (.int .i64 N)) (x5 : w2.cell? ⟨pB, 5, none⟩ = some (.int .i64 M))
    (x6 : w2.cell? ⟨tB, 0, none⟩ = some (.pointer (some ⟨g, 0, none⟩))) (x7 : w2.cell? ⟨g, 1, none⟩ = some (.slice ao M cc))
    (hsl : ∀ wx : World, (Instr.slice 22 (.slice ao M cc) (some (.int .i64 (N : Int))) (some (.int .i64 (M : Int))) none).run Tryz.prog wx = .ok (.slice sp D sc) wx)
    (hcl : Calls Tryz.prog 13 #[.slice sp D sc] w2.drew fun e w' => ∃ u, e = .returned u ∧ X u w')
    (hX : ∀ u w3, X u w3 → Below w2.heap.size w2 w3) (hpz : pB < w2.heap.size)
    (hy : ∀ u w3, X u w3 → YieldAt Fence.wide 1 Tryz.prog l #[.agg #[.int .i64 kk, .bool f, .int .i64 p, .int .i64 q, .int .i64 N, .int .i64 M], u] w3 fun e w4 => ∃ c, e = .returned (.bool c) ∧ Y c w4 ∧ ∃ u', u' = u ∧ X u w3)
    (hP : ∀ (c : List PanicEntry) (a : Act) (d : Option Tmp) (v : Value) (w : World), Q (.panic c) (a.put d v) w → Q (.panic c) a w)
    (hQ : ∀ u w3 c w4, X u w3 → Y c w4 → Q .normal ({ tmps := #[.func (.yield l) #[] #[], s1, s2, s3, .pointer (some ⟨tB, 0, none⟩), .pointer (some ⟨pB, 0, none⟩), s6, s7, s8, s9, s10, s11, s12, s13, s14, s15, s16, s17, s18, .func (.yield l) #[] #[], .agg #[.int .i64 kk, .bool f, .int .i64 p, .int .i64 q, .int .i64 N, .int .i64 M], .pointer (some ⟨g, 0, none⟩), .pointer (some ⟨g, 0, none⟩), .pointer (some ⟨g, 1, none⟩), .slice ao M cc, .pointer (some ⟨pB, 4, none⟩), .int .i64 N, .pointer (some ⟨pB, 5, none⟩), .int .i64 M, .slice sp D sc, u, .bool c, .bool (!c)], defers := [] }) w4) :
    (Code.region 5 bops true).wpIn Fence.wide 2 Tryz.prog Q ({ tmps := #[.func (.yield l) #[] #[], s1, s2, s3, .pointer (some ⟨tB, 0, none⟩), .pointer (some ⟨pB, 0, none⟩), s6, s7, s8, s9, s10, s11, s12, s13, s14, s15, s16, s17, s18, s19, s20, s21, s22, s23, s24, s25, s26, s27, s28, s29, s30, s31, s32], defers := [] }) w2 := by
  obtain ⟨W, HW⟩ : ∃ W, Hid (W = w2.drew) := ⟨_, rfl⟩
  have k0 : W.cell? ⟨pB, 0, none⟩ = some (.int .i64 kk) := by rw [HW.out]; exact x0
  have k1 : W.cell? ⟨pB, 1, none⟩ = some (.bool f) := by rw [HW.out]; exact x1
  have k2 : W.cell? ⟨pB, 2, none⟩ = some (.int .i64 p) := by rw [HW.out]; exact x2
  have k3 : W.cell? ⟨pB, 3, none⟩ = some (.int .i64 q) := by rw [HW.out]; exact x3
  have k4 : W.cell? ⟨pB, 4, none⟩ = some (.int .i64 N) := by rw [HW.out]; exact x4
  have k5 : W.cell? ⟨pB, 5, none⟩ = some (.int .i64 M) := by rw [HW.out]; exact x5
  have k6 : W.cell? ⟨tB, 0, none⟩ = some (.pointer (some ⟨g, 0, none⟩)) := by rw [HW.out]; exact x6
  have k7 : W.cell? ⟨g, 1, none⟩ = some (.slice ao M cc) := by rw [HW.out]; exact x7
  rw [← HW.out] at hcl
  have z0 : ∀ u w3, X u w3 → w3.cell? ⟨pB, 0, none⟩ = some (.int .i64 kk) := fun u w3 h => ((hX u w3 h).cell hpz).trans x0
  have z1 : ∀ u w3, X u w3 → w3.cell? ⟨pB, 1, none⟩ = some (.bool f) := fun u w3 h => ((hX u w3 h).cell hpz).trans x1
  have z2 : ∀ u w3, X u w3 → w3.cell? ⟨pB, 2, none⟩ = some (.int .i64 p) := fun u w3 h => ((hX u w3 h).cell hpz).trans x2
  have z3 : ∀ u w3, X u w3 → w3.cell? ⟨pB, 3, none⟩ = some (.int .i64 q) := fun u w3 h => ((hX u w3 h).cell hpz).trans x3
  have z4 : ∀ u w3, X u w3 → w3.cell? ⟨pB, 4, none⟩ = some (.int .i64 N) := fun u w3 h => ((hX u w3 h).cell hpz).trans x4
  have z5 : ∀ u w3, X u w3 → w3.cell? ⟨pB, 5, none⟩ = some (.int .i64 M) := fun u w3 h => ((hX u w3 h).cell hpz).trans x5
  have HCL := hide hcl
  have HYY := hide hy
  have HQQ := hide hQ
  clear x0 x1 x2 x3 x4 x5 x6 x7 hcl hy hQ hX hpz
  have y_all : ∀ u w3, X u w3 → ∀ li : Array Bool, li = #[true, true, true, true, true, true, true, true, true, true, true, true, false, false] → wpAnyIn Fence.wide 2 Tryz.prog .any bops Q 2 li ({ tmps := #[.func (.yield l) #[] #[], s1, s2, s3, .pointer (some ⟨tB, 0, none⟩), .pointer (some ⟨pB, 0, none⟩), s6, s7, s8, s9, s10, s11, s12, s13, s14, s15, s16, s17, s18, .func (.yield l) #[] #[], .agg #[.int .i64 kk, .bool f, .int .i64 p, .int .i64 q, .int .i64 N, .int .i64 M], .pointer (some ⟨g, 0, none⟩), .pointer (some ⟨g, 0, none⟩), .pointer (some ⟨g, 1, none⟩), .slice ao M cc, .pointer (some ⟨pB, 4, none⟩), .int .i64 N, .pointer (some ⟨pB, 5, none⟩), .int .i64 M, .slice sp D sc, u, s31, s32], defers := [] }) w3 := by
    intro u w3 hx li hli
    subst hli
    refine wpAnyIn_ready (rs := [12]) (by kernel_rfl) (by simp) ?_
    refine AllReadyIn.cons rfl (fun K hK => ?_) ?_
    · obtain ⟨fn, tmps, assign, body, hyy, hRd⟩ := HYY.out u w3 hx
      have HRD := hide hRd
      clear hRd
      go_simp
      gi_wp2_with fail
      refine HRD.out.mono ?_
      rintro e w4 ⟨c, rfl, hY, u', -, hx'⟩
      have HY4 := hide hY
      clear hY
      go_simp
      refine hK _ _ ?_
      refine wpAnyIn_ready (rs := [13]) (by kernel_rfl) (by simp) ?_
      refine AllReadyIn.cons rfl (fun K hK => ?_) AllReadyIn.nil
      go_simp
      refine hK _ _ ?_
      refine wpAnyIn_done (by kernel_rfl) ?_ _
      exact HQQ.out u w3 c w4 hx HY4.out
    exact AllReadyIn.nil
  have y_p : ∀ u w3, X u w3 → ∀ li : Array Bool, li = #[true, false, true, true, true, true, true, true, true, true, true, true, false, false] → wpAnyIn Fence.wide 2 Tryz.prog .any bops Q 3 li ({ tmps := #[.func (.yield l) #[] #[], s1, s2, s3, .pointer (some ⟨tB, 0, none⟩), .pointer (some ⟨pB, 0, none⟩), s6, s7, s8, s9, s10, s11, s12, s13, s14, s15, s16, s17, s18, .func (.yield l) #[] #[], s20, .pointer (some ⟨g, 0, none⟩), .pointer (some ⟨g, 0, none⟩), .pointer (some ⟨g, 1, none⟩), .slice ao M cc, .pointer (some ⟨pB, 4, none⟩), .int .i64 N, .pointer (some ⟨pB, 5, none⟩), .int .i64 M, .slice sp D sc, u, s31, s32], defers := [] }) w3 := by
    intro u w3 hx li hli
    subst hli
    refine wpAnyIn_ready (rs := [1]) (by kernel_rfl) (by simp) ?_
    refine AllReadyIn.cons rfl (fun K hK => ?_) ?_
    · have a0 := z0 u w3 hx
      have a1 := z1 u w3 hx
      have a2 := z2 u w3 hx
      have a3 := z3 u w3 hx
      have a4 := z4 u w3 hx
      have a5 := z5 u w3 hx
      clear z0 z1 z2 z3 z4 z5
      go_simp
      refine hK _ _ ?_
      exact y_all u w3 hx _ (by kernel_rfl)
    exact AllReadyIn.nil
  clear HYY HQQ
  have t_1 : ∀ li : Array Bool, li = #[true, true, true, true, true, true, true, true, true, true, true, false, false, false] → wpAnyIn Fence.wide 2 Tryz.prog .any bops Q 3 li ({ tmps := #[.func (.yield l) #[] #[], s1, s2, s3, .pointer (some ⟨tB, 0, none⟩), .pointer (some ⟨pB, 0, none⟩), s6, s7, s8, s9, s10, s11, s12, s13, s14, s15, s16, s17, s18, .func (.yield l) #[] #[], .agg #[.int .i64 kk, .bool f, .int .i64 p, .int .i64 q, .int .i64 N, .int .i64 M], .pointer (some ⟨g, 0, none⟩), .pointer (some ⟨g, 0, none⟩), .pointer (some ⟨g, 1, none⟩), .slice ao M cc, .pointer (some ⟨pB, 4, none⟩), .int .i64 N, .pointer (some ⟨pB, 5, none⟩), .int .i64 M, .slice sp D sc, s30, s31, s32], defers := [] }) W := by
    intro li hli
    subst hli
    refine wpAnyIn_ready (rs := [11]) (by kernel_rfl) (by simp) ?_
    refine AllReadyIn.cons rfl (fun K hK => ?_) ?_
    · go_simp
      refine ⟨trivial, (callsIn_wide.2 HCL.out).mono ?_⟩
      rintro e w3 ⟨u, rfl, hx⟩
      go_simp
      refine hK _ _ ?_
      exact y_all u w3 hx _ (by kernel_rfl)
    exact AllReadyIn.nil
  have t_0 : ∀ li : Array Bool, li = #[true, false, true, true, true, true, true, true, true, true, true, false, false, false] → wpAnyIn Fence.wide 2 Tryz.prog .any bops Q 4 li ({ tmps := #[.func (.yield l) #[] #[], s1, s2, s3, .pointer (some ⟨tB, 0, none⟩), .pointer (some ⟨pB, 0, none⟩), s6, s7, s8, s9, s10, s11, s12, s13, s14, s15, s16, s17, s18, .func (.yield l) #[] #[], s20, .pointer (some ⟨g, 0, none⟩), .pointer (some ⟨g, 0, none⟩), .pointer (some ⟨g, 1, none⟩), .slice ao M cc, .pointer (some ⟨pB, 4, none⟩), .int .i64 N, .pointer (some ⟨pB, 5, none⟩), .int .i64 M, .slice sp D sc, s30, s31, s32], defers := [] }) W := by
    intro li hli
    subst hli
    refine wpAnyIn_ready (rs := [1, 11]) (by kernel_rfl) (by simp) ?_
    refine AllReadyIn.cons rfl (fun K hK => ?_) ?_
    · go_simp
      refine hK _ _ ?_
      exact t_1 _ (by kernel_rfl)
    refine AllReadyIn.cons rfl (fun K hK => ?_) ?_
    · go_simp
      refine ⟨trivial, (callsIn_wide.2 HCL.out).mono ?_⟩
      rintro e w3 ⟨u, rfl, hx⟩
      go_simp
      refine hK _ _ ?_
      exact y_p u w3 hx _ (by kernel_rfl)
    exact AllReadyIn.nil
  clear HCL y_all y_p z0 z1 z2 z3 z4 z5
  have s_1111 : ∀ li : Array Bool, li = #[true, true, true, true, true, false, true, true, true, true, false, false, false, false] → wpAnyIn Fence.wide 2 Tryz.prog .any bops Q 5 li ({ tmps := #[.func (.yield l) #[] #[], s1, s2, s3, .pointer (some ⟨tB, 0, none⟩), .pointer (some ⟨pB, 0, none⟩), s6, s7, s8, s9, s10, s11, s12, s13, s14, s15, s16, s17, s18, .func (.yield l) #[] #[], .agg #[.int .i64 kk, .bool f, .int .i64 p, .int .i64 q, .int .i64 N, .int .i64 M], .pointer (some ⟨g, 0, none⟩), .pointer (some ⟨g, 0, none⟩), .pointer (some ⟨g, 1, none⟩), s24, .pointer (some ⟨pB, 4, none⟩), .int .i64 N, .pointer (some ⟨pB, 5, none⟩), .int .i64 M, s29, s30, s31, s32], defers := [] }) W := by
    intro li hli
    subst hli
    refine wpAnyIn_ready (rs := [5]) (by kernel_rfl) (by simp) ?_
    refine AllReadyIn.cons rfl (fun K hK => ?_) ?_
    · go_simp
      refine hK _ _ ?_
      refine wpAnyIn_take (i := 10) (v := .slice sp D sc) rfl rfl (by kernel_rfl) (by kernel_rfl) (by kernel_rfl) (fun _ _ _ h => hP _ _ _ _ _ h) ⟨Or.inl ⟨by rfl, fun w => by go_simp⟩, fun _ => rfl⟩ ?_
      exact t_1 _ (by kernel_rfl)
    exact AllReadyIn.nil
  have s_1201 : ∀ li : Array Bool, li = #[true, true, true, true, true, true, true, false, true, true, false, false, false, false] → wpAnyIn Fence.wide 2 Tryz.prog .any bops Q 5 li ({ tmps := #[.func (.yield l) #[] #[], s1, s2, s3, .pointer (some ⟨tB, 0, none⟩), .pointer (some ⟨pB, 0, none⟩), s6, s7, s8, s9, s10, s11, s12, s13, s14, s15, s16, s17, s18, .func (.yield l) #[] #[], .agg #[.int .i64 kk, .bool f, .int .i64 p, .int .i64 q, .int .i64 N, .int .i64 M], .pointer (some ⟨g, 0, none⟩), .pointer (some ⟨g, 0, none⟩), .pointer (some ⟨g, 1, none⟩), .slice ao M cc, .pointer (some ⟨pB, 4, none⟩), s26, .pointer (some ⟨pB, 5, none⟩), .int .i64 M, s29, s30, s31, s32], defers := [] }) W := by
    intro li hli
    subst hli
    refine wpAnyIn_ready (rs := [7]) (by kernel_rfl) (by simp) ?_
    refine AllReadyIn.cons rfl (fun K hK => ?_) ?_
    · go_simp
      refine hK _ _ ?_
      refine wpAnyIn_take (i := 10) (v := .slice sp D sc) rfl rfl (by kernel_rfl) (by kernel_rfl) (by kernel_rfl) (fun _ _ _ h => hP _ _ _ _ _ h) ⟨Or.inl ⟨by rfl, fun w => by go_simp⟩, fun _ => rfl⟩ ?_
      exact t_1 _ (by kernel_rfl)
    exact AllReadyIn.nil
  have s_1210 : ∀ li : Array Bool, li = #[true, true, true, true, true, true, true, true, true, false, false, false, false, false] → wpAnyIn Fence.wide 2 Tryz.prog .any bops Q 5 li ({ tmps := #[.func (.yield l) #[] #[], s1, s2, s3, .pointer (some ⟨tB, 0, none⟩), .pointer (some ⟨pB, 0, none⟩), s6, s7, s8, s9, s10, s11, s12, s13, s14, s15, s16, s17, s18, .func (.yield l) #[] #[], .agg #[.int .i64 kk, .bool f, .int .i64 p, .int .i64 q, .int .i64 N, .int .i64 M], .pointer (some ⟨g, 0, none⟩), .pointer (some ⟨g, 0, none⟩), .pointer (some ⟨g, 1, none⟩), .slice ao M cc, .pointer (some ⟨pB, 4, none⟩), .int .i64 N, .pointer (some ⟨pB, 5, none⟩), s28, s29, s30, s31, s32], defers := [] }) W := by
    intro li hli
    subst hli
    refine wpAnyIn_ready (rs := [9]) (by kernel_rfl) (by simp) ?_
    refine AllReadyIn.cons rfl (fun K hK => ?_) ?_
    · go_simp
      refine hK _ _ ?_
      refine wpAnyIn_take (i := 10) (v := .slice sp D sc) rfl rfl (by kernel_rfl) (by kernel_rfl) (by kernel_rfl) (fun _ _ _ h => hP _ _ _ _ _ h) ⟨Or.inl ⟨by rfl, fun w => by go_simp⟩, fun _ => rfl⟩ ?_
      exact t_1 _ (by kernel_rfl)
    exact AllReadyIn.nil
  have s_0111 : ∀ li : Array Bool, li = #[true, false, true, true, true, false, true, true, true, true, false, false, false, false] → wpAnyIn Fence.wide 2 Tryz.prog .any bops Q 6 li ({ tmps := #[.func (.yield l) #[] #[], s1, s2, s3, .pointer (some ⟨tB, 0, none⟩), .pointer (some ⟨pB, 0, none⟩), s6, s7, s8, s9, s10, s11, s12, s13, s14, s15, s16, s17, s18, .func (.yield l) #[] #[], s20, .pointer (some ⟨g, 0, none⟩), .pointer (some ⟨g, 0, none⟩), .pointer (some ⟨g, 1, none⟩), s24, .pointer (some ⟨pB, 4, none⟩), .int .i64 N, .pointer (some ⟨pB, 5, none⟩), .int .i64 M, s29, s30, s31, s32], defers := [] }) W := by
    intro li hli
    subst hli
    refine wpAnyIn_ready (rs := [1, 5]) (by kernel_rfl) (by simp) ?_
    refine AllReadyIn.cons rfl (fun K hK => ?_) ?_
    · go_simp
      refine hK _ _ ?_
      exact s_1111 _ (by kernel_rfl)
    refine AllReadyIn.cons rfl (fun K hK => ?_) ?_
    · go_simp
      refine hK _ _ ?_
      refine wpAnyIn_take (i := 10) (v := .slice sp D sc) rfl rfl (by kernel_rfl) (by kernel_rfl) (by kernel_rfl) (fun _ _ _ h => hP _ _ _ _ _ h) ⟨Or.inl ⟨by rfl, fun w => by go_simp⟩, fun _ => rfl⟩ ?_
      exact t_0 _ (by kernel_rfl)
    exact AllReadyIn.nil
  have s_0201 : ∀ li : Array Bool, li = #[true, false, true, true, true, true, true, false, true, true, false, false, false, false] → wpAnyIn Fence.wide 2 Tryz.prog .any bops Q 6 li ({ tmps := #[.func (.yield l) #[] #[], s1, s2, s3, .pointer (some ⟨tB, 0, none⟩), .pointer (some ⟨pB, 0, none⟩), s6, s7, s8, s9, s10, s11, s12, s13, s14, s15, s16, s17, s18, .func (.yield l) #[] #[], s20, .pointer (some ⟨g, 0, none⟩), .pointer (some ⟨g, 0, none⟩), .pointer (some ⟨g, 1, none⟩), .slice ao M cc, .pointer (some ⟨pB, 4, none⟩), s26, .pointer (some ⟨pB, 5, none⟩), .int .i64 M, s29, s30, s31, s32], defers := [] }) W := by
    intro li hli
    subst hli
    refine wpAnyIn_ready (rs := [1, 7]) (by kernel_rfl) (by simp) ?_
    refine AllReadyIn.cons rfl (fun K hK => ?_) ?_
    · go_simp
      refine hK _ _ ?_
      exact s_1201 _ (by kernel_rfl)
    refine AllReadyIn.cons rfl (fun K hK => ?_) ?_
    · go_simp
      refine hK _ _ ?_
      refine wpAnyIn_take (i := 10) (v := .slice sp D sc) rfl rfl (by kernel_rfl) (by kernel_rfl) (by kernel_rfl) (fun _ _ _ h => hP _ _ _ _ _ h) ⟨Or.inl ⟨by rfl, fun w => by go_simp⟩, fun _ => rfl⟩ ?_
      exact t_0 _ (by kernel_rfl)
    exact AllReadyIn.nil
  have s_0210 : ∀ li : Array Bool, li = #[true, false, true, true, true, true, true, true, true, false, false, false, false, false] → wpAnyIn Fence.wide 2 Tryz.prog .any bops Q 6 li ({ tmps := #[.func (.yield l) #[] #[], s1, s2, s3, .pointer (some ⟨tB, 0, none⟩), .pointer (some ⟨pB, 0, none⟩), s6, s7, s8, s9, s10, s11, s12, s13, s14, s15, s16, s17, s18, .func (.yield l) #[] #[], s20, .pointer (some ⟨g, 0, none⟩), .pointer (some ⟨g, 0, none⟩), .pointer (some ⟨g, 1, none⟩), .slice ao M cc, .pointer (some ⟨pB, 4, none⟩), .int .i64 N, .pointer (some ⟨pB, 5, none⟩), s28, s29, s30, s31, s32], defers := [] }) W := by
    intro li hli
    subst hli
    refine wpAnyIn_ready (rs := [1, 9]) (by kernel_rfl) (by simp) ?_
    refine AllReadyIn.cons rfl (fun K hK => ?_) ?_
    · go_simp
      refine hK _ _ ?_
      exact s_1210 _ (by kernel_rfl)
    refine AllReadyIn.cons rfl (fun K hK => ?_) ?_
    · go_simp
      refine hK _ _ ?_
      refine wpAnyIn_take (i := 10) (v := .slice sp D sc) rfl rfl (by kernel_rfl) (by kernel_rfl) (by kernel_rfl) (fun _ _ _ h => hP _ _ _ _ _ h) ⟨Or.inl ⟨by rfl, fun w => by go_simp⟩, fun _ => rfl⟩ ?_
      exact t_0 _ (by kernel_rfl)
    exact AllReadyIn.nil
  have s_1011 : ∀ li : Array Bool, li = #[true, true, false, false, false, false, true, true, true, true, false, false, false, false] → wpAnyIn Fence.wide 2 Tryz.prog .any bops Q 8 li ({ tmps := #[.func (.yield l) #[] #[], s1, s2, s3, .pointer (some ⟨tB, 0, none⟩), .pointer (some ⟨pB, 0, none⟩), s6, s7, s8, s9, s10, s11, s12, s13, s14, s15, s16, s17, s18, .func (.yield l) #[] #[], .agg #[.int .i64 kk, .bool f, .int .i64 p, .int .i64 q, .int .i64 N, .int .i64 M], s21, s22, s23, s24, .pointer (some ⟨pB, 4, none⟩), .int .i64 N, .pointer (some ⟨pB, 5, none⟩), .int .i64 M, s29, s30, s31, s32], defers := [] }) W := by
    intro li hli
    subst hli
    refine wpAnyIn_ready (rs := [2]) (by kernel_rfl) (by simp) ?_
    refine AllReadyIn.cons rfl (fun K hK => ?_) ?_
    · go_simp
      refine hK _ _ ?_
      refine wpAnyIn_take (i := 3) (v := .pointer (some ⟨g, 0, none⟩)) rfl rfl (by kernel_rfl) (by kernel_rfl) (by kernel_rfl) (fun _ _ _ h => hP _ _ _ _ _ h) ⟨Or.inl ⟨by rfl, fun w => by go_simp⟩, fun _ => rfl⟩ ?_
      refine wpAnyIn_take (i := 4) (v := .pointer (some ⟨g, 1, none⟩)) rfl rfl (by kernel_rfl) (by kernel_rfl) (by kernel_rfl) (fun _ _ _ h => hP _ _ _ _ _ h) ⟨Or.inl ⟨by rfl, fun w => by go_simp⟩, fun _ => rfl⟩ ?_
      exact s_1111 _ (by kernel_rfl)
    exact AllReadyIn.nil
  have s_1101 : ∀ li : Array Bool, li = #[true, true, true, true, true, false, true, false, true, true, false, false, false, false] → wpAnyIn Fence.wide 2 Tryz.prog .any bops Q 6 li ({ tmps := #[.func (.yield l) #[] #[], s1, s2, s3, .pointer (some ⟨tB, 0, none⟩), .pointer (some ⟨pB, 0, none⟩), s6, s7, s8, s9, s10, s11, s12, s13, s14, s15, s16, s17, s18, .func (.yield l) #[] #[], .agg #[.int .i64 kk, .bool f, .int .i64 p, .int .i64 q, .int .i64 N, .int .i64 M], .pointer (some ⟨g, 0, none⟩), .pointer (some ⟨g, 0, none⟩), .pointer (some ⟨g, 1, none⟩), s24, .pointer (some ⟨pB, 4, none⟩), s26, .pointer (some ⟨pB, 5, none⟩), .int .i64 M, s29, s30, s31, s32], defers := [] }) W := by
    intro li hli
    subst hli
    refine wpAnyIn_ready (rs := [5, 7]) (by kernel_rfl) (by simp) ?_
    refine AllReadyIn.cons rfl (fun K hK => ?_) ?_
    · go_simp
      refine hK _ _ ?_
      exact s_1201 _ (by kernel_rfl)
    refine AllReadyIn.cons rfl (fun K hK => ?_) ?_
    · go_simp
      refine hK _ _ ?_
      exact s_1111 _ (by kernel_rfl)
    exact AllReadyIn.nil
  have s_1110 : ∀ li : Array Bool, li = #[true, true, true, true, true, false, true, true, true, false, false, false, false, false] → wpAnyIn Fence.wide 2 Tryz.prog .any bops Q 6 li ({ tmps := #[.func (.yield l) #[] #[], s1, s2, s3, .pointer (some ⟨tB, 0, none⟩), .pointer (some ⟨pB, 0, none⟩), s6, s7, s8, s9, s10, s11, s12, s13, s14, s15, s16, s17, s18, .func (.yield l) #[] #[], .agg #[.int .i64 kk, .bool f, .int .i64 p, .int .i64 q, .int .i64 N, .int .i64 M], .pointer (some ⟨g, 0, none⟩), .pointer (some ⟨g, 0, none⟩), .pointer (some ⟨g, 1, none⟩), s24, .pointer (some ⟨pB, 4, none⟩), .int .i64 N, .pointer (some ⟨pB, 5, none⟩), s28, s29, s30, s31, s32], defers := [] }) W := by
    intro li hli
    subst hli
    refine wpAnyIn_ready (rs := [5, 9]) (by kernel_rfl) (by simp) ?_
    refine AllReadyIn.cons rfl (fun K hK => ?_) ?_
    · go_simp
      refine hK _ _ ?_
      exact s_1210 _ (by kernel_rfl)
    refine AllReadyIn.cons rfl (fun K hK => ?_) ?_
    · go_simp
      refine hK _ _ ?_
      exact s_1111 _ (by kernel_rfl)
    exact AllReadyIn.nil
  have s_1200 : ∀ li : Array Bool, li = #[true, true, true, true, true, true, true, false, true, false, false, false, false, false] → wpAnyIn Fence.wide 2 Tryz.prog .any bops Q 6 li ({ tmps := #[.func (.yield l) #[] #[], s1, s2, s3, .pointer (some ⟨tB, 0, none⟩), .pointer (some ⟨pB, 0, none⟩), s6, s7, s8, s9, s10, s11, s12, s13, s14, s15, s16, s17, s18, .func (.yield l) #[] #[], .agg #[.int .i64 kk, .bool f, .int .i64 p, .int .i64 q, .int .i64 N, .int .i64 M], .pointer (some ⟨g, 0, none⟩), .pointer (some ⟨g, 0, none⟩), .pointer (some ⟨g, 1, none⟩), .slice ao M cc, .pointer (some ⟨pB, 4, none⟩), s26, .pointer (some ⟨pB, 5, none⟩), s28, s29, s30, s31, s32], defers := [] }) W := by
    intro li hli
    subst hli
    refine wpAnyIn_ready (rs := [7, 9]) (by kernel_rfl) (by simp) ?_
    refine AllReadyIn.cons rfl (fun K hK => ?_) ?_
    · go_simp
      refine hK _ _ ?_
      exact s_1210 _ (by kernel_rfl)
    refine AllReadyIn.cons rfl (fun K hK => ?_) ?_
    · go_simp
      refine hK _ _ ?_
      exact s_1201 _ (by kernel_rfl)
    exact AllReadyIn.nil
  have s_0011 : ∀ li : Array Bool, li = #[true, false, false, false, false, false, true, true, true, true, false, false, false, false] → wpAnyIn Fence.wide 2 Tryz.prog .any bops Q 9 li ({ tmps := #[.func (.yield l) #[] #[], s1, s2, s3, .pointer (some ⟨tB, 0, none⟩), .pointer (some ⟨pB, 0, none⟩), s6, s7, s8, s9, s10, s11, s12, s13, s14, s15, s16, s17, s18, .func (.yield l) #[] #[], s20, s21, s22, s23, s24, .pointer (some ⟨pB, 4, none⟩), .int .i64 N, .pointer (some ⟨pB, 5, none⟩), .int .i64 M, s29, s30, s31, s32], defers := [] }) W := by
    intro li hli
    subst hli
    refine wpAnyIn_ready (rs := [1, 2]) (by kernel_rfl) (by simp) ?_
    refine AllReadyIn.cons rfl (fun K hK => ?_) ?_
    · go_simp
      refine hK _ _ ?_
      exact s_1011 _ (by kernel_rfl)
    refine AllReadyIn.cons rfl (fun K hK => ?_) ?_
    · go_simp
      refine hK _ _ ?_
      refine wpAnyIn_take (i := 3) (v := .pointer (some ⟨g, 0, none⟩)) rfl rfl (by kernel_rfl) (by kernel_rfl) (by kernel_rfl) (fun _ _ _ h => hP _ _ _ _ _ h) ⟨Or.inl ⟨by rfl, fun w => by go_simp⟩, fun _ => rfl⟩ ?_
      refine wpAnyIn_take (i := 4) (v := .pointer (some ⟨g, 1, none⟩)) rfl rfl (by kernel_rfl) (by kernel_rfl) (by kernel_rfl) (fun _ _ _ h => hP _ _ _ _ _ h) ⟨Or.inl ⟨by rfl, fun w => by go_simp⟩, fun _ => rfl⟩ ?_
      exact s_0111 _ (by kernel_rfl)
    exact AllReadyIn.nil
  have s_0101 : ∀ li : Array Bool, li = #[true, false, true, true, true, false, true, false, true, true, false, false, false, false] → wpAnyIn Fence.wide 2 Tryz.prog .any bops Q 7 li ({ tmps := #[.func (.yield l) #[] #[], s1, s2, s3, .pointer (some ⟨tB, 0, none⟩), .pointer (some ⟨pB, 0, none⟩), s6, s7, s8, s9, s10, s11, s12, s13, s14, s15, s16, s17, s18, .func (.yield l) #[] #[], s20, .pointer (some ⟨g, 0, none⟩), .pointer (some ⟨g, 0, none⟩), .pointer (some ⟨g, 1, none⟩), s24, .pointer (some ⟨pB, 4, none⟩), s26, .pointer (some ⟨pB, 5, none⟩), .int .i64 M, s29, s30, s31, s32], defers := [] }) W := by
    intro li hli
    subst hli
    refine wpAnyIn_ready (rs := [1, 5, 7]) (by kernel_rfl) (by simp) ?_
    refine AllReadyIn.cons rfl (fun K hK => ?_) ?_
    · go_simp
      refine hK _ _ ?_
      exact s_1101 _ (by kernel_rfl)
    refine AllReadyIn.cons rfl (fun K hK => ?_) ?_
    · go_simp
      refine hK _ _ ?_
      exact s_0201 _ (by kernel_rfl)
    refine AllReadyIn.cons rfl (fun K hK => ?_) ?_
    · go_simp
      refine hK _ _ ?_
      exact s_0111 _ (by kernel_rfl)
    exact AllReadyIn.nil
  have s_0110 : ∀ li : Array Bool, li = #[true, false, true, true, true, false, true, true, true, false, false, false, false, false] → wpAnyIn Fence.wide 2 Tryz.prog .any bops Q 7 li ({ tmps := #[.func (.yield l) #[] #[], s1, s2, s3, .pointer (some ⟨tB, 0, none⟩), .pointer (some ⟨pB, 0, none⟩), s6, s7, s8, s9, s10, s11, s12, s13, s14, s15, s16, s17, s18, .func (.yield l) #[] #[], s20, .pointer (some ⟨g, 0, none⟩), .pointer (some ⟨g, 0, none⟩), .pointer (some ⟨g, 1, none⟩), s24, .pointer (some ⟨pB, 4, none⟩), .int .i64 N, .pointer (some ⟨pB, 5, none⟩), s28, s29, s30, s31, s32], defers := [] }) W := by
    intro li hli
    subst hli
    refine wpAnyIn_ready (rs := [1, 5, 9]) (by kernel_rfl) (by simp) ?_
    refine AllReadyIn.cons rfl (fun K hK => ?_) ?_
    · go_simp
      refine hK _ _ ?_
      exact s_1110 _ (by kernel_rfl)
    refine AllReadyIn.cons rfl (fun K hK => ?_) ?_
    · go_simp
      refine hK _ _ ?_
      exact s_0210 _ (by kernel_rfl)
    refine AllReadyIn.cons rfl (fun K hK => ?_) ?_
    · go_simp
      refine hK _ _ ?_
      exact s_0111 _ (by kernel_rfl)
    exact AllReadyIn.nil
  have s_0200 : ∀ li : Array Bool, li = #[true, false, true, true, true, true, true, false, true, false, false, false, false, false] → wpAnyIn Fence.wide 2 Tryz.prog .any bops Q 7 li ({ tmps := #[.func (.yield l) #[] #[], s1, s2, s3, .pointer (some ⟨tB, 0, none⟩), .pointer (some ⟨pB, 0, none⟩), s6, s7, s8, s9, s10, s11, s12, s13, s14, s15, s16, s17, s18, .func (.yield l) #[] #[], s20, .pointer (some ⟨g, 0, none⟩), .pointer (some ⟨g, 0, none⟩), .pointer (some ⟨g, 1, none⟩), .slice ao M cc, .pointer (some ⟨pB, 4, none⟩), s26, .pointer (some ⟨pB, 5, none⟩), s28, s29, s30, s31, s32], defers := [] }) W := by
    intro li hli
    subst hli
    refine wpAnyIn_ready (rs := [1, 7, 9]) (by kernel_rfl) (by simp) ?_
    refine AllReadyIn.cons rfl (fun K hK => ?_) ?_
    · go_simp
      refine hK _ _ ?_
      exact s_1200 _ (by kernel_rfl)
    refine AllReadyIn.cons rfl (fun K hK => ?_) ?_
    · go_simp
      refine hK _ _ ?_
      exact s_0210 _ (by kernel_rfl)
    refine AllReadyIn.cons rfl (fun K hK => ?_) ?_
    · go_simp
      refine hK _ _ ?_
      exact s_0201 _ (by kernel_rfl)
    exact AllReadyIn.nil
  have s_1001 : ∀ li : Array Bool, li = #[true, true, false, false, false, false, true, false, true, true, false, false, false, false] → wpAnyIn Fence.wide 2 Tryz.prog .any bops Q 9 li ({ tmps := #[.func (.yield l) #[] #[], s1, s2, s3, .pointer (some ⟨tB, 0, none⟩), .pointer (some ⟨pB, 0, none⟩), s6, s7, s8, s9, s10, s11, s12, s13, s14, s15, s16, s17, s18, .func (.yield l) #[] #[], .agg #[.int .i64 kk, .bool f, .int .i64 p, .int .i64 q, .int .i64 N, .int .i64 M], s21, s22, s23, s24, .pointer (some ⟨pB, 4, none⟩), s26, .pointer (some ⟨pB, 5, none⟩), .int .i64 M, s29, s30, s31, s32], defers := [] }) W := by
    intro li hli
    subst hli
    refine wpAnyIn_ready (rs := [2, 7]) (by kernel_rfl) (by simp) ?_
    refine AllReadyIn.cons rfl (fun K hK => ?_) ?_
    · go_simp
      refine hK _ _ ?_
      refine wpAnyIn_take (i := 3) (v := .pointer (some ⟨g, 0, none⟩)) rfl rfl (by kernel_rfl) (by kernel_rfl) (by kernel_rfl) (fun _ _ _ h => hP _ _ _ _ _ h) ⟨Or.inl ⟨by rfl, fun w => by go_simp⟩, fun _ => rfl⟩ ?_
      refine wpAnyIn_take (i := 4) (v := .pointer (some ⟨g, 1, none⟩)) rfl rfl (by kernel_rfl) (by kernel_rfl) (by kernel_rfl) (fun _ _ _ h => hP _ _ _ _ _ h) ⟨Or.inl ⟨by rfl, fun w => by go_simp⟩, fun _ => rfl⟩ ?_
      exact s_1101 _ (by kernel_rfl)
    refine AllReadyIn.cons rfl (fun K hK => ?_) ?_
    · go_simp
      refine hK _ _ ?_
      exact s_1011 _ (by kernel_rfl)
    exact AllReadyIn.nil
  have s_1010 : ∀ li : Array Bool, li = #[true, true, false, false, false, false, true, true, true, false, false, false, false, false] → wpAnyIn Fence.wide 2 Tryz.prog .any bops Q 9 li ({ tmps := #[.func (.yield l) #[] #[], s1, s2, s3, .pointer (some ⟨tB, 0, none⟩), .pointer (some ⟨pB, 0, none⟩), s6, s7, s8, s9, s10, s11, s12, s13, s14, s15, s16, s17, s18, .func (.yield l) #[] #[], .agg #[.int .i64 kk, .bool f, .int .i64 p, .int .i64 q, .int .i64 N, .int .i64 M], s21, s22, s23, s24, .pointer (some ⟨pB, 4, none⟩), .int .i64 N, .pointer (some ⟨pB, 5, none⟩), s28, s29, s30, s31, s32], defers := [] }) W := by
    intro li hli
    subst hli
    refine wpAnyIn_ready (rs := [2, 9]) (by kernel_rfl) (by simp) ?_
    refine AllReadyIn.cons rfl (fun K hK => ?_) ?_
    · go_simp
      refine hK _ _ ?_
      refine wpAnyIn_take (i := 3) (v := .pointer (some ⟨g, 0, none⟩)) rfl rfl (by kernel_rfl) (by kernel_rfl) (by kernel_rfl) (fun _ _ _ h => hP _ _ _ _ _ h) ⟨Or.inl ⟨by rfl, fun w => by go_simp⟩, fun _ => rfl⟩ ?_
      refine wpAnyIn_take (i := 4) (v := .pointer (some ⟨g, 1, none⟩)) rfl rfl (by kernel_rfl) (by kernel_rfl) (by kernel_rfl) (fun _ _ _ h => hP _ _ _ _ _ h) ⟨Or.inl ⟨by rfl, fun w => by go_simp⟩, fun _ => rfl⟩ ?_
      exact s_1110 _ (by kernel_rfl)
    refine AllReadyIn.cons rfl (fun K hK => ?_) ?_
    · go_simp
      refine hK _ _ ?_
      exact s_1011 _ (by kernel_rfl)
    exact AllReadyIn.nil
  have s_1100 : ∀ li : Array Bool, li = #[true, true, true, true, true, false, true, false, true, false, false, false, false, false] → wpAnyIn Fence.wide 2 Tryz.prog .any bops Q 7 li ({ tmps := #[.func (.yield l) #[] #[], s1, s2, s3, .pointer (some ⟨tB, 0, none⟩), .pointer (some ⟨pB, 0, none⟩), s6, s7, s8, s9, s10, s11, s12, s13, s14, s15, s16, s17, s18, .func (.yield l) #[] #[], .agg #[.int .i64 kk, .bool f, .int .i64 p, .int .i64 q, .int .i64 N, .int .i64 M], .pointer (some ⟨g, 0, none⟩), .pointer (some ⟨g, 0, none⟩), .pointer (some ⟨g, 1, none⟩), s24, .pointer (some ⟨pB, 4, none⟩), s26, .pointer (some ⟨pB, 5, none⟩), s28, s29, s30, s31, s32], defers := [] }) W := by
    intro li hli
    subst hli
    refine wpAnyIn_ready (rs := [5, 7, 9]) (by kernel_rfl) (by simp) ?_
    refine AllReadyIn.cons rfl (fun K hK => ?_) ?_
    · go_simp
      refine hK _ _ ?_
      exact s_1200 _ (by kernel_rfl)
    refine AllReadyIn.cons rfl (fun K hK => ?_) ?_
    · go_simp
      refine hK _ _ ?_
      exact s_1110 _ (by kernel_rfl)
    refine AllReadyIn.cons rfl (fun K hK => ?_) ?_
    · go_simp
      refine hK _ _ ?_
      exact s_1101 _ (by kernel_rfl)
    exact AllReadyIn.nil
  have s_0001 : ∀ li : Array Bool, li = #[true, false, false, false, false, false, true, false, true, true, false, false, false, false] → wpAnyIn Fence.wide 2 Tryz.prog .any bops Q 10 li ({ tmps := #[.func (.yield l) #[] #[], s1, s2, s3, .pointer (some ⟨tB, 0, none⟩), .pointer (some ⟨pB, 0, none⟩), s6, s7, s8, s9, s10, s11, s12, s13, s14, s15, s16, s17, s18, .func (.yield l) #[] #[], s20, s21, s22, s23, s24, .pointer (some ⟨pB, 4, none⟩), s26, .pointer (some ⟨pB, 5, none⟩), .int .i64 M, s29, s30, s31, s32], defers := [] }) W := by
    intro li hli
    subst hli
    refine wpAnyIn_ready (rs := [1, 2, 7]) (by kernel_rfl) (by simp) ?_
    refine AllReadyIn.cons rfl (fun K hK => ?_) ?_
    · go_simp
      refine hK _ _ ?_
      exact s_1001 _ (by kernel_rfl)
    refine AllReadyIn.cons rfl (fun K hK => ?_) ?_
    · go_simp
      refine hK _ _ ?_
      refine wpAnyIn_take (i := 3) (v := .pointer (some ⟨g, 0, none⟩)) rfl rfl (by kernel_rfl) (by kernel_rfl) (by kernel_rfl) (fun _ _ _ h => hP _ _ _ _ _ h) ⟨Or.inl ⟨by rfl, fun w => by go_simp⟩, fun _ => rfl⟩ ?_
      refine wpAnyIn_take (i := 4) (v := .pointer (some ⟨g, 1, none⟩)) rfl rfl (by kernel_rfl) (by kernel_rfl) (by kernel_rfl) (fun _ _ _ h => hP _ _ _ _ _ h) ⟨Or.inl ⟨by rfl, fun w => by go_simp⟩, fun _ => rfl⟩ ?_
      exact s_0101 _ (by kernel_rfl)
    refine AllReadyIn.cons rfl (fun K hK => ?_) ?_
    · go_simp
      refine hK _ _ ?_
      exact s_0011 _ (by kernel_rfl)
    exact AllReadyIn.nil
  have s_0010 : ∀ li : Array Bool, li = #[true, false, false, false, false, false, true, true, true, false, false, false, false, false] → wpAnyIn Fence.wide 2 Tryz.prog .any bops Q 10 li ({ tmps := #[.func (.yield l) #[] #[], s1, s2, s3, .pointer (some ⟨tB, 0, none⟩), .pointer (some ⟨pB, 0, none⟩), s6, s7, s8, s9, s10, s11, s12, s13, s14, s15, s16, s17, s18, .func (.yield l) #[] #[], s20, s21, s22, s23, s24, .pointer (some ⟨pB, 4, none⟩), .int .i64 N, .pointer (some ⟨pB, 5, none⟩), s28, s29, s30, s31, s32], defers := [] }) W := by
    intro li hli
    subst hli
    refine wpAnyIn_ready (rs := [1, 2, 9]) (by kernel_rfl) (by simp) ?_
    refine AllReadyIn.cons rfl (fun K hK => ?_) ?_
    · go_simp
      refine hK _ _ ?_
      exact s_1010 _ (by kernel_rfl)
    refine AllReadyIn.cons rfl (fun K hK => ?_) ?_
    · go_simp
      refine hK _ _ ?_
      refine wpAnyIn_take (i := 3) (v := .pointer (some ⟨g, 0, none⟩)) rfl rfl (by kernel_rfl) (by kernel_rfl) (by kernel_rfl) (fun _ _ _ h => hP _ _ _ _ _ h) ⟨Or.inl ⟨by rfl, fun w => by go_simp⟩, fun _ => rfl⟩ ?_
      refine wpAnyIn_take (i := 4) (v := .pointer (some ⟨g, 1, none⟩)) rfl rfl (by kernel_rfl) (by kernel_rfl) (by kernel_rfl) (fun _ _ _ h => hP _ _ _ _ _ h) ⟨Or.inl ⟨by rfl, fun w => by go_simp⟩, fun _ => rfl⟩ ?_
      exact s_0110 _ (by kernel_rfl)
    refine AllReadyIn.cons rfl (fun K hK => ?_) ?_
    · go_simp
      refine hK _ _ ?_
      exact s_0011 _ (by kernel_rfl)
    exact AllReadyIn.nil
  have s_0100 : ∀ li : Array Bool, li = #[true, false, true, true, true, false, true, false, true, false, false, false, false, false] → wpAnyIn Fence.wide 2 Tryz.prog .any bops Q 8 li ({ tmps := #[.func (.yield l) #[] #[], s1, s2, s3, .pointer (some ⟨tB, 0, none⟩), .pointer (some ⟨pB, 0, none⟩), s6, s7, s8, s9, s10, s11, s12, s13, s14, s15, s16, s17, s18, .func (.yield l) #[] #[], s20, .pointer (some ⟨g, 0, none⟩), .pointer (some ⟨g, 0, none⟩), .pointer (some ⟨g, 1, none⟩), s24, .pointer (some ⟨pB, 4, none⟩), s26, .pointer (some ⟨pB, 5, none⟩), s28, s29, s30, s31, s32], defers := [] }) W := by
    intro li hli
    subst hli
    refine wpAnyIn_ready (rs := [1, 5, 7, 9]) (by kernel_rfl) (by simp) ?_
    refine AllReadyIn.cons rfl (fun K hK => ?_) ?_
    · go_simp
      refine hK _ _ ?_
      exact s_1100 _ (by kernel_rfl)
    refine AllReadyIn.cons rfl (fun K hK => ?_) ?_
    · go_simp
      refine hK _ _ ?_
      exact s_0200 _ (by kernel_rfl)
    refine AllReadyIn.cons rfl (fun K hK => ?_) ?_
    · go_simp
      refine hK _ _ ?_
      exact s_0110 _ (by kernel_rfl)
    refine AllReadyIn.cons rfl (fun K hK => ?_) ?_
    · go_simp
      refine hK _ _ ?_
      exact s_0101 _ (by kernel_rfl)
    exact AllReadyIn.nil
  have s_1000 : ∀ li : Array Bool, li = #[true, true, false, false, false, false, true, false, true, false, false, false, false, false] → wpAnyIn Fence.wide 2 Tryz.prog .any bops Q 10 li ({ tmps := #[.func (.yield l) #[] #[], s1, s2, s3, .pointer (some ⟨tB, 0, none⟩), .pointer (some ⟨pB, 0, none⟩), s6, s7, s8, s9, s10, s11, s12, s13, s14, s15, s16, s17, s18, .func (.yield l) #[] #[], .agg #[.int .i64 kk, .bool f, .int .i64 p, .int .i64 q, .int .i64 N, .int .i64 M], s21, s22, s23, s24, .pointer (some ⟨pB, 4, none⟩), s26, .pointer (some ⟨pB, 5, none⟩), s28, s29, s30, s31, s32], defers := [] }) W := by
    intro li hli
    subst hli
    refine wpAnyIn_ready (rs := [2, 7, 9]) (by kernel_rfl) (by simp) ?_
    refine AllReadyIn.cons rfl (fun K hK => ?_) ?_
    · go_simp
      refine hK _ _ ?_
      refine wpAnyIn_take (i := 3) (v := .pointer (some ⟨g, 0, none⟩)) rfl rfl (by kernel_rfl) (by kernel_rfl) (by kernel_rfl) (fun _ _ _ h => hP _ _ _ _ _ h) ⟨Or.inl ⟨by rfl, fun w => by go_simp⟩, fun _ => rfl⟩ ?_
      refine wpAnyIn_take (i := 4) (v := .pointer (some ⟨g, 1, none⟩)) rfl rfl (by kernel_rfl) (by kernel_rfl) (by kernel_rfl) (fun _ _ _ h => hP _ _ _ _ _ h) ⟨Or.inl ⟨by rfl, fun w => by go_simp⟩, fun _ => rfl⟩ ?_
      exact s_1100 _ (by kernel_rfl)
    refine AllReadyIn.cons rfl (fun K hK => ?_) ?_
    · go_simp
      refine hK _ _ ?_
      exact s_1010 _ (by kernel_rfl)
    refine AllReadyIn.cons rfl (fun K hK => ?_) ?_
    · go_simp
      refine hK _ _ ?_
      exact s_1001 _ (by kernel_rfl)
    exact AllReadyIn.nil
  have s_0000 : ∀ li : Array Bool, li = #[true, false, false, false, false, false, true, false, true, false, false, false, false, false] → wpAnyIn Fence.wide 2 Tryz.prog .any bops Q 11 li ({ tmps := #[.func (.yield l) #[] #[], s1, s2, s3, .pointer (some ⟨tB, 0, none⟩), .pointer (some ⟨pB, 0, none⟩), s6, s7, s8, s9, s10, s11, s12, s13, s14, s15, s16, s17, s18, .func (.yield l) #[] #[], s20, s21, s22, s23, s24, .pointer (some ⟨pB, 4, none⟩), s26, .pointer (some ⟨pB, 5, none⟩), s28, s29, s30, s31, s32], defers := [] }) W := by
    intro li hli
    subst hli
    refine wpAnyIn_ready (rs := [1, 2, 7, 9]) (by kernel_rfl) (by simp) ?_
    refine AllReadyIn.cons rfl (fun K hK => ?_) ?_
    · go_simp
      refine hK _ _ ?_
      exact s_1000 _ (by kernel_rfl)
    refine AllReadyIn.cons rfl (fun K hK => ?_) ?_
    · go_simp
      refine hK _ _ ?_
      refine wpAnyIn_take (i := 3) (v := .pointer (some ⟨g, 0, none⟩)) rfl rfl (by kernel_rfl) (by kernel_rfl) (by kernel_rfl) (fun _ _ _ h => hP _ _ _ _ _ h) ⟨Or.inl ⟨by rfl, fun w => by go_simp⟩, fun _ => rfl⟩ ?_
      refine wpAnyIn_take (i := 4) (v := .pointer (some ⟨g, 1, none⟩)) rfl rfl (by kernel_rfl) (by kernel_rfl) (by kernel_rfl) (fun _ _ _ h => hP _ _ _ _ _ h) ⟨Or.inl ⟨by rfl, fun w => by go_simp⟩, fun _ => rfl⟩ ?_
      exact s_0100 _ (by kernel_rfl)
    refine AllReadyIn.cons rfl (fun K hK => ?_) ?_
    · go_simp
      refine hK _ _ ?_
      exact s_0010 _ (by kernel_rfl)
    refine AllReadyIn.cons rfl (fun K hK => ?_) ?_
    · go_simp
      refine hK _ _ ?_
      exact s_0001 _ (by kernel_rfl)
    exact AllReadyIn.nil
  refine wpIn_region_any (by kernel_rfl) ?_
  change wpAnyIn _ _ _ _ _ _ _ _ _ (World.drew _)
  rw [← HW.out]
  refine wpAnyIn_take (i := 0) (v := .func (.yield l) #[] #[]) rfl rfl (by kernel_rfl) (by kernel_rfl) (by kernel_rfl) (fun _ _ _ h => hP _ _ _ _ _ h) ⟨Or.inl ⟨by rfl, fun w => by go_simp⟩, fun _ => rfl⟩ ?_
  refine wpAnyIn_take (i := 6) (v := .pointer (some ⟨pB, 4, none⟩)) rfl rfl (by kernel_rfl) (by kernel_rfl) (by kernel_rfl) (fun _ _ _ h => hP _ _ _ _ _ h) ⟨Or.inl ⟨by rfl, fun w => by go_simp⟩, fun _ => rfl⟩ ?_
  refine wpAnyIn_take (i := 8) (v := .pointer (some ⟨pB, 5, none⟩)) rfl rfl (by kernel_rfl) (by kernel_rfl) (by kernel_rfl) (fun _ _ _ h => hP _ _ _ _ _ h) ⟨Or.inl ⟨by rfl, fun w => by go_simp⟩, fun _ => rfl⟩ ?_
  exact s_0000 _ (by kernel_rfl)
end Go.Proofs.YtdpoggapenjjfaaGreatDoor

