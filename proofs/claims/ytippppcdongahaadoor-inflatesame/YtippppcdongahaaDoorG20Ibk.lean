import Derived.Test.YtippppcdongahaaDoorG19Ibt
import Derived.Test.YtippppcdongahaaDoorG15Wkq
import Derived.Deep.MidRow
import Derived.Deep.DeepCutAuto
namespace Go.Proofs.YtippppcdongahaaDoor
open Go.RowKit Go.Maps
set_option maxRecDepth 20000
set_option linter.unusedVariables false

/-! What Blocks' loop runs under its catch: one block, into a box. -/

theorem szPc : (Tryd.prog.info? 36).map (·.size) = some 6 := by kernel_rfl

theorem put6_at {w : World} {g : Nat} (h : w.heap[g]? = some (pcO 0 false 0 0 0 0)) (k : Int) (f : Bool) (x y u v : Int) :
    (w.setCells g 0 [.int .i64 k, .bool f, .int .i64 x, .int .i64 y, .int .i64 u, .int .i64 v]).heap[g]? = some (pcO k f x y u v) := by
  simp only [World.setCells]
  rw [heap_setCell_at _ (heap_setCell_at _ (heap_setCell_at _ (heap_setCell_at _ (heap_setCell_at _ (heap_setCell_at _ h)))))]
  rfl

theorem put6_ne (w : World) (g b : Nat) (hb : b ≠ g) (u0 u1 u2 u3 u4 u5 : Value) : (w.setCells g 0 [u0, u1, u2, u3, u4, u5]).heap[b]? = w.heap[b]? := by
  simp only [World.setCells]
  rw [setCell_others _ _ _ _ b hb, setCell_others _ _ _ _ b hb, setCell_others _ _ _ _ b hb, setCell_others _ _ _ _ b hb, setCell_others _ _ _ _ b hb, setCell_others _ _ _ _ b hb]

theorem put6_size (w : World) (g : Nat) (u0 u1 u2 u3 u4 u5 : Value) : (w.setCells g 0 [u0, u1, u2, u3, u4, u5]).heap.size = w.heap.size := by
  simp only [World.setCells]
  rw [size_setCell, size_setCell, size_setCell, size_setCell, size_setCell, size_setCell]

structure Wrt (g : Nat) (o : Obj) (w w' : World) : Prop where
  os : w'.os = w.os
  tape : w'.tape = w.tape
  output : w'.output = w.output
  size : w'.heap.size = w.heap.size
  «at» : w'.heap[g]? = some o
  ne : ∀ b, b ≠ g → w'.heap[b]? = w.heap[b]?

theorem set_same (w : World) (g k : Nat) (u : Value) : (w.setCell ⟨g, k, none⟩ u).os = w.os ∧ (w.setCell ⟨g, k, none⟩ u).tape = w.tape ∧ (w.setCell ⟨g, k, none⟩ u).output = w.output := ⟨rfl, rfl, rfl⟩

theorem put6_wrt {w : World} {g : Nat} (h : w.heap[g]? = some (pcO 0 false 0 0 0 0)) (k : Int) (f : Bool) (x y u v : Int) :
    Wrt g (pcO k f x y u v) w (w.setCells g 0 [.int .i64 k, .bool f, .int .i64 x, .int .i64 y, .int .i64 u, .int .i64 v]) := by
  have h1 := put6_size w g (.int .i64 k) (.bool f) (.int .i64 x) (.int .i64 y) (.int .i64 u) (.int .i64 v)
  have h2 := put6_at h k f x y u v
  have h3 : ∀ b, b ≠ g → _ := fun b hb => put6_ne w g b hb (.int .i64 k) (.bool f) (.int .i64 x) (.int .i64 y) (.int .i64 u) (.int .i64 v)
  have h4 : (w.setCells g 0 [.int .i64 k, .bool f, .int .i64 x, .int .i64 y, .int .i64 u, .int .i64 v]).os = w.os ∧ (w.setCells g 0 [.int .i64 k, .bool f, .int .i64 x, .int .i64 y, .int .i64 u, .int .i64 v]).tape = w.tape ∧ (w.setCells g 0 [.int .i64 k, .bool f, .int .i64 x, .int .i64 y, .int .i64 u, .int .i64 v]).output = w.output := by
    simp only [World.setCells]
    refine ⟨?_, ?_, ?_⟩
    · rw [(set_same _ _ _ _).1, (set_same _ _ _ _).1, (set_same _ _ _ _).1, (set_same _ _ _ _).1, (set_same _ _ _ _).1, (set_same _ _ _ _).1]
    · rw [(set_same _ _ _ _).2.1, (set_same _ _ _ _).2.1, (set_same _ _ _ _).2.1, (set_same _ _ _ _).2.1, (set_same _ _ _ _).2.1, (set_same _ _ _ _).2.1]
    · rw [(set_same _ _ _ _).2.2, (set_same _ _ _ _).2.2, (set_same _ _ _ _).2.2, (set_same _ _ _ _).2.2, (set_same _ _ _ _).2.2, (set_same _ _ _ _).2.2]
  exact ⟨h4.1, h4.2.1, h4.2.2, h1, h2, h3⟩

theorem wpList_storePb {ops : Array Oper} {rest : List Oper} {op : Oper} {a : Act} {w : World} {Q : Exit → Act → World → Prop} (hgd : op.guard = none) (x y : Operand) (ho : op.op = .store 36 x y) (g : Nat) (k : Int) (f : Bool) (p q n m : Int) (hx : a.eval x = .pointer (some ⟨g, 0, none⟩))
    (hy : a.eval y = .agg #[.int .i64 k, .bool f, .int .i64 p, .int .i64 q, .int .i64 n, .int .i64 m]) (hB : w.heap[g]? = some (pcO 0 false 0 0 0 0))
    (hK : ∀ w', Wrt g (pcO k f p q n m) w w' → wpList Tryd.prog ops Q rest (a.put op.dst undef) w') : wpList Tryd.prog ops Q (op :: rest) a w := by
  have hw := put6_wrt hB k f p q n m
  have hk := hK _ hw
  have h1 : (#[.int .i64 k, .bool f, .int .i64 p, .int .i64 q, .int .i64 n, .int .i64 m] : Array Value).all (·.oneCell') = true := by simp [Value.oneCell']
  clear hK hw
  refine wpList_store_mid hgd 36 x y ho g 0 #[.int .i64 k, .bool f, .int .i64 p, .int .i64 q, .int .i64 n, .int .i64 m] hx hy ?_ szPc h1 hk
  clear hk h1 hx hy ho
  obtain ⟨c0, c1, c2, c3, c4, c5, hf⟩ := pc_cells hB
  intro j hj
  have hj6 : j < 6 := hj
  rw [Nat.zero_add]
  refine ⟨?_, hf j⟩
  match j, hj6 with
  | 0, _ => rw [c0]; rfl
  | 1, _ => rw [c1]; rfl
  | 2, _ => rw [c2]; rfl
  | 3, _ => rw [c3]; rfl
  | 4, _ => rw [c4]; rfl
  | 5, _ => rw [c5]; rfl

theorem Mvb.trans {S : Nat → Prop} {w1 w2 w3 : World} (h : Mvb S w1 w2) (k : Mvb S w2 w3) : Mvb S w1 w3 :=
  ⟨k.os.trans h.os, k.tape.trans h.tape, k.output.trans h.output, Nat.le_trans h.size k.size, fun b hb hS => (k.blk b (Nat.lt_of_lt_of_le hb h.size) hS).trans (h.blk b hb hS)⟩
theorem Mvb.mono {S S' : Nat → Prop} {w1 w2 : World} (h : Mvb S w1 w2) (hS : ∀ b, b < w1.heap.size → S b → S' b) : Mvb S' w1 w2 :=
  ⟨h.os, h.tape, h.output, h.size, fun b hb q => h.blk b hb fun e => q (hS b hb e)⟩
theorem Mvb.of {S : Nat → Prop} {w1 w2 : World} (h : Below w1.heap.size w1 w2) : Mvb S w1 w2 := ⟨h.os, h.tape, h.output, h.size, fun b hb _ => h.block b hb⟩
theorem Wrt.mvb {g : Nat} {o : Obj} {w w' : World} (h : Wrt g o w w') {S : Nat → Prop} (hg : S g) : Mvb S w w' := ⟨h.os, h.tape, h.output, by rw [h.size]; exact Nat.le_refl _, fun b _ hS => h.ne b fun e => hS (e ▸ hg)⟩

def Gone (S : Nat → Prop) (B pB : Nat) (V w' : World) (g r : Nat) (row : List Int) (p L : Nat) (out : List Int) (f : Bool) (k : Int) (q : Nat) (o : List Int) : Prop :=
  ∃ S', Ist S' B w' g r row q L o f ∧ (∀ b, S' b → S b ∨ (V.heap.size ≤ b ∧ b < w'.heap.size)) ∧ w'.heap[pB]? = some (pcO k f p q out.length o.length) ∧ Mvb (fun b => S b ∨ b = pB) V w' ∧ ¬ S' pB

def One (S : Nat → Prop) (B pB : Nat) (V : World) (g r : Nat) (row : List Int) (p L : Nat) (out : List Int) (e : Ending) (w' : World) : Prop :=
  ∃ E f k q o, Blk row L p out E f k q o ∧ ((E = 0 ∧ e = .returned (.tuple #[]) ∧ Gone S B pB V w' g r row p L out f k q o) ∨ (E ≠ 0 ∧ e = flt E ∧ Mvb S V w'))

set_option maxHeartbeats 2000000 in
theorem hblk21 {S : Nat → Prop} {B tB pB : Nat} {V : World} {g r : Nat} {row : List Int} {p L : Nat} {out : List Int} {dn : Bool} (h : Ist S B V g r row p L out dn) (T : Tab (wtake V B)) (O : Odr (wtake V B))
    (ht : V.heap[tB]? = some (.cells #[.pointer (some ⟨g, 0, none⟩)] 44 (0, 0))) (hp : V.heap[pB]? = some (pcO 0 false 0 0 0 0)) (h1 : ¬ S tB) (h2 : ¬ S pB) :
    Calls Tryd.prog 24 #[.pointer (some ⟨tB, 0, none⟩), .pointer (some ⟨pB, 0, none⟩)] V (One S B pB V g r row p L out) := by
  have HB := hide (hblockS h T O)
  have c0 : V.cell? ⟨tB, 0, none⟩ = some (.pointer (some ⟨g, 0, none⟩)) := by unfold World.cell?; rw [ht]; rfl
  have HP := hide hp
  have H2 := hide h2
  have hpz := (Array.getElem?_eq_some_iff.1 hp).1
  have HZ := hide hpz
  clear h T O ht hp h1 h2 hpz
  go_enter Tryd.func24, Tryd.ntmps24
  go_wp2_with fail
  refine HB.out.mono ?_
  rintro e w1 ⟨hm, E, f, k, q, o, hblk, ⟨rfl, rfl, hI⟩ | ⟨he, rfl⟩⟩
  · have HM := hide hm
    have HI := hide hI
    have HK := hide hblk
    have HP1 : Hid (w1.heap[pB]? = some (pcO 0 false 0 0 0 0)) := (hm.blk pB HZ.out H2.out).trans HP.out
    obtain ⟨N, HN⟩ : ∃ N : Int, Hid (N = (out.length : Int)) := ⟨_, rfl⟩
    obtain ⟨M, HM2⟩ : ∃ M : Int, Hid (M = (o.length : Int)) := ⟨_, rfl⟩
    obtain ⟨P, HPP⟩ : ∃ P : Int, Hid (P = (p : Int)) := ⟨_, rfl⟩
    obtain ⟨R, HRR⟩ : ∃ R : Int, Hid (R = (q : Int)) := ⟨_, rfl⟩
    rw [← HN.out, ← HM2.out, ← HPP.out, ← HRR.out]
    clear hm hI hblk HB c0
    go_wp2_with (refine wpList_storePb rfl _ _ rfl pB k f P R N M rfl rfl HP1.out ?_; intro wn HW)
    have HW2 := hide HW
    clear HW
    go_wp2
    refine bodyPost_end (results_none rfl _ _ _) rfl ?_
    have hn : ¬ grb S V w1 pB := fun e => by
      rcases e with e | e
      · exact H2.out e
      · have := HZ.out; omega
    refine ⟨0, f, k, q, o, HK.out, .inl ⟨rfl, rfl, grb S V w1, HI.out.move (by rw [HW2.out.size]; exact Nat.le_refl _) (fun b hb => HW2.out.ne b fun e => hn (e ▸ hb)) (fun _ q => q), fun b hb => ?_, ?_, ?_, hn⟩⟩
    · rcases hb with hb | hb
      · exact .inl hb
      · exact .inr ⟨hb.1, by rw [HW2.out.size]; exact hb.2⟩
    · rw [HW2.out.at, HN.out, HM2.out, HPP.out, HRR.out]
    · exact (HM.out.mono fun b _ e => .inl e).trans (HW2.out.mvb (.inr rfl))
  · have HM := hide hm
    have HK := hide hblk
    clear hm hblk HB c0
    go_wp2
    exact ⟨rfl, E, f, k, q, o, HK.out, .inr ⟨he, rfl, HM.out⟩⟩

theorem Gone.later {S : Nat → Prop} {B pB : Nat} {V V' w w' : World} {g r : Nat} {row : List Int} {p L : Nat} {out : List Int} {f : Bool} {k : Int} {q : Nat} {o : List Int} {b : Nat} {x : Obj} (h : Gone S B pB V w g r row p L out f k q o) (hV : V'.heap.size ≤ V.heap.size) (hVV : Mvb S V' V) (hS : ∀ c, S c → c < V'.heap.size) (hp : pB < V'.heap.size)
    (hb : V'.heap.size ≤ b) (hbV : b < V.heap.size) (hW : Wrt b x w w') : Gone S B pB V' w' g r row p L out f k q o := by
  obtain ⟨S', h1, h2, h3, h4, h5⟩ := h
  have hbn : ¬ S' b := fun e => by
    rcases h2 b e with e | e
    · have := hS b e; omega
    · omega
  refine ⟨S', h1.move (by rw [hW.size]; exact Nat.le_refl _) (fun c hc => hW.ne c fun e => hbn (e ▸ hc)) (fun _ q => q), fun c hc => ?_, (hW.ne pB (by omega)).trans h3, ?_, h5⟩
  · rcases h2 c hc with e | e
    · exact .inl e
    · exact .inr ⟨by omega, by rw [hW.size]; exact e.2⟩
  · have a := (hVV.mono (S' := fun c => S c ∨ c = pB) fun c _ e => .inl e).trans h4
    exact ⟨hW.os.trans a.os, hW.tape.trans a.tape, hW.output.trans a.output, by rw [hW.size]; exact a.size, fun c hc hn => (hW.ne c (by omega)).trans (a.blk c hc hn)⟩

theorem wrt_set {w : World} {b : Nat} {z : Value} {t : TypeId} (h : w.heap[b]? = some (.cells #[z] t (0, 0))) (u : Value) : Wrt b (.cells #[u] t (0, 0)) w (w.setCell ⟨b, 0, none⟩ u) :=
  ⟨rfl, rfl, rfl, size_setCell _ _ _, by rw [heap_setCell_at _ h]; rfl, fun c hc => setCell_others _ _ _ _ c hc⟩

theorem Gone.cell {S : Nat → Prop} {B pB : Nat} {V w : World} {g r : Nat} {row : List Int} {p L : Nat} {out : List Int} {f : Bool} {k : Int} {q : Nat} {o : List Int} (h : Gone S B pB V w g r row p L out f k q o) {b : Nat} {x : Obj} (hb : V.heap[b]? = some x) (hS : ¬ S b) (hp : b ≠ pB) : w.heap[b]? = some x := by
  obtain ⟨S', h1, h2, h3, h4, h5⟩ := h
  exact (h4.blk b (Array.getElem?_eq_some_iff.1 hb).1 (fun e => by rcases e with e | e; exact hS e; exact hp e)).trans hb

set_option maxHeartbeats 2000000 in
theorem hcaughtB {S : Nat → Prop} {B tB pB : Nat} {V : World} {g r : Nat} {row : List Int} {p L : Nat} {out : List Int} {dn : Bool} (h : Ist S B V g r row p L out dn) (T : Tab (wtake V B)) (O : Odr (wtake V B)) (hS : ∀ b, S b → b < V.heap.size)
    (ht : V.heap[tB]? = some (.cells #[.pointer (some ⟨g, 0, none⟩)] 44 (0, 0))) (hp : V.heap[pB]? = some (pcO 0 false 0 0 0 0)) (h1 : ¬ S tB) (h2 : ¬ S pB) :
    Calls Tryd.prog 14 #[.func (.func 24) #[] #[.pointer (some ⟨tB, 0, none⟩), .pointer (some ⟨pB, 0, none⟩)]] V fun e w' => ∃ E f k q o, Blk row L p out E f k q o ∧ e = .returned (.int .i64 E) ∧ ((E = 0 ∧ Gone S B pB V w' g r row p L out f k q o) ∨ (E ≠ 0 ∧ Mvb S V w')) := by
  obtain ⟨V1, hV1⟩ : ∃ V1, V.alloc (.cells #[.int .i64 0] 24) = V1 := ⟨_, rfl⟩
  have hb1 : Below V.heap.size V V1 := by rw [← hV1]; exact (Below.refl _ _).alloc (Nat.le_refl _) _
  have hz1 : V1.heap.size = V.heap.size + 1 := by rw [← hV1]; simp
  have he1 : V1.heap[V.heap.size]? = some (.cells #[.int .i64 0] 24 (0, 0)) := by rw [← hV1]; exact heap_alloc_new _ _
  have htz := (Array.getElem?_eq_some_iff.1 ht).1
  have hpz := (Array.getElem?_eq_some_iff.1 hp).1
  have hBV := h.size
  have hI : Ist S B V1 g r row p L out dn := h.move hb1.size (fun b hb => hb1.block b (hS b hb)) (fun _ q => q)
  have hwt : wtake V1 B = wtake V B ∨ Below (wtake V B).heap.size (wtake V B) (wtake V1 B) := .inr (by
    have e := wtake_size hBV
    rw [e]
    exact ⟨hb1.os, hb1.tape, hb1.output, by have := wtake_size (w := V1) (B := B) (by omega); omega, fun k hk => (wtake_at hk).trans ((hb1.block k (by omega)).trans (wtake_at hk).symm)⟩)
  have hw2 : Below (wtake V B).heap.size (wtake V B) (wtake V1 B) := by
    rcases hwt with e | e
    · rw [e]; exact Below.refl _ _
    · exact e
  have HC := hblk21 hI (T.mono hw2) (O.mono hw2) ((hb1.block tB htz).trans ht) ((hb1.block pB hpz).trans hp) h1 h2
  have hnS : ¬ S V.heap.size := fun e => by have := hS _ e; omega
  refine (hcaught V 24 _ (fun w => Tryd.call24 _ w)
    (fun w' => ∃ f k q o, Blk row L p out 0 f k q o ∧ Gone S B pB V1 w' g r row p L out f k q o)
    (fun E w' => ∃ f k q o, Blk row L p out E f k q o ∧ E ≠ 0 ∧ Mvb S V1 w') ?_ ?_ ?_).mono ?_
  · rw [hV1]
    refine HC.mono ?_
    rintro e w' ⟨E, f, k, q, o, hb, ⟨rfl, rfl, hg⟩ | ⟨he, rfl, hm⟩⟩
    · exact .inl ⟨rfl, f, k, q, o, hb, hg⟩
    · exact .inr ⟨E, rfl, f, k, q, o, hb, he, hm⟩
  · rintro w' ⟨f, k, q, o, hb, hg⟩
    have hx := hg.cell he1 hnS (by omega)
    refine ⟨by unfold World.cell?; rw [hx]; rfl, by unfold World.frozen?; rw [hx]; rfl, (Array.getElem?_eq_some_iff.1 hx).1⟩
  · rintro E w' ⟨f, k, q, o, hb, he, hm⟩
    have hx := (hm.blk _ (by omega) hnS).trans he1
    refine ⟨by unfold World.cell?; rw [hx]; rfl, by unfold World.frozen?; rw [hx]; rfl, (Array.getElem?_eq_some_iff.1 hx).1⟩
  · rintro e w' (⟨rfl, w1, ⟨f, k, q, o, hb, hg⟩, rfl⟩ | ⟨E, w1, rfl, ⟨f, k, q, o, hb, he, hm⟩, rfl⟩)
    · have hx := hg.cell he1 hnS (by omega)
      exact ⟨0, f, k, q, o, hb, rfl, .inl ⟨rfl, hg.later (by omega) (Mvb.of hb1) hS hpz (Nat.le_refl _) (by omega) (wrt_set hx _)⟩⟩
    · refine ⟨E, f, k, q, o, hb, rfl, .inr ⟨he, ?_⟩⟩
      have hx := (hm.blk _ (by omega) hnS).trans he1
      have a := (Mvb.of (S := S) hb1).trans hm
      have hW := wrt_set hx (.int .i64 E)
      have hs := hm.size
      have b2 := (Below.refl (w1.setCell ⟨V.heap.size, 0, none⟩ (.int .i64 E)).heap.size (w1.setCell ⟨V.heap.size, 0, none⟩ (.int .i64 E))).alloc (Nat.le_refl _) (.cells #[.int .i64 E] 56)
      exact ⟨a.os, a.tape, a.output, by have := b2.size; rw [hW.size] at this; omega, fun c hc hn => (b2.block c (by rw [hW.size]; omega)).trans ((hW.ne c (by omega)).trans (a.blk c hc hn))⟩
end Go.Proofs.YtippppcdongahaaDoor

