import Derived.Test.YtcgeaidegppiaaaDoorGIfl
namespace Go.Proofs.YtcgeaidegppiaaaDoor
open Go.RowKit Go.Maps
set_option maxRecDepth 20000
set_option linter.unusedVariables false

/-- What Inflate answers. -/
def Ians (w : World) (l : List Int) (limit : Int) (e : Ending) (w' : World) : Prop :=
  ∃ E n o a c, Ifl l limit E n o ∧ e = .returned (.tuple #[.slice a o.length c, .int .i64 (n : Nat), .int .i64 E]) ∧ OB w' w.heap.size (.slice a o.length c) o ∧ Below w.heap.size w w'

theorem ob_set {w : World} {B b : Nat} {v u : Value} {l : List Int} (h : OB w B v l) (hb : b < B) : OB (w.setCell ⟨b, 0, none⟩ u) B v l := h.move fun k hk => setCell_others w b 0 u k (by have := (h.lt k hk).1; omega)

theorem cell_set {w : World} {b c : Nat} {u z : Value} (h : w.cell? ⟨c, 0, none⟩ = some z) (hbc : b ≠ c) : (w.setCell ⟨b, 0, none⟩ u).cell? ⟨c, 0, none⟩ = some z := by
  rw [World.cell?_of_block (w := w) (setCell_others w b 0 u c (fun e => hbc e.symm))]; exact h
theorem froz_set {w : World} {b c : Nat} {u : Value} (h : w.frozen? ⟨c, 0, none⟩ = false) (hbc : b ≠ c) : (w.setCell ⟨b, 0, none⟩ u).frozen? ⟨c, 0, none⟩ = false := by
  rw [World.frozen?_of_block (w := w) (setCell_others w b 0 u c (fun e => hbc e.symm))]; exact h

/-- Four boxes, and one for the error. -/
theorem five {w : World} (o0 o1 o2 o3 o4 : Obj) : ∃ w5, w5 = ((((w.alloc o0).alloc o1).alloc o2).alloc o3).alloc o4 ∧ w5.heap[w.heap.size]? = some o0 ∧ w5.heap[w.heap.size + 1]? = some o1 ∧ w5.heap[w.heap.size + 2]? = some o2 ∧ w5.heap[w.heap.size + 3]? = some o3 ∧ w5.heap[w.heap.size + 4]? = some o4 ∧ w5.heap.size = w.heap.size + 5 ∧ Below w.heap.size w w5 := by
  have b1 := (Below.refl w.heap.size w).alloc (Nat.le_refl _) o0
  have b2 := b1.alloc b1.size o1
  have b3 := b2.alloc b2.size o2
  have b4 := b3.alloc b3.size o3
  have b5 := b4.alloc b4.size o4
  refine ⟨_, rfl, ?_, ?_, ?_, ?_, ?_, by simp, b5⟩
  · rw [Below.heap_alloc _ _ _ (by simp <;> omega), Below.heap_alloc _ _ _ (by simp <;> omega), Below.heap_alloc _ _ _ (by simp <;> omega), Below.heap_alloc _ _ _ (by simp <;> omega)]; exact heap_alloc_new _ _
  · rw [Below.heap_alloc _ _ _ (by simp <;> omega), Below.heap_alloc _ _ _ (by simp <;> omega), Below.heap_alloc _ _ _ (by simp <;> omega)]; exact (by simpa using heap_alloc_new (w.alloc o0) o1)
  · rw [Below.heap_alloc _ _ _ (by simp <;> omega), Below.heap_alloc _ _ _ (by simp <;> omega)]; exact (by simpa using heap_alloc_new ((w.alloc o0).alloc o1) o2)
  · rw [Below.heap_alloc _ _ _ (by simp <;> omega)]; exact (by simpa using heap_alloc_new (((w.alloc o0).alloc o1).alloc o2) o3)
  · exact (by simpa using heap_alloc_new ((((w.alloc o0).alloc o1).alloc o2).alloc o3) o4)

theorem one_cell {w : World} {g : Nat} {z : Value} {t : TypeId} (h : w.heap[g]? = some (.cells #[z] t (0, 0))) : w.cell? ⟨g, 0, none⟩ = some z ∧ w.frozen? ⟨g, 0, none⟩ = false := by
  constructor
  · unfold World.cell?; rw [h]; rfl
  · unfold World.frozen?; rw [h]; rfl

set_option maxHeartbeats 4000000 in
theorem hInflate {w : World} {v : Value} {l : List Int} (h : SB w v l) (hB : Byt l) (limit : Int) (T : Tab w) (O : Odr w) :
    Calls Tryd.prog 6 #[v, .int .i64 limit] w (Ians w l limit) := by
  obtain ⟨w5, hw5, t0, t1, t2, t3, t4, hsz, hb5⟩ := five (w := w) (.cells #[v] 22) (.cells #[.int .i64 limit] 3) (.cells #[.slice none 0 0] 22) (.cells #[.int .i64 0] 3) (.cells #[.int .i64 0] 24)
  obtain ⟨k0, -⟩ := one_cell t0
  obtain ⟨k1, -⟩ := one_cell t1
  obtain ⟨k2, j2⟩ := one_cell t2
  obtain ⟨k3, j3⟩ := one_cell t3
  obtain ⟨k4, j4⟩ := one_cell t4
  have hin := hinf1 k0 k1 ⟨_, k2⟩ ⟨_, k3⟩ j2 j3 (by omega) (h.below hb5) hB (T.mono hb5) (O.mono hb5)
  obtain ⟨w4, hw4⟩ : ∃ w4, (((w.alloc (.cells #[v] 22)).alloc (.cells #[.int .i64 limit] 3)).alloc (.cells #[.slice none 0 0] 22)).alloc (.cells #[.int .i64 0] 3) = w4 := ⟨_, rfl⟩
  have hs4 : w4.heap.size = w.heap.size + 4 := by rw [← hw4]; simp
  rw [hw4] at hw5
  have HCA : Hid (Calls Tryd.prog 11 #[.func (.func 12) #[] #[.pointer (some ⟨w.heap.size, 0, none⟩), .pointer (some ⟨w.heap.size + 1, 0, none⟩), .pointer (some ⟨w.heap.size + 2, 0, none⟩), .pointer (some ⟨w.heap.size + 3, 0, none⟩)]] w4 fun e w' => ∃ E n o a c, Ifl l limit E n o ∧ e = .returned (.int .i64 E) ∧ w'.cell? ⟨w.heap.size + 2, 0, none⟩ = some (.slice a o.length c) ∧ w'.cell? ⟨w.heap.size + 3, 0, none⟩ = some (.int .i64 (n : Nat)) ∧ w'.frozen? ⟨w.heap.size + 2, 0, none⟩ = false ∧ w'.frozen? ⟨w.heap.size + 3, 0, none⟩ = false ∧ OB w' (w.heap.size + 5) (.slice a o.length c) o ∧ Below w.heap.size w w') := by
    refine (hcaught w4 12 _ (fun w => Tryd.call12 _ w)
      (fun w' => ∃ n o a c, Ifl l limit 0 n o ∧ w'.cell? ⟨w.heap.size + 2, 0, none⟩ = some (.slice a o.length c) ∧ w'.cell? ⟨w.heap.size + 3, 0, none⟩ = some (.int .i64 (n : Nat)) ∧ w'.frozen? ⟨w.heap.size + 2, 0, none⟩ = false ∧ w'.frozen? ⟨w.heap.size + 3, 0, none⟩ = false ∧ OB w' (w.heap.size + 5) (.slice a o.length c) o ∧ Below w.heap.size w w' ∧ w'.cell? ⟨w.heap.size + 4, 0, none⟩ = some (.int .i64 0) ∧ w'.frozen? ⟨w.heap.size + 4, 0, none⟩ = false ∧ w.heap.size + 5 ≤ w'.heap.size)
      (fun E w' => Ifl l limit E 0 [] ∧ Below w5.heap.size w5 w') ?_ ?_ ?_).mono ?_
    · rw [← hw5]
      refine hin.mono ?_
      rintro e w' ⟨E, n, o, hI, ⟨rfl, rfl, w1, a, c, hb, ho, rfl⟩ | ⟨he, rfl, hb⟩⟩
      · refine .inl ⟨rfl, n, o, a, c, hI, ?_⟩
        have u2 : w1.cell? ⟨w.heap.size + 2, 0, none⟩ = some (.slice none 0 0) := by rw [hb.cell (by dsimp only; omega)]; exact k2
        have u3 : w1.cell? ⟨w.heap.size + 3, 0, none⟩ = some (.int .i64 0) := by rw [hb.cell (by dsimp only; omega)]; exact k3
        have u4 : w1.cell? ⟨w.heap.size + 4, 0, none⟩ = some (.int .i64 0) := by rw [hb.cell (by dsimp only; omega)]; exact k4
        have v2 : w1.frozen? ⟨w.heap.size + 2, 0, none⟩ = false := by rw [hb.frozen (by dsimp only; omega)]; exact j2
        have v3 : w1.frozen? ⟨w.heap.size + 3, 0, none⟩ = false := by rw [hb.frozen (by dsimp only; omega)]; exact j3
        have v4 : w1.frozen? ⟨w.heap.size + 4, 0, none⟩ = false := by rw [hb.frozen (by dsimp only; omega)]; exact j4
        rw [hsz] at ho
        have hsz1 := hb.size
        refine ⟨cell_set (World.cell?_setCell_same _ _ _ u2) (by omega), World.cell?_setCell_same _ _ _ (cell_set u3 (by omega)), froz_set ?_ (by omega), ?_, ob_set (ob_set ho (by omega)) (by omega), ?_, cell_set (cell_set u4 (by omega)) (by omega), froz_set (froz_set v4 (by omega)) (by omega), by simp; omega⟩
        · rw [World.frozen?_setCell]; exact v2
        · rw [World.frozen?_setCell]; exact froz_set v3 (by omega)
        · exact ((hb5.trans (hb.mono (by omega))).setCell (p := ⟨w.heap.size + 2, 0, none⟩) (by dsimp only; omega) _).setCell (p := ⟨w.heap.size + 3, 0, none⟩) (by dsimp only; omega) _
      · refine .inr ⟨E, rfl, ?_, hb⟩
        rcases hI with ⟨hd, rfl, rfl, rfl⟩ | ⟨hd, ps, q, o', ht, ⟨h0, _⟩ | ⟨_, rfl, rfl⟩⟩
        · exact .inl ⟨hd, rfl, rfl, rfl⟩
        · exact absurd h0 he
        · exact .inr ⟨hd, ps, q, o', ht, .inr ⟨he, rfl, rfl⟩⟩
    · rintro w' ⟨n, o, a, c, -, -, -, -, -, -, -, x1, x2, x3⟩
      rw [hs4]
      exact ⟨x1, x2, by omega⟩
    · rintro E w' ⟨-, hb⟩
      rw [hs4]
      exact ⟨by rw [hb.cell (by dsimp only; omega)]; exact k4, by rw [hb.frozen (by dsimp only; omega)]; exact j4, by have := hb.size; omega⟩
    · rintro e w' (⟨rfl, w1, ⟨n, o, a, c, hI, x2, x3, y2, y3, ho, hb, -⟩, rfl⟩ | ⟨E, w1, rfl, ⟨hI, hb⟩, rfl⟩)
      · rw [hs4]
        refine ⟨0, n, o, a, c, hI, rfl, cell_set x2 (by omega), cell_set x3 (by omega), froz_set y2 (by omega), froz_set y3 (by omega), ob_set ho (by omega), hb.setCell (p := ⟨w.heap.size + 4, 0, none⟩) (by dsimp only; omega) _⟩
      · rw [hs4]
        have hsz1 := hb.size
        have hbb : Below w.heap.size w (w1.setCell ⟨w.heap.size + 4, 0, none⟩ (.int .i64 E)) := (hb5.trans (hb.mono (by omega))).setCell (p := ⟨w.heap.size + 4, 0, none⟩) (by dsimp only; omega) _
        have u2 : w1.cell? ⟨w.heap.size + 2, 0, none⟩ = some (.slice none 0 0) := by rw [hb.cell (by dsimp only; omega)]; exact k2
        have u3 : w1.cell? ⟨w.heap.size + 3, 0, none⟩ = some (.int .i64 0) := by rw [hb.cell (by dsimp only; omega)]; exact k3
        have v2 : w1.frozen? ⟨w.heap.size + 2, 0, none⟩ = false := by rw [hb.frozen (by dsimp only; omega)]; exact j2
        have v3 : w1.frozen? ⟨w.heap.size + 3, 0, none⟩ = false := by rw [hb.frozen (by dsimp only; omega)]; exact j3
        have ha := (Below.refl (w1.setCell ⟨w.heap.size + 4, 0, none⟩ (.int .i64 E)).heap.size (w1.setCell ⟨w.heap.size + 4, 0, none⟩ (.int .i64 E))).alloc (Nat.le_refl _) (.cells #[.int .i64 E] 47)
        refine ⟨E, 0, [], none, 0, hI, rfl, ?_, ?_, ?_, ?_, World.ownsRow_nil _ _ _ _, hbb.alloc hbb.size _⟩
        · rw [ha.cell (by rw [size_setCell]; dsimp only; omega)]; exact cell_set u2 (by omega)
        · rw [ha.cell (by rw [size_setCell]; dsimp only; omega)]; exact cell_set u3 (by omega)
        · rw [ha.frozen (by rw [size_setCell]; dsimp only; omega)]; exact froz_set v2 (by omega)
        · rw [ha.frozen (by rw [size_setCell]; dsimp only; omega)]; exact froz_set v3 (by omega)
  have HW4 := hide hw4
  have hmf : ∀ (fn : Fn) (first cap : Array Value) (w : World), (Instr.makeFunc fn first cap).run Tryd.prog w = .ok (.func fn first cap) w := fun _ _ _ _ => rfl
  obtain ⟨a, c, hva, -⟩ := h
  subst hva
  clear hw4 hw5 hin t0 t1 t2 t3 t4 hsz hb5 k0 k1 k2 k3 k4 j2 j3 j4 hs4 T O hB
  go_enter Tryd.func6, Tryd.ntmps6
  go_wp2_with fail
  rw [HW4.out]
  refine HCA.out.mono ?_
  rintro e w6 ⟨E, n, o, a2, c2, hI, rfl, x2, x3, y2, y3, ho, hb⟩
  obtain ⟨M, HM⟩ : ∃ M : Nat, Hid (M = o.length) := ⟨_, rfl⟩
  rw [← HM.out] at x2
  have HI := hide hI
  have HOO := hide ho
  have HBB := hide hb
  clear hI ho hb HCA
  have z1 : (w6.setCell ⟨w.heap.size + 2, 0, none⟩ (.slice a2 M c2)).cell? ⟨w.heap.size + 3, 0, none⟩ = some (.int .i64 (n : Nat)) := cell_set x3 (by omega)
  have z2 : (w6.setCell ⟨w.heap.size + 2, 0, none⟩ (.slice a2 M c2)).frozen? ⟨w.heap.size + 3, 0, none⟩ = false := froz_set y3 (by omega)
  have z3 : ((w6.setCell ⟨w.heap.size + 2, 0, none⟩ (.slice a2 M c2)).setCell ⟨w.heap.size + 3, 0, none⟩ (.int .i64 (n : Nat))).cell? ⟨w.heap.size + 2, 0, none⟩ = some (.slice a2 M c2) := cell_set (World.cell?_setCell_same _ _ _ x2) (by omega)
  have z4 : ((w6.setCell ⟨w.heap.size + 2, 0, none⟩ (.slice a2 M c2)).setCell ⟨w.heap.size + 3, 0, none⟩ (.int .i64 (n : Nat))).cell? ⟨w.heap.size + 3, 0, none⟩ = some (.int .i64 (n : Nat)) := World.cell?_setCell_same _ _ _ z1
  have HOF : Hid (OB ((w6.setCell ⟨w.heap.size + 2, 0, none⟩ (.slice a2 M c2)).setCell ⟨w.heap.size + 3, 0, none⟩ (.int .i64 (n : Nat))) (w.heap.size + 5) (.slice a2 o.length c2) o) := ob_set (ob_set HOO.out (by omega)) (by omega)
  have HBF : Hid (Below w.heap.size w ((w6.setCell ⟨w.heap.size + 2, 0, none⟩ (.slice a2 M c2)).setCell ⟨w.heap.size + 3, 0, none⟩ (.int .i64 (n : Nat)))) := (HBB.out.setCell (p := ⟨w.heap.size + 2, 0, none⟩) (by dsimp only; omega) _).setCell (p := ⟨w.heap.size + 3, 0, none⟩) (by dsimp only; omega) _
  go_wp2
  go_region
  all_goals
    go_wp2
    refine bodyPost_ret (v := .tuple #[.slice a2 M c2, .int .i64 (n : Nat), .int .i64 E]) (by simp [results, Tryd.results6, go_sem, z3, z4]) rfl ?_
    refine ⟨E, n, o, a2, c2, HI.out, by rw [HM.out], ?_, ?_⟩
    · exact (HOF.out.base (by omega)).move fun k hk => rfl
    · exact HBF.out.drew
end Go.Proofs.YtcgeaidegppiaaaDoor

