import Derived.Test.YtpmgnpfpnkmmbaaGreatDoorG43Wkw
import Derived.Test.YtpmgnpfpnkmmbaaGreatDoorG38Frm
namespace Go.Proofs.YtpmgnpfpnkmmbaaGreatDoor
open Go.RowKit Go.Maps
set_option maxRecDepth 20000
set_option linter.unusedVariables false
set_option linter.unusedSimpArgs false

theorem four8 {w : World} (o0 o1 o2 o3 : Obj) : ∃ w4, w4 = (((w.alloc o0).alloc o1).alloc o2).alloc o3 ∧ w4.heap[w.heap.size]? = some o0 ∧ w4.heap[w.heap.size + 1]? = some o1 ∧ w4.heap[w.heap.size + 2]? = some o2 ∧ w4.heap[w.heap.size + 3]? = some o3 ∧ w4.heap.size = w.heap.size + 4 ∧ Below w.heap.size w w4 := by
  have b1 := (Below.refl w.heap.size w).alloc (Nat.le_refl _) o0
  have b2 := b1.alloc b1.size o1
  have b3 := b2.alloc b2.size o2
  have b4 := b3.alloc b3.size o3
  refine ⟨_, rfl, ?_, ?_, ?_, ?_, by simp, b4⟩
  · rw [Below.heap_alloc _ _ _ (by simp <;> omega), Below.heap_alloc _ _ _ (by simp <;> omega), Below.heap_alloc _ _ _ (by simp <;> omega)]; exact heap_alloc_new _ _
  · rw [Below.heap_alloc _ _ _ (by simp <;> omega), Below.heap_alloc _ _ _ (by simp <;> omega)]; exact (by simpa using heap_alloc_new (w.alloc o0) o1)
  · rw [Below.heap_alloc _ _ _ (by simp <;> omega)]; exact (by simpa using heap_alloc_new ((w.alloc o0).alloc o1) o2)
  · exact (by simpa using heap_alloc_new (((w.alloc o0).alloc o1).alloc o2) o3)

theorem Bx.low {b : Nat} {w w4 w' : World} (h : Bx b w4 w') (hb : Below w.heap.size w w4) (hlo : w.heap.size ≤ b) : Below w.heap.size w w' :=
  ⟨h.os.trans hb.os, h.tape.trans hb.tape, h.output.trans hb.output, Nat.le_trans hb.size h.size, fun k hk => (h.block k (Nat.lt_of_lt_of_le hk hb.size) (by omega)).trans (hb.block k hk)⟩

theorem orp_set {w : World} {B b : Nat} {v u : Value} {R : List (Array Value)} (h : ORp 54 6 w B v R) (hb : b < B) : ORp 54 6 (w.setCell ⟨b, 0, none⟩ u) B v R := h.move fun k hk => setCell_others w b 0 u k (by have := (h.lt k hk).1; omega)

set_option maxHeartbeats 4000000 in
theorem hWalk {w : World} {v : Value} {l : List Int} (h : SB w v l) (hB : Byt l) (limit : Int) (T : Tab w) (O : Odr w) :
    Calls Tryz.prog 7 #[v, .int .i64 limit] w (Wans w l limit) := by
  obtain ⟨w4, hw4, t0, t1, t2, t3, hsz, hb4⟩ := four8 (w := w) (.cells #[v] 22) (.cells #[.int .i64 limit] 3) (.cells #[.slice none 0 0] 24) (.cells #[.int .i64 0] 25)
  obtain ⟨k0, -⟩ := one_cell t0
  obtain ⟨k1, -⟩ := one_cell t1
  obtain ⟨k2, j2⟩ := one_cell t2
  obtain ⟨k3, j3⟩ := one_cell t3
  have hin := hwalk1 (W0 := w) k0 k1 k2 j2 (by omega) hb4 (h.below hb4) hB T O
  obtain ⟨w3, hw3⟩ : ∃ w3, ((w.alloc (.cells #[v] 22)).alloc (.cells #[.int .i64 limit] 3)).alloc (.cells #[.slice none 0 0] 24) = w3 := ⟨_, rfl⟩
  have hs3 : w3.heap.size = w.heap.size + 3 := by rw [← hw3]; simp
  rw [hw3] at hw4
  have HCA : Hid (Calls Tryz.prog 21 #[.func (.func 22) #[] #[.pointer (some ⟨w.heap.size, 0, none⟩), .pointer (some ⟨w.heap.size + 1, 0, none⟩), .pointer (some ⟨w.heap.size + 2, 0, none⟩)]] w3 fun e w' => ∃ E R a c, Wlk l limit E R ∧ e = .returned (.int .i64 E) ∧ (E = 0 → w'.cell? ⟨w.heap.size + 2, 0, none⟩ = some (.slice a R.length c)) ∧ (E ≠ 0 → R = [] ∧ a = none ∧ c = 0) ∧ ORp 54 6 w' (w.heap.size + 4) (.slice a R.length c) (R.map pcq) ∧ Below w.heap.size w w' ∧ R.length ≤ 268435456) := by
    refine (hcaught w3 22 _ (fun w => Tryz.call22 _ w)
      (fun w' => ∃ R a c, Wlk l limit 0 R ∧ w'.cell? ⟨w.heap.size + 2, 0, none⟩ = some (.slice a R.length c) ∧ ORp 54 6 w' (w.heap.size + 4) (.slice a R.length c) (R.map pcq) ∧ Bx (w.heap.size + 2) w4 w' ∧ R.length ≤ 268435456)
      (fun E w' => Wlk l limit E [] ∧ E ≠ 0 ∧ Bx (w.heap.size + 2) w4 w') ?_ ?_ ?_).mono ?_
    · rw [← hw4]
      refine hin.mono ?_
      rintro e w' ⟨E, R, hI, ⟨rfl, rfl, a, c, x2, x3, ho, hb, hl⟩ | ⟨he, rfl, hb⟩⟩
      · rw [hsz] at ho
        exact .inl ⟨rfl, R, a, c, hI, x2, ho, hb, hl⟩
      · refine .inr ⟨E, rfl, ?_, he, hb⟩
        rcases hI with ⟨hd, rfl, rfl⟩ | ⟨hd, ps, q, o', ht, ⟨h0, _⟩ | ⟨_, rfl⟩⟩
        · exact .inl ⟨hd, rfl, rfl⟩
        · exact absurd h0 he
        · exact .inr ⟨hd, ps, q, o', ht, .inr ⟨he, rfl⟩⟩
    · rintro w' ⟨R, a, c, -, -, -, hb, -⟩
      rw [hs3]
      have e3 := hb.block (w.heap.size + 3) (by omega) (by omega)
      exact ⟨(World.cell?_of_block e3).trans k3, (World.frozen?_of_block e3).trans j3, by have := hb.size; omega⟩
    · rintro E w' ⟨-, -, hb⟩
      rw [hs3]
      have e3 := hb.block (w.heap.size + 3) (by omega) (by omega)
      exact ⟨(World.cell?_of_block e3).trans k3, (World.frozen?_of_block e3).trans j3, by have := hb.size; omega⟩
    · rintro e w' (⟨rfl, w1, ⟨R, a, c, hI, x2, ho, hb, hl⟩, rfl⟩ | ⟨E, w1, rfl, ⟨hI, he, hb⟩, rfl⟩)
      · rw [hs3]
        exact ⟨0, R, a, c, hI, rfl, fun _ => cell_set x2 (by omega), fun h => absurd rfl h, orp_set ho (by omega), (hb.low hb4 (by omega)).setCell (p := ⟨w.heap.size + 3, 0, none⟩) (by dsimp only; omega) _, hl⟩
      · rw [hs3]
        have hbb : Below w.heap.size w (w1.setCell ⟨w.heap.size + 3, 0, none⟩ (.int .i64 E)) := (hb.low hb4 (by omega)).setCell (p := ⟨w.heap.size + 3, 0, none⟩) (by dsimp only; omega) _
        exact ⟨E, [], none, 0, hI, rfl, fun h => absurd h he, fun _ => ⟨rfl, rfl, rfl⟩, ORp.nil _ _ _ _, hbb.alloc hbb.size _, Nat.zero_le _⟩
  have HW3 := hide hw3
  have hmf : ∀ (fn : Fn) (first cap : Array Value) (w : World), (Instr.makeFunc fn first cap).run Tryz.prog w = .ok (.func fn first cap) w := fun _ _ _ _ => rfl
  obtain ⟨a, c, hva, -⟩ := h
  subst hva
  clear hw3 hw4 hin t0 t1 t2 t3 hsz hb4 k0 k1 k2 k3 j2 j3 hs3 T O hB
  go_enter Tryz.func7, Tryz.ntmps7
  go_wp2_with fail
  rw [HW3.out]
  refine HCA.out.mono ?_
  rintro e w6 ⟨E, R, a2, c2, hI, rfl, x2, x3, ho, hb, hl⟩
  obtain ⟨M, HM⟩ : ∃ M : Nat, Hid (M = R.length) := ⟨_, rfl⟩
  rw [← HM.out] at x2
  have HI := hide hI
  have HOO := hide ho
  have HBB := hide hb
  have HLL := hide hl
  have HX3 := hide x3
  clear hI ho hb hl HCA x3
  by_cases he : E = 0
  · have k2 := x2 he
    subst he
    clear x2
    go_wp2
    go_ret2
    exact ⟨0, R, a2, c2, HI.out, (by rw [← HM.out]; first | done | rfl), HOO.out.base (by omega), HBB.out, HLL.out⟩
  · have he' : (E != 0) = true := by simpa using he
    obtain ⟨r1, -, -⟩ := HX3.out he
    have HI2 : Hid (Wlk l limit E []) := by rw [← r1]; exact HI
    clear x2 he r1
    go_wp2
    go_ret2
    exact ⟨E, [], none, 0, HI2.out, rfl, ORp.nil _ _ _ _, HBB.out, Nat.zero_le _⟩
end Go.Proofs.YtpmgnpfpnkmmbaaGreatDoor

