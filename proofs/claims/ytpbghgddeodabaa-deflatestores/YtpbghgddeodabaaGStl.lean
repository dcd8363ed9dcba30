import Derived.Test.YtpbghgddeodabaaGSt2
import Derived.Lib.SmallJoins
import Derived.Deep.Slices
import Derived.SizedLaws
namespace Go.Proofs.Ytpbghgddeodabaa
open Go.RowKit Go.Maps
set_option maxRecDepth 20000
set_option linter.unusedVariables false
set_option linter.unusedSimpArgs false

theorem numb_any (x : Int) (w : World) : Calls Try.prog 10 #[.int .i64 x] w fun e w' => e = .returned (.int .i64 x) ∧ w' = w := by
  go_enter Try.func10, Try.ntmps10
  go_wp2
  go_ret
  exact ⟨rfl, rfl⟩
theorem below_dr11 {B : Nat} {a w : World} (h : Below B a w) (n : Nat) : Below B a (w.drewN n) := ⟨h.1, h.2, h.3, h.4, h.5⟩
theorem box_cells11 {w : World} {c : Nat} {A : Array Value} {t : TypeId} {k : Nat × Nat} (h : w.heap[c]? = some (.cells A t k)) (i : Nat) {u : Value} (hu : A[i]? = some u) : w.cell? ⟨c, i, none⟩ = some u := by
  unfold World.cell?
  simp only [h]
  exact hu
theorem two_lists11 {w2 w3 w4 w5 w6 : World} {v3 v5 : Value} {l : List Int} (h3 : OB w3 w2.heap.size v3 l) (b34 : Below w3.heap.size w3 w4) (h5 : OB w5 w4.heap.size v5 l) (b45 : Below w4.heap.size w4 w5) (b56 : Below w5.heap.size w5 w6) (s23 : w2.heap.size ≤ w3.heap.size) (hl : l.length ≤ 20000000) (T : Nat) :
    Lists (w6.alloc (.cells #[v3, v5] T)) w2.heap.size [(v3, l), (v5, l)] w6.heap.size := by
  have s34 := b34.size
  have s45 := b45.size
  have s56 := b56.size
  have o3 : OB w6 w2.heap.size v3 l := h3.below ((b34.trans (b45.mono s34)).trans (b56.mono (Nat.le_trans s34 s45))) (Nat.le_refl _)
  have o5 : OB w6 w2.heap.size v5 l := (h5.below b56 (Nat.le_refl _)).base (by omega)
  have l3 := h3.lt
  have l5 := h5.lt
  have hbx := heap_alloc_new w6 (.cells #[v3, v5] T)
  refine ⟨fun j p hp => ?_, fun i j p q hp hq hij k hk hk2 => ?_, fun j p hp => ?_, fun p hp e => ?_, by simp, fun p hp => ?_, by rw [size_alloc']; omega⟩
  · rcases j with _ | _ | j
    · cases hp; exact o3.alloc _
    · cases hp; exact o5.alloc _
    · simp at hp
  · rcases i with _ | _ | i <;> rcases j with _ | _ | j <;> simp at hp hq hij
    · subst hp hq; have := (l3 k hk).2; have := (l5 k hk2).1; omega
    · subst hp hq; have := (l3 k hk2).2; have := (l5 k hk).1; omega
  · rcases j with _ | _ | j
    · cases hp; exact box_cells11 hbx 0 rfl
    · cases hp; exact box_cells11 hbx 1 rfl
    · simp at hp
  · simp only [List.mem_cons, List.not_mem_nil, or_false] at hp
    rcases hp with rfl | rfl
    · have := (l3 _ e).2; omega
    · have := (l5 _ e).2; omega
  · simp only [List.mem_cons, List.not_mem_nil, or_false] at hp
    rcases hp with rfl | rfl <;> (simp only; omega)
theorem keep_below11 {w2 w6 w7 : World} {ls : List (Value × List Int)} (hb : Below w2.heap.size w2 w6) (hk : Keep ls w6 w7) (hl : ∀ p ∈ ls, ∀ k, p.1.ownBlock = some k → w2.heap.size ≤ k) : Below w2.heap.size w2 w7 :=
  ⟨hk.os.trans hb.os, hk.tape.trans hb.tape, hk.output.trans hb.output, Nat.le_trans hb.size hk.size, fun k hlt => (hk.block k (Nat.lt_of_lt_of_le hlt hb.size) (fun p hp e => by have := hl p hp k e; omega)).trans (hb.block k hlt)⟩
theorem ob_front11 {w : World} {base g c : Nat} {l : List Int} (h : OB w base (.slice (some ⟨g, 0, none⟩) (l.length + 4) c) (l ++ marks4)) : SB w (.slice (some ⟨g, 0, none⟩) l.length c) l ∧ l.length + 4 ≤ c ∧ c ≤ 9223372036854775807 := by
  have e4 : (l ++ marks4).length = l.length + 4 := by simp [marks4]
  obtain ⟨ao, cap, he, h1, h2, h3, h4⟩ := h.sb
  rw [e4] at he h1
  simp only [Value.slice.injEq] at he
  obtain ⟨rfl, -, rfl⟩ := he
  unfold maxLen at h2
  refine ⟨⟨_, _, rfl, by omega, by unfold maxLen; omega, (fun q => by cases q), fun x hx i hi => ?_⟩, h1, h2⟩
  have := h4 x hx i (by rw [e4]; omega)
  rw [this]
  simp [hi, List.getElem?_append_left]
end Go.Proofs.Ytpbghgddeodabaa

