import Derived.Test.YtjmjjjpanioifaaGRBNum2
namespace Go.Proofs.Ytjmjjjpanioifaa
open Go.RowKit Go.Maps
set_option maxRecDepth 20000

def patchL (l : List Int) (A : Nat) (v : Int) : Nat → List Int
  | 0 => l
  | k + 1 => (patchL l A v k).set (A + k) (v / 256 ^ k % 256)

theorem length_patchL (l : List Int) (A : Nat) (v : Int) (k : Nat) : (patchL l A v k).length = l.length := by
  induction k with
  | zero => rfl
  | succ k ih => simp [patchL, ih]

def patchSt (st : BSt) (A v : Int) : BSt :=
  if st.e ≠ 0 then st else if A < 0 ∨ (st.l.length : Int) - 4 < A then { st with e := 1 } else if wide v 4 then { st with e := 21 } else { st with l := patchL st.l A.toNat v 4 }

theorem two_pow8 (k : Nat) : (2 : Int) ^ (8 * k) = 256 ^ k := by rw [Int.pow_mul]; rfl

theorem OB.setAt {w : World} {base b p j : Nat} {l : List Int} (c : Int) (h : OB w base (.slice (some ⟨b, 0, none⟩) l.length p) l) :
    OB (w.setCell ⟨b, j, none⟩ (.int .u8 c)) base (.slice (some ⟨b, 0, none⟩) l.length p) (l.set j c) := by
  rcases h.2 with ⟨hx, _⟩ | ⟨g, cap, cur, he, h1, h2, h3, h4, h5, h6⟩
  · simp at hx
  · simp only [Value.slice.injEq, Option.some.injEq, Addr.mk.injEq] at he
    obtain ⟨⟨rfl, -, -⟩, -, rfl⟩ := he
    refine ⟨by simp, .inr ⟨b, p, cur.setIfInBounds j (.int .u8 c), by simp, h1, heap_setCell_at _ h2, by simpa using h3, h4, by simpa using h5, ?_⟩⟩
    rw [Nat.mul_one, List.length_set, Array.toList_setIfInBounds, List.map_set]
    rw [Nat.mul_one] at h6
    rw [List.take_set, h6]

theorem OB.cellAt {w : World} {base b p j : Nat} {l : List Int} (h : OB w base (.slice (some ⟨b, 0, none⟩) l.length p) l) (hj : j < l.length) : w.cell? ⟨b, j, none⟩ = some (.int .u8 (l.getD j 0)) ∧ w.frozen? ⟨b, j, none⟩ = false := by
  refine ⟨?_, ?_⟩
  · have := World.ownsRow.cells h (g := b) rfl j (.int .u8 (l.getD j 0)) (by simp [hj])
    rw [Addr.add_lit] at this
    simpa using this
  · rcases h.2 with ⟨hx, _⟩ | ⟨g, cap, cur, he, h1, h2, h3, h4, h5, h6⟩
    · simp at hx
    · simp only [Value.slice.injEq, Option.some.injEq, Addr.mk.injEq] at he
      obtain ⟨⟨rfl, -, -⟩, -, rfl⟩ := he
      simp [World.frozen?, h2]

theorem OB.some {w : World} {base : Nat} {v : Value} {l : List Int} (h : OB w base v l) (hl : 0 < l.length) : ∃ b p, v = .slice (.some ⟨b, 0, none⟩) l.length p ∧ l.length ≤ p ∧ p ≤ 9223372036854775807 := by
  rcases h.2 with ⟨rfl, h0⟩ | ⟨g, cap, cur, rfl, h1, h2, h3, h4, h5, h6⟩
  · omega
  · unfold maxLen at h4
    exact ⟨g, cap, rfl, h3, by omega⟩

end Go.Proofs.Ytjmjjjpanioifaa

