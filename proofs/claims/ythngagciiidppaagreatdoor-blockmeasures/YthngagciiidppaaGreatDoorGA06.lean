import Derived.Test.YthngagciiidppaaGreatDoorGA01
namespace Go.Proofs.YthngagciiidppaaGreatDoor
open Go.RowKit Go.Maps
set_option maxRecDepth 20000
set_option linter.unusedVariables false

end Go.Proofs.YthngagciiidppaaGreatDoor

namespace Go.Proofs.YthngagciiidppaaGreatDoor
open Go.RowKit Go.Maps
set_option maxRecDepth 20000
set_option linter.unusedVariables false

theorem OB.form {w : World} {base : Nat} {v : Value} {l : List Int} (h : OB w base v l) (h0 : 0 < l.length) : ∃ g c, v = .slice (some ⟨g, 0, none⟩) l.length c ∧ l.length ≤ c ∧ c ≤ 9223372036854775807 ∧ ∀ i, i < l.length → w.cell? ⟨g, i, none⟩ = some (.int .u8 (l.getD i 0)) := by
  have hc := @World.ownsRow.cells _ _ _ _ _ _ _ h
  rcases h.2 with ⟨rfl, h1⟩ | ⟨g, cap, cur, rfl, _, _, h3, h4, _, _⟩
  · omega
  · unfold maxLen at h4
    refine ⟨g, cap, rfl, h3, by omega, fun i hi => ?_⟩
    have := hc (g := g) rfl i (.int .u8 (l.getD i 0)) (by simp [hi])
    rwa [Addr.add_lit, Nat.zero_add] at this

theorem OB.top {w : World} {base : Nat} {v : Value} {l : List Int} (h : OB w base v l) : ∃ a c, v = .slice a l.length c ∧ l.length ≤ c ∧ c ≤ 9223372036854775807 := by
  rcases h.2 with ⟨rfl, h0⟩ | ⟨g, cap, cur, rfl, _, _, h3, h4, _⟩
  · exact ⟨none, 0, by rw [h0], by omega, by omega⟩
  · unfold maxLen at h4; exact ⟨_, _, rfl, h3, by omega⟩

end Go.Proofs.YthngagciiidppaaGreatDoor

namespace Go.Proofs.YthngagciiidppaaGreatDoor
open Go.RowKit Go.Maps
set_option maxRecDepth 20000
set_option linter.unusedVariables false

/-- Expand's error and answer. -/
def xE (lim : Int) (R : List Tk) : Int := if lim < 0 ∨ 16777216 < lim then 1 else exE lim [] R
def xL (lim : Int) (R : List Tk) : List Int := if xE lim R = 0 then exT [] R else []

theorem xE_in {lim : Int} {R : List Tk} (h0 : 0 ≤ lim) (h1 : lim ≤ 16777216) : xE lim R = exE lim [] R := by unfold xE; rw [if_neg (by omega)]

theorem xL_bad {lim : Int} {R : List Tk} {e : Int} (h : xE lim R = e) (he : e ≠ 0) : xL lim R = [] := by unfold xL; rw [if_neg (by omega)]

theorem ext_le {lim : Int} {R : List Tk} (h : exE lim [] R = 0) (h0 : 0 ≤ lim) : ∀ k, k ≤ R.length → ((exT [] (R.take k)).length : Int) ≤ lim := by
  intro k
  induction k with
  | zero => intro _; simpa [exT] using h0
  | succ k ih =>
    intro hk
    obtain ⟨h1, h2⟩ := means_at h (k := k) (by omega)
    obtain ⟨s1, s2, s3⟩ := stE_zero h2
    rw [ext_at (by omega), ptk_len s1]
    omega

end Go.Proofs.YthngagciiidppaaGreatDoor

namespace Go.Proofs.YthngagciiidppaaGreatDoor
open Go.RowKit Go.Maps
set_option maxRecDepth 20000
set_option linter.unusedVariables false

/-- A block that an append onto another leaves alone. -/
theorem Grew.keep {wr w3 : World} {u v3 : Value} {o : Obj} (hg : Grew (wr.alloc o) w3 u v3) {g : Nat} (hz : g < wr.heap.size) (hn : u.ownBlock ≠ some g) : w3.heap[g]? = wr.heap[g]? ∧ g < w3.heap.size ∧ v3.ownBlock ≠ some g := by
  refine ⟨(hg.by.block _ (by simp; omega) (fun q => hn q.symm)).trans (Below.heap_alloc wr _ _ hz), ?_, fun q => ?_⟩
  · have := hg.by.size
    simp at this
    omega
  · rcases hg.at with e | e
    · rw [e] at q; simp at q; omega
    · rw [e] at q; exact hn q

theorem cell_keep {w w' : World} {g i : Nat} {u : Value} (h : w'.heap[g]? = w.heap[g]?) (hc : w.cell? ⟨g, i, none⟩ = some u) : w'.cell? ⟨g, i, none⟩ = some u := by
  unfold World.cell? at hc ⊢
  simp only at hc ⊢
  rw [h]
  exact hc

end Go.Proofs.YthngagciiidppaaGreatDoor

