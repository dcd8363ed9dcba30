import Derived.Test.YtdpfjfkknimlfaaDoorGSpx
import Derived.Test.YtdpfjfkknimlfaaDoorGSpy
import Derived.Test.YtdpfjfkknimlfaaDoorGSpz
namespace Go.Proofs.YtdpfjfkknimlfaaDoor
open Go.RowKit Go.Maps
set_option maxRecDepth 20000
set_option linter.unusedVariables false

theorem split_any (b o cap : Nat) (R : List Tk) (w : World) (h : SK w (.slice (some ⟨b, o, none⟩) R.length cap) R) (hs : ∀ t ∈ R, Snd t ∧ Bt t) (hn : R.length ≤ 16777216) :
    Calls Tryd.prog 10 #[.slice (some ⟨b, o, none⟩) R.length cap] w fun e w' => ∃ u rows, e = .returned u ∧ rows.map (fun f => f 0) = (spl R).map (fun n : Nat => (n : Int)) ∧ OS w' w.heap.size u rows ∧ Below w.heap.size w w' := by
  have hc : R.length ≤ cap := by
    obtain ⟨ao', cap', he, hlc, -, -, -⟩ := h
    simp only [Value.slice.injEq] at he
    omega
  by_cases h1 : R.length < 128
  · by_cases h2 : cap = R.length
    · subst h2
      exact split_full b o R w h hs hn h1
    · exact split_less b o cap R w h hs hn h1 h2
  · by_cases h2 : cap = 128
    · have h3 : R.length = 128 := by omega
      subst h2
      rw [h3] at h ⊢
      exact split_just b o R w h hs hn h3
    · exact split_long b o cap R w h hs hn (by omega) h2

/-- The numbers of blocks. -/
noncomputable def spi (R : List Tk) : List Int := if ctE R = 0 then (spl R).map (fun n : Nat => (n : Int)) else []

theorem OS.get {w : World} {base : Nat} {v : Value} {rows : List (Nat → Int)} (h : OS w base v rows) {k : Nat} (hk : k < rows.length) : ∃ g c, v = .slice (some ⟨g, 0, none⟩) rows.length c ∧ ∀ j, j < 10 → w.cell? ⟨g, k * 10 + j, none⟩ = some (.int .i64 ((rows.getD k fun _ => 0) j)) := by
  have hf : ∀ (rows : List (Nat → Int)) (k j : Nat), k < rows.length → j < 10 → (fl10 rows)[k * 10 + j]? = some (.int .i64 ((rows.getD k fun _ => 0) j)) := by
    intro rows
    induction rows with
    | nil => intro k j hk; simp at hk
    | cons f r ih =>
      intro k j hk hj
      have e : fl10 (f :: r) = (a10 f).toList ++ fl10 r := rfl
      have hl : (a10 f).toList.length = 10 := by rw [Array.length_toList, a10_size]
      cases k with
      | zero =>
        rw [e, List.getElem?_append_left (by rw [hl]; omega), Array.getElem?_toList, show 0 * 10 + j = j by omega, a10_get f hj]
        rfl
      | succ k =>
        rw [e, List.getElem?_append_right (by rw [hl]; omega), hl, show (k + 1) * 10 + j - 10 = k * 10 + j by omega, ih k j (by simpa using hk) hj]
        simp
  rcases h.2 with ⟨rfl, h0⟩ | ⟨g, cap, cur, hv, h1, h2, h3, h4, h5, h6⟩
  · omega
  · refine ⟨g, cap, hv, fun j hj => ?_⟩
    have hc := @World.ownsRow.cells _ _ _ _ _ _ _ h (g := g) (by rw [hv]; rfl) (k * 10 + j) _ (hf rows k j hk hj)
    rw [Addr.add_lit] at hc
    simpa using hc
end Go.Proofs.YtdpfjfkknimlfaaDoor

