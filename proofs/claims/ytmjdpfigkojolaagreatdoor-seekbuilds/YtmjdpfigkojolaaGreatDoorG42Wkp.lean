import Derived.Test.YtmjdpfigkojolaaGreatDoorG13Wkq
import Derived.BigQuiet
import Derived.Deep.QuietTactic
namespace Go.Proofs.YtmjdpfigkojolaaGreatDoor
open Go.RowKit Go.Maps
set_option maxRecDepth 20000
set_option linter.unusedVariables false
set_option linter.unusedSimpArgs false

theorem flr_get {i : Nat} (hi : i < 6) : ∀ (R : List (Array Value)) (k : Nat), (∀ r ∈ R, r.size = 6) → k < R.length → (flr R)[k * 6 + i]? = (R.getD k #[])[i]?
  | [], k, _, hk => by simp at hk
  | r :: R, 0, hs, _ => by
    have e := hs r (List.mem_cons_self ..)
    simp only [flr, List.flatMap_cons, Nat.zero_mul, Nat.zero_add]
    rw [List.getElem?_append_left (by rw [Array.length_toList, e]; exact hi)]
    simp
  | r :: R, k + 1, hs, hk => by
    have e := hs r (List.mem_cons_self ..)
    simp only [flr, List.flatMap_cons]
    rw [List.getElem?_append_right (by rw [Array.length_toList, e]; omega), Array.length_toList, e]
    have := flr_get hi R k (fun q hq => hs q (List.mem_cons_of_mem _ hq)) (by simpa using hk)
    rw [show (k + 1) * 6 + i - 6 = k * 6 + i by omega]
    simpa [flr] using this

def pc0 : Pc := ⟨0, false, 0, 0, 0, 0⟩

theorem ORp.cells8 {w : World} {base : Nat} {v : Value} {R : List Pc} (h : ORp 36 6 w base v (R.map pcq)) {k : Nat} (hk : k < R.length) : ∃ g c, v = .slice (some ⟨g, 0, none⟩) R.length c ∧ R.length ≤ c ∧ c ≤ 9223372036854775807 ∧
    w.cell? ⟨g, k * 6, none⟩ = some (.int .i64 (R.getD k pc0).kind) ∧ w.cell? ⟨g, k * 6 + 1, none⟩ = some (.bool (R.getD k pc0).fin) ∧ w.cell? ⟨g, k * 6 + 2, none⟩ = some (.int .i64 (R.getD k pc0).at0) ∧ w.cell? ⟨g, k * 6 + 3, none⟩ = some (.int .i64 (R.getD k pc0).at1) ∧ w.cell? ⟨g, k * 6 + 4, none⟩ = some (.int .i64 (R.getD k pc0).to0) ∧ w.cell? ⟨g, k * 6 + 5, none⟩ = some (.int .i64 (R.getD k pc0).to1) := by
  obtain ⟨a, c, hv, h1, h2⟩ := h.shape
  rw [List.length_map] at hv h1
  have hx := h.2.2
  rw [List.length_map] at hx
  rcases hx with ⟨hn, h0⟩ | ⟨g, cap, cur, hv2, _⟩
  · omega
  subst hv2
  simp only [Value.slice.injEq] at hv
  obtain ⟨-, -, rfl⟩ := hv
  have hg : (R.map pcq).getD k #[] = pcq (R.getD k pc0) := by
    rw [List.getD_eq_getElem?_getD, List.getElem?_map, List.getD_eq_getElem?_getD, List.getElem?_eq_getElem hk]; rfl
  have f : ∀ (i : Nat) (u : Value), i < 6 → (pcq (R.getD k pc0))[i]? = some u → w.cell? ⟨g, k * 6 + i, none⟩ = some u := fun i u hi hu => by
    have e := flr_get hi (R.map pcq) k h.1 (by rw [List.length_map]; exact hk)
    rw [hg, hu] at e
    have := World.ownsRow.cells h.2 (g := g) rfl _ _ e
    rwa [Addr.add_lit, Nat.zero_add] at this
  exact ⟨g, cap, rfl, h1, h2, f 0 _ (by omega) rfl, f 1 _ (by omega) rfl, f 2 _ (by omega) rfl, f 3 _ (by omega) rfl, f 4 _ (by omega) rfl, f 5 _ (by omega) rfl⟩

end Go.Proofs.YtmjdpfigkojolaaGreatDoor

