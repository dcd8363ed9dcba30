import Derived.Test.YtmjdpfigkojolaaGreatDoorG13Wkq
import Derived.Test.YtmjdpfigkojolaaGreatDoorG05Rw3
import Derived.BigQuiet
import Derived.Deep.QuietTactic
namespace Go.Proofs.YtmjdpfigkojolaaGreatDoor
open Go.RowKit Go.Maps
set_option maxRecDepth 20000
set_option linter.unusedVariables false
set_option linter.unusedSimpArgs false

/-! An index in numbers: the marks (bit, place, where the window ends among what is kept), and what is kept. -/

abbrev Mk := Nat × Nat × Nat

def lastA (ms : List Mk) : Nat := (ms.getLast?.map (·.2.1)).getD 0

def asksB (step : Int) (ms : List Mk) (at' : Nat) : Bool := ms.isEmpty || decide (step ≤ (at' : Int) - lastA ms)

def addM (pl : List Int) (s : List Mk × List Int) (x : Pc) : List Mk × List Int :=
  (s.1 ++ [(x.at0, x.to0, (s.2 ++ pl.drop (max (x.to0 - 32768) (lastA s.1))).length)], s.2 ++ pl.drop (max (x.to0 - 32768) (lastA s.1)))

def stepM (step : Int) (oo : List Int) (s : List Mk × List Int) (x : Pc) : List Mk × List Int := if asksB step s.1 x.to0 then addM (oo.take x.to0) s x else s

def runM (step : Int) (oo : List Int) (ps : List Pc) : List Mk × List Int := ps.foldl (stepM step oo) ([], [])

theorem runM_snoc (step : Int) (oo : List Int) (ps : List Pc) (x : Pc) : runM step oo (ps ++ [x]) = stepM step oo (runM step oo ps) x := by simp [runM]

def mkc (m : Mk) : Array Value := #[.int .i64 m.1, .int .i64 m.2.1, .int .i64 m.2.2]

def ixO (sz : Int) (mv kv : Value) : Obj := .cells #[.int .i64 sz, mv, kv] 61
structure Ix (w : World) (B g : Nat) (sz : Int) (ms : List Mk) (K : List Int) (mv kv : Value) : Prop where
  box : w.heap[g]? = some (ixO sz mv kv)
  marks : ORp 70 3 w B mv (ms.map mkc)
  kept : OB w B kv K

theorem ixO_cells {w : World} {g : Nat} {sz : Int} {mv kv : Value} (h : w.heap[g]? = some (ixO sz mv kv)) : w.cell? ⟨g, 0, none⟩ = some (.int .i64 sz) ∧ w.cell? ⟨g, 1, none⟩ = some mv ∧ w.cell? ⟨g, 2, none⟩ = some kv ∧ ∀ i, w.frozen? ⟨g, i, none⟩ = false := by
  unfold ixO at h
  refine ⟨?_, ?_, ?_, fun i => ?_⟩
  all_goals first | (unfold World.cell?; rw [h]; rfl) | (unfold World.frozen?; rw [h]; rfl)

theorem flr3 {i : Nat} (hi : i < 3) : ∀ (R : List (Array Value)) (k : Nat), (∀ r ∈ R, r.size = 3) → k < R.length → (flr R)[k * 3 + i]? = (R.getD k #[])[i]?
  | [], k, _, hk => by simp at hk
  | r :: R, 0, hs, _ => by
    have e := hs r (List.mem_cons_self ..)
    simp only [flr, List.flatMap_cons, Nat.zero_mul, Nat.zero_add]
    rw [List.getElem?_append_left (by rw [Array.length_toList, e]; exact hi)]
    simp
  | r :: R, k + 1, hs, hk => by
    have e := hs r (List.mem_cons_self ..)
    simp only [flr, List.flatMap_cons]
    rw [List.getElem?_append_right (by rw [Array.length_toList, e]; omega), Array.length_toList, e]
    have := flr3 hi R k (fun q hq => hs q (List.mem_cons_of_mem _ hq)) (by simpa using hk)
    rw [show (k + 1) * 3 + i - 3 = k * 3 + i by omega]
    simpa [flr] using this

theorem marks_at {w : World} {B : Nat} {v : Value} {ms : List Mk} (h : ORp 70 3 w B v (ms.map mkc)) {k : Nat} (hk : k < ms.length) : ∃ g c, v = .slice (some ⟨g, 0, none⟩) ms.length c ∧ ms.length ≤ c ∧ c ≤ 9223372036854775807 ∧
    w.cell? ⟨g, k * 3, none⟩ = some (.int .i64 (ms.getD k (0, 0, 0)).1) ∧ w.cell? ⟨g, k * 3 + 1, none⟩ = some (.int .i64 (ms.getD k (0, 0, 0)).2.1) ∧ w.cell? ⟨g, k * 3 + 2, none⟩ = some (.int .i64 (ms.getD k (0, 0, 0)).2.2) := by
  obtain ⟨a, c, hv, h1, h2⟩ := h.shape
  rw [List.length_map] at hv h1
  have hx := h.2.2
  rw [List.length_map] at hx
  rcases hx with ⟨hn, h0⟩ | ⟨g, cap, cur, hv2, _⟩
  · omega
  subst hv2
  simp only [Value.slice.injEq] at hv
  obtain ⟨-, -, rfl⟩ := hv
  have hg : (ms.map mkc).getD k #[] = mkc (ms.getD k (0, 0, 0)) := by
    rw [List.getD_eq_getElem?_getD, List.getElem?_map, List.getD_eq_getElem?_getD, List.getElem?_eq_getElem hk]; rfl
  have f : ∀ (i : Nat) (u : Value), i < 3 → (mkc (ms.getD k (0, 0, 0)))[i]? = some u → w.cell? ⟨g, k * 3 + i, none⟩ = some u := fun i u hi hu => by
    have e := flr3 hi (ms.map mkc) k h.1 (by rw [List.length_map]; exact hk)
    rw [hg, hu] at e
    have := World.ownsRow.cells h.2 (g := g) rfl _ _ e
    rwa [Addr.add_lit, Nat.zero_add] at this
  exact ⟨g, cap, rfl, h1, h2, f 0 _ (by omega) rfl, f 1 _ (by omega) rfl, f 2 _ (by omega) rfl⟩

theorem lastA_at {ms : List Mk} (h : ms ≠ []) : lastA ms = (ms.getD (ms.length - 1) (0, 0, 0)).2.1 := by
  unfold lastA
  have hl : 0 < ms.length := List.length_pos_iff.2 h
  rw [List.getLast?_eq_getElem?, List.getD_eq_getElem?_getD, List.getElem?_eq_getElem (by omega)]
  rfl

set_option maxHeartbeats 2000000 in
theorem hlastAt {w : World} {B g : Nat} {sz : Int} {ms : List Mk} {K : List Int} {mv kv : Value} (h : Ix w B g sz ms K mv kv) (hl : ms.length ≤ 268435456) :
    Calls Tryz.prog 48 #[.pointer (some ⟨g, 0, none⟩)] w fun e w' => e = .returned (.int .i64 (lastA ms : Nat)) ∧ ∃ n, w' = w.drewN n := by
  obtain ⟨c0, c1, c2, -⟩ := ixO_cells h.box
  by_cases hm : ms = []
  · subst hm
    obtain ⟨a, c, rfl, -, -⟩ := h.marks.shape
    have c1' : w.cell? ⟨g, 1, none⟩ = some (.slice a 0 c) := c1
    clear c1 h
    go_enter Tryz.func48, Tryz.ntmps48
    go_wp2
    go_ret
    exact ⟨rfl, 0, rfl⟩
  · have hp := List.length_pos_iff.2 hm
    obtain ⟨gg, c, rfl, h1, h2, k0, k1, k2⟩ := marks_at h.marks (k := ms.length - 1) (by omega)
    rw [lastA_at hm]
    obtain ⟨A, HA⟩ : ∃ A, Hid (A = (ms.getD (ms.length - 1) (0, 0, 0)).2.1) := ⟨_, rfl⟩
    rw [← HA.out] at k1 ⊢
    obtain ⟨M, HM⟩ : ∃ M : Nat, Hid (M = ms.length) := ⟨_, rfl⟩
    rw [← HM.out] at c1 k1 hp hl h1
    have hn0 : ¬ ((M : Int) = 0) := by omega
    have hb0 : ((M : Int) == 0) = false := by simpa using hn0
    obtain ⟨N, HN⟩ : ∃ N : Nat, Hid (N = M - 1) := ⟨_, rfl⟩
    rw [← HN.out] at k1
    have hN : (M : Int) - 1 = (N : Int) := by rw [HN.out]; omega
    have hN2 : (N : Int) < (M : Int) := by omega
    have hN3 : (0 : Int) ≤ (N : Int) := by omega
    clear h k0 k2 hm c0 c2
    go_enter Tryz.func48, Tryz.ntmps48
    go_wp2
    go_quiet (fail)
    go_wp2
    go_ret
    exact ⟨rfl, _, rfl⟩

set_option maxHeartbeats 2000000 in
theorem hasks {w : World} {B g : Nat} {sz : Int} {ms : List Mk} {K : List Int} {mv kv : Value} (h : Ix w B g sz ms K mv kv) (hl : ms.length ≤ 268435456) (hA : lastA ms ≤ 16777216) (at' : Nat) (hat : at' ≤ 16777216) (step : Int) :
    Calls Tryz.prog 27 #[.pointer (some ⟨g, 0, none⟩), .int .i64 (at' : Nat), .int .i64 step] w fun e w' => e = .returned (.bool (asksB step ms at')) ∧ ∃ n, w' = w.drewN n := by
  have HL := hide (hlastAt h hl)
  obtain ⟨c0, c1, c2, -⟩ := ixO_cells h.box
  obtain ⟨a, c, hmv, h1, h2⟩ := h.marks.shape
  rw [List.length_map] at hmv h1
  rw [hmv] at c1
  by_cases hm : ms = []
  · subst hm
    have c1' : w.cell? ⟨g, 1, none⟩ = some (.slice a 0 c) := c1
    clear c1 h HL
    go_enter Tryz.func27, Tryz.ntmps27
    go_wp2
    go_ret
    exact ⟨by simp [asksB], 0, rfl⟩
  · have hp := List.length_pos_iff.2 hm
    obtain ⟨M, HM⟩ : ∃ M : Nat, Hid (M = ms.length) := ⟨_, rfl⟩
    rw [← HM.out] at c1 hp
    have hn0 : ¬ ((M : Int) = 0) := by omega
    have hb0 : ((M : Int) == 0) = false := by simpa using hn0
    obtain ⟨A, HAA⟩ : ∃ A, Hid (A = lastA ms) := ⟨_, rfl⟩
    rw [← HAA.out] at HL hA
    have hw1 : IntKind.i64.wrap ((at' : Int) - (A : Int)) = (at' : Int) - (A : Int) := by rw [IntKind.wrap_i64]; omega
    have HE : Hid (asksB step ms at' = decide (step ≤ (at' : Int) - (A : Int))) := by
      show _ = _
      unfold asksB
      rw [← HAA.out]
      have : ms.isEmpty = false := by simpa using hm
      rw [this]; rfl
    rw [HE.out]
    clear h c0 c2 hm
    go_enter Tryz.func27, Tryz.ntmps27
    go_wp2_with fail
    refine HL.out.mono ?_
    rintro e w1 ⟨rfl, n, hn⟩
    have HN := hide hn
    clear hn HL c1
    go_wp2
    go_ret
    exact ⟨rfl, n, HN.out⟩
end Go.Proofs.YtmjdpfigkojolaaGreatDoor

