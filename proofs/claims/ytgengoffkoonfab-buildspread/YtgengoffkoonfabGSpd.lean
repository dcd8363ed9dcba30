import Derived.Test.YtgengoffkoonfabGOdr
namespace Go.Proofs.Ytgengoffkoonfab
open Go.RowKit Go.Maps
set_option maxRecDepth 20000
set_option linter.unusedVariables false

/-- Symbols with gaps between them. -/
abbrev Gps := List (Option Nat)

def wid (f : List Int) (P : Gps) : List Int := P.map fun o => match o with | none => 0 | some s => f.getD s 0
def frm (P : Gps) : List Int := P.map fun o => match o with | none => -1 | some s => (s : Int)

theorem wid_len (f : List Int) (P : Gps) : (wid f P).length = P.length := by simp [wid]
theorem frm_len (P : Gps) : (frm P).length = P.length := by simp [frm]
theorem wid_app (f : List Int) (P Q : Gps) : wid f (P ++ Q) = wid f P ++ wid f Q := by simp [wid]
theorem frm_app (P Q : Gps) : frm (P ++ Q) = frm P ++ frm Q := by simp [frm]

theorem wid_get (f : List Int) (P : Gps) {i : Nat} (h : i < P.length) : (wid f P).getD i 0 = (match P[i] with | none => 0 | some s => f.getD s 0) := by
  unfold wid
  rw [List.getD_eq_getElem?_getD, List.getElem?_map, List.getElem?_eq_getElem h]
  rfl

theorem frm_get (P : Gps) {i : Nat} (h : i < P.length) : (frm P).getD i 0 = (match P[i] with | none => -1 | some s => (s : Int)) := by
  unfold frm
  rw [List.getD_eq_getElem?_getD, List.getElem?_map, List.getElem?_eq_getElem h]
  rfl

/-- All symbols below n, in their order. -/
def Gok (P : Gps) (n : Nat) : Prop := P.filterMap id = List.range n

theorem Gok.zero : Gok [] 0 := rfl
theorem Gok.gap {P : Gps} {n : Nat} (h : Gok P n) : Gok (P ++ [none]) n := by
  unfold Gok at *
  rw [List.filterMap_append, h]
  simp
theorem Gok.sym {P : Gps} {n : Nat} (h : Gok P n) : Gok (P ++ [some n]) (n + 1) := by
  unfold Gok at *
  rw [List.filterMap_append, h, List.range_succ]
  rfl

/-- Where a symbol stands. -/
theorem gok_pos {P : Gps} {n : Nat} (h : Gok P n) : ∃ g : Nat → Nat, (∀ a b, g a = g b → a = b) ∧ (∀ s t, s < t → t < n → g s < g t) ∧ (∀ s, s < n → ∃ hs : g s < P.length, P[g s] = some s) ∧ ∀ i (hi : i < P.length) s, P[i] = some s → s < n ∧ g s = i := by
  induction n generalizing P with
  | zero =>
    refine ⟨fun s => s, fun a b e => e, fun s t _ ht => by omega, fun s hs => by omega, fun i hi s hs => ?_⟩
    have : s ∈ P.filterMap id := List.mem_filterMap.2 ⟨some s, by rw [← hs]; exact List.getElem_mem hi, rfl⟩
    unfold Gok at h
    rw [h] at this
    simp at this
  | succ n ih =>
    unfold Gok at h
    rw [List.range_succ] at h
    obtain ⟨P1, P2, rfl, h1, h2⟩ := List.filterMap_eq_append_iff.1 h
    obtain ⟨g, g1, g2, g3, g4⟩ := ih (P := P1) h1
    obtain ⟨Q1, Q2, o, rfl, h3, h4, h5⟩ : ∃ Q1 Q2 o, P2 = Q1 ++ o :: Q2 ∧ (∀ x ∈ Q1, x = none) ∧ o = some n ∧ Q2.filterMap id = [] := by
      obtain ⟨Q1, o, Q2, e1, e2, e3, e4⟩ := List.filterMap_eq_cons_iff.1 h2
      refine ⟨Q1, Q2, o, e1, fun x hx => ?_, ?_, e4⟩
      · exact e2 x hx
      · exact e3
    subst h4
    have hQ2 : ∀ x ∈ Q2, x = none := fun x hx => by
      cases x with
      | none => rfl
      | some t =>
        have : t ∈ Q2.filterMap id := List.mem_filterMap.2 ⟨some t, hx, rfl⟩
        rw [h5] at this
        simp at this
    have hlt : ∀ s, s < n → g s < P1.length := fun s hs => (g3 s hs).1
    obtain ⟨G, hG⟩ : ∃ G : Nat → Nat, G = fun s => if s < n then g s else if s = n then P1.length + Q1.length else (P1 ++ (Q1 ++ some n :: Q2)).length + s := ⟨_, rfl⟩
    have G1 : ∀ s, s < n → G s = g s := fun s hs => by rw [hG]; simp [hs]
    have G2 : G n = P1.length + Q1.length := by rw [hG]; simp
    have G3 : ∀ s, n < s → G s = (P1 ++ (Q1 ++ some n :: Q2)).length + s := fun s hs => by rw [hG]; simp [show ¬ s < n by omega, show ¬ s = n by omega]
    have hlen : (P1 ++ (Q1 ++ some n :: Q2)).length = P1.length + Q1.length + 1 + Q2.length := by simp; omega
    refine ⟨G, fun a b e => ?_, fun s t hst ht => ?_, fun s hs => ?_, fun i hi s hs => ?_⟩
    · rcases Nat.lt_trichotomy a n with ha | ha | ha <;> rcases Nat.lt_trichotomy b n with hb | hb | hb
      · rw [G1 a ha, G1 b hb] at e; exact g1 a b e
      · subst hb; rw [G1 a ha, G2] at e; have := hlt a ha; omega
      · rw [G1 a ha, G3 b hb] at e; have := hlt a ha; omega
      · subst ha; rw [G2, G1 b hb] at e; have := hlt b hb; omega
      · omega
      · subst ha; rw [G2, G3 b hb] at e; omega
      · rw [G3 a ha, G1 b hb] at e; have := hlt b hb; omega
      · subst hb; rw [G3 a ha, G2] at e; omega
      · rw [G3 a ha, G3 b hb] at e; omega
    · by_cases e : t = n
      · subst e; rw [G1 s hst, G2]; have := hlt s hst; omega
      · rw [G1 s (by omega), G1 t (by omega)]; exact g2 s t hst (by omega)
    · by_cases e : s = n
      · subst e
        refine ⟨by rw [G2, hlen]; omega, ?_⟩
        have : (P1 ++ (Q1 ++ some s :: Q2))[G s]? = some (some s) := by
          rw [G2, List.getElem?_append_right (by omega), Nat.add_sub_cancel_left, List.getElem?_append_right (by omega), Nat.sub_self]
          rfl
        obtain ⟨hh, he⟩ := List.getElem?_eq_some_iff.1 this
        exact he
      · obtain ⟨q1, q2⟩ := g3 s (by omega)
        refine ⟨by rw [G1 s (by omega), hlen]; omega, ?_⟩
        have : (P1 ++ (Q1 ++ some n :: Q2))[G s]? = some (some s) := by
          rw [G1 s (by omega), List.getElem?_append_left q1, List.getElem?_eq_getElem q1, q2]
        obtain ⟨hh, he⟩ := List.getElem?_eq_some_iff.1 this
        exact he
    · have hs' : (P1 ++ (Q1 ++ some n :: Q2))[i]? = some (some s) := by rw [List.getElem?_eq_getElem hi, hs]
      by_cases c1 : i < P1.length
      · rw [List.getElem?_append_left c1] at hs'
        obtain ⟨hh, he⟩ := List.getElem?_eq_some_iff.1 hs'
        obtain ⟨r1, r2⟩ := g4 i c1 s he
        exact ⟨by omega, by rw [G1 s r1]; exact r2⟩
      · rw [List.getElem?_append_right (by omega)] at hs'
        by_cases c2 : i - P1.length < Q1.length
        · rw [List.getElem?_append_left c2] at hs'
          obtain ⟨hh, he⟩ := List.getElem?_eq_some_iff.1 hs'
          have := h3 _ (List.getElem_mem hh)
          rw [he] at this
          cases this
        · rw [List.getElem?_append_right (by omega)] at hs'
          by_cases c3 : i - P1.length - Q1.length = 0
          · rw [c3] at hs'
            simp at hs'
            subst hs'
            exact ⟨by omega, by rw [G2]; omega⟩
          · obtain ⟨m, hm⟩ : ∃ m, i - P1.length - Q1.length = m + 1 := ⟨i - P1.length - Q1.length - 1, by omega⟩
            rw [hm, List.getElem?_cons_succ] at hs'
            obtain ⟨hh, he⟩ := List.getElem?_eq_some_iff.1 hs'
            have := hQ2 _ (List.getElem_mem hh)
            rw [he] at this
            cases this
end Go.Proofs.Ytgengoffkoonfab

