import Derived.Test.YtmjdpfigkojolaaGreatDoorG33Skx
namespace Go.Proofs.YtmjdpfigkojolaaGreatDoor
set_option maxRecDepth 20000
set_option linter.unusedVariables false
set_option linter.unusedSimpArgs false

/-! The windows of the marks in numbers: each stands among what is kept. -/

def win (oo : List Int) (at' : Nat) : List Int := (oo.take at').drop (at' - 32768)
def keptW (K : List Int) (m : Mk) : List Int := (K.take m.2.2).drop (m.2.2 - min m.2.1 32768)

structure Win (oo : List Int) (s : List Mk × List Int) : Prop where
  each : ∀ m ∈ s.1, m.2.1 ≤ lastA s.1 ∧ m.2.2 ≤ s.2.length ∧ min m.2.1 32768 ≤ m.2.2 ∧ keptW s.2 m = win oo m.2.1
  last : ∀ m, s.1.getLast? = some m → m.2.2 = s.2.length
  rise : s.1.Pairwise fun a b => a.2.1 ≤ b.2.1
  none : s.1 = [] → s.2 = []
  le : lastA s.1 ≤ oo.length

theorem win_nil (oo : List Int) : Win oo ([], []) := ⟨by simp, by simp, List.Pairwise.nil, fun _ => rfl, by simp [lastA]⟩

theorem lastA_snoc (ms : List Mk) (m : Mk) : lastA (ms ++ [m]) = m.2.1 := by simp [lastA]

theorem win_add {oo : List Int} {s : List Mk × List Int} (h : Win oo s) {x : Pc} (h1 : lastA s.1 ≤ x.to0) (h2 : x.to0 ≤ oo.length) : Win oo (addM (oo.take x.to0) s x) := by
  obtain ⟨ms, K⟩ := s
  have hlen : ∀ d, ((oo.take x.to0).drop d).length = x.to0 - d := fun d => by rw [List.length_drop, List.length_take]; omega
  refine ⟨fun m hm => ?_, fun m hm => ?_, ?_, fun q => ?_, ?_⟩
  · simp only [addM, List.mem_append, List.mem_singleton] at hm
    simp only [addM, lastA_snoc]
    rcases hm with hm | rfl
    · obtain ⟨a, b, c, d⟩ := h.each m hm
      simp only at a b c d h1
      refine ⟨by omega, by rw [List.length_append]; omega, c, ?_⟩
      rw [← d, keptW, keptW, List.take_append_of_le_length b]
    · simp only
      refine ⟨Nat.le_refl _, Nat.le_refl _, ?_, ?_⟩
      · rw [List.length_append, hlen]
        by_cases e : ms = []
        · subst e; simp only [lastA, List.getLast?_nil, Option.map_none, Option.getD_none]; omega
        · have hl : ms.getLast? = some (ms.getLast e) := List.getLast?_eq_some_getLast e
          have hA : lastA ms = (ms.getLast e).2.1 := by rw [lastA, hl]; rfl
          obtain ⟨a, b, c, d⟩ := h.each _ (List.getLast_mem e)
          have hK := h.last _ hl
          simp only at a b c hK h1
          omega
      · rw [keptW]
        simp only [List.take_length]
        rw [List.length_append, hlen, win]
        by_cases e : lastA ms ≤ x.to0 - 32768
        · rw [show max (x.to0 - 32768) (lastA ms) = x.to0 - 32768 by omega, show K.length + (x.to0 - (x.to0 - 32768)) - min x.to0 32768 = K.length by omega, List.drop_left]
        · have hn : ms ≠ [] := fun q => e (by subst q; simp [lastA])
          have hl : ms.getLast? = some (ms.getLast hn) := List.getLast?_eq_some_getLast hn
          have hA : lastA ms = (ms.getLast hn).2.1 := by rw [lastA, hl]; rfl
          obtain ⟨a, b, c, d⟩ := h.each _ (List.getLast_mem hn)
          have hK := h.last _ hl
          simp only [keptW, win, ← hA] at a b c d hK h1
          rw [hK, List.take_length] at d
          rw [hK] at c
          rw [show max (x.to0 - 32768) (lastA ms) = lastA ms by omega, List.drop_append_of_le_length (by omega)]
          rw [show K.length + (x.to0 - lastA ms) - min x.to0 32768 = (K.length - min (lastA ms) 32768) + ((x.to0 - 32768) - (lastA ms - 32768)) by omega, ← List.drop_drop, d, List.drop_drop,
            show lastA ms - 32768 + (x.to0 - 32768 - (lastA ms - 32768)) = x.to0 - 32768 by omega]
          have hs : oo.take x.to0 = oo.take (lastA ms) ++ (oo.take x.to0).drop (lastA ms) := by
            rw [show oo.take (lastA ms) = (oo.take x.to0).take (lastA ms) by rw [List.take_take, Nat.min_eq_left h1], List.take_append_drop]
          conv => rhs; rw [hs]
          rw [List.drop_append_of_le_length (by rw [List.length_take]; omega)]
  · simp only [addM, List.getLast?_append, List.getLast?_singleton, Option.some_or, Option.some.injEq] at hm
    subst hm; rfl
  · simp only [addM]
    rw [List.pairwise_append]
    refine ⟨h.rise, List.pairwise_singleton _ _, fun a ha b hb => ?_⟩
    rw [List.mem_singleton] at hb
    subst hb
    have := (h.each a ha).1
    simp only at this h1 ⊢
    omega
  · simp [addM] at q
  · simp only [addM, lastA_snoc]; exact h2

theorem win_fold {oo : List Int} (step : Int) : ∀ (ps : List Pc) (s : List Mk × List Int), Win oo s → (ps.Pairwise fun a b => a.to0 ≤ b.to0) → (∀ x ∈ ps, lastA s.1 ≤ x.to0 ∧ x.to0 ≤ oo.length) →
    Win oo (ps.foldl (stepM step oo) s) ∧ ∀ b, lastA s.1 ≤ b → (∀ x ∈ ps, x.to0 ≤ b) → lastA (ps.foldl (stepM step oo) s).1 ≤ b
  | [], s, w, _, _ => ⟨w, fun b h _ => h⟩
  | x :: ps, s, w, hp, hb => by
    rw [List.pairwise_cons] at hp
    have hx := hb x (List.mem_cons_self ..)
    have key : Win oo (stepM step oo s x) ∧ lastA (stepM step oo s x).1 ≤ x.to0 := by
      unfold stepM
      split
      · exact ⟨win_add w hx.1 hx.2, by rw [addM, lastA_snoc]; exact Nat.le_refl _⟩
      · exact ⟨w, hx.1⟩
    obtain ⟨a, b⟩ := win_fold step ps (stepM step oo s x) key.1 hp.2 fun y hy => ⟨Nat.le_trans key.2 (hp.1 y hy), (hb y (List.mem_cons_of_mem _ hy)).2⟩
    exact ⟨a, fun c hc h => b c (Nat.le_trans key.2 (h x (List.mem_cons_self ..))) fun y hy => h y (List.mem_cons_of_mem _ hy)⟩

end Go.Proofs.YtmjdpfigkojolaaGreatDoor

