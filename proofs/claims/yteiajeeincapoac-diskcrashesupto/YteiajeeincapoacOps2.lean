import Derived.Test.YteiajeeincapoacOps1
namespace Go.Proofs.Yteiajeeincapoac
open Go.RowKit Go.Maps

def resz (l : List Int) (n : Nat) : List Int := if n ≤ l.length then l.take n else l ++ List.replicate (n - l.length) 0

theorem length_resz (l : List Int) (n : Nat) : (resz l n).length = n := by
  unfold resz; split <;> simp <;> omega

theorem OB.take {w : World} {a : Option Addr} {c : Nat} {l : List Int} (h : OB w 0 (.slice a l.length c) l) {n : Nat} (hn : n ≤ l.length) : OB w 0 (.slice a n c) (l.take n) := by
  have e : (l.take n).length = n := by simp; omega
  refine ⟨by simp, ?_⟩
  rcases h.2 with ⟨h1, h2⟩ | ⟨g, cap, cur, h1, h2, h3, h4, h5, h6, h7⟩
  · simp only [Value.slice.injEq] at h1
    obtain ⟨rfl, -, rfl⟩ := h1
    exact .inl ⟨by rw [show n = 0 by omega], by rw [e]; omega⟩
  · simp only [Value.slice.injEq] at h1
    obtain ⟨rfl, -, rfl⟩ := h1
    refine .inr ⟨g, c, cur, by rw [e], h2, h3, by rw [e]; omega, h5, h6, ?_⟩
    rw [e, List.map_take, ← h7, List.take_take]
    congr 1
    omega

theorem resized_any {v : Value} {l : List Int} {w : World} (n : Nat) (h : OB w 0 v l) (hn : n ≤ 16777216) (hl : l.length ≤ 16777216) :
    Calls Try.prog 57 #[v, .int .i64 n] w fun e w' => ∃ a c, e = .returned (.slice a n c) ∧ OB w' 0 (.slice a n c) (resz l n) ∧ w.grownBy w' v.ownBlock ∧ ((Value.slice a n c).ownBlock = v.ownBlock ∨ (Value.slice a n c).ownBlock = some w.heap.size) := by
  obtain ⟨a, c, rfl⟩ := h.shape
  have hc : l.length ≤ c ∧ c ≤ maxLen := by
    rcases h.2 with ⟨h1, h2⟩ | ⟨g, cap, cur, h1, h2, h3, h4, h5, _⟩
    · simp only [Value.slice.injEq] at h1
      obtain ⟨-, h1, rfl⟩ := h1
      exact ⟨by omega, Nat.zero_le _⟩
    · simp only [Value.slice.injEq] at h1
      obtain ⟨-, -, rfl⟩ := h1
      exact ⟨h4, h5⟩
  obtain ⟨hc1, hc2⟩ := hc
  unfold maxLen at hc2
  obtain ⟨i0, hi, hz0, hz1, hz2⟩ := info_parts info5
  have HO := hide h
  clear h
  by_cases hle : n ≤ l.length
  · have hle' : (n : Int) ≤ (l.length : Int) := by omega
    have hcc : (n : Int) ≤ (c : Int) := by omega
    go_enter Try.func57, Try.ntmps57
    go_wp2
    go_ret
    refine ⟨a, c, rfl, ?_, World.grownBy.refl _ _, .inl ?_⟩
    · have := HO.out.take hle
      simpa [resz, hle] using this
    · cases a <;> rfl
  · have hle' : ¬ (n : Int) ≤ (l.length : Int) := by omega
    go_enter Try.func57, Try.ntmps57
    go_wp2_with (at_builtin; refine wpList_append_zeros _ rfl _ _ 22 3 rfl 5 i0 Try.underlying22 Try.underlying3 hi hz0 hz1 hz2 _ l.length _ rfl HO.out (n - l.length) _ rfl (by omega) (by omega) (by omega) ?_)
    intro v' w1 hown hgrow hloc
    have hfin : OB w1 0 v' (resz l n) := by
      have e : l.length + (n - l.length) = n := by omega
      have h := hown
      rw [e] at h
      show w1.ownsRow 0 5 1 v' (resz l n).length ((resz l n).map (Value.int .u8))
      rw [length_resz]
      simpa [resz, hle] using h
    have HF := hide hfin
    have HL := hide hloc
    have HG := hide hgrow
    clear hfin hloc hgrow hown
    obtain ⟨a', c', hv⟩ := HF.out.shape
    rw [length_resz] at hv
    rw [hv] at HF HL ⊢
    clear hv
    go_wp2
    go_ret
    exact ⟨a', c', rfl, HF.out, HG.out, HL.out⟩
end Go.Proofs.Yteiajeeincapoac
