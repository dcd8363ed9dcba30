import Derived.Test.YtiabhmdefaabgaaDoorGSpo
import Derived.Test.YtiabhmdefaabgaaDoorGXnx
namespace Go.Proofs.YtiabhmdefaabgaaDoor
open Go.RowKit Go.Maps
set_option maxRecDepth 20000

theorem qnewReader_no (u : Value) (l : List Int) (w : World) (h : SB w u l) (hl : ¬ l.length ≤ 33554432) :
    Calls Tryd.prog 26 #[u] w fun e w' => e = .returned (.pointer none) ∧ w' = w := by
  obtain ⟨ao, cap, rfl, h1, h2, _⟩ := h
  unfold maxLen at h2
  have hl' : (33554432 : Int) < l.length := by omega
  go_enter Tryd.func26, Tryd.ntmps26
  go_wp2
  go_ret
  exact ⟨rfl, rfl⟩

theorem nx_move {l row : List Int} {p : Nat} (hl : Lens l) (h : nxE l row p = 0) : p + 1 ≤ nxP l row p ∧ nxP l row p ≤ row.length := by
  have h0 := h
  unfold nxE at h
  by_cases hb : fdB l (rowAt row p) = true
  · rw [if_pos hb] at h
    have hh := fd_has hl hb
    by_cases hf : p + ln l (fdS l (rowAt row p)) ≤ row.length
    · unfold nxP
      rw [if_pos h0]
      have := hh.1.2
      omega
    · rw [if_neg hf] at h; omega
  · rw [if_neg hb] at h; omega

theorem nx_stay {l row : List Int} {p : Nat} (h : nxE l row p ≠ 0) : nxS l row p = 0 ∧ nxP l row p = p := ⟨if_neg h, if_neg h⟩

theorem hxdecode {W w : World} {xs : List ((Nat → Nat) × Thing)} (H : Herd W w xs) (v : Value) (l : List Int) (h : SI w v l) :
    Calls Tryd.prog 77 #[v] w fun e w' => (dcE l ≠ 0 ∧ e = .returned (.tuple #[.pointer none, .int .i64 (dcE l)]) ∧ Herd W w' xs) ∨ (dcE l = 0 ∧ ∃ g K, e = .returned (.tuple #[.pointer (some ⟨g, 0, none⟩), .int .i64 0]) ∧ Herd W w' (xs ++ [(K, tdx g l)])) := by
  refine (xnewDecoder_any v l w h).mono ?_
  rintro e w1 ⟨hb, h | ⟨h0, g, K, rfl, hd, hk⟩⟩
  · exact .inl ⟨h.1, h.2, H.below hb⟩
  · exact .inr ⟨h0, g, K, rfl, H.push hb hd hk⟩

end Go.Proofs.YtiabhmdefaabgaaDoor

