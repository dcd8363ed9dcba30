import Derived.Test.YteiajeeincapoacCalls1
import Derived.Test.YteiajeeincapoacFresh
namespace Go.Proofs.Yteiajeeincapoac
open Go.RowKit Go.Maps

theorem pinv_new (l : List Int) (c : Nat) (h1 : c ≤ 16777216) (h2 : l.length ≤ c) : PInv (stNew l c) :=
  ⟨h1, h2, h2, fun n hn => by simp [stNew] at hn, fun s p hp => by simp [stNew] at hp⟩

theorem small_new (l : List Int) (c : Nat) : Small (stNew l c) :=
  ⟨by simp [stNew], by simp [stNew], by simp [stNew], by simp [stNew], fun s => by simp [stNew]⟩

def shrunk (l : List Int) (c n : Nat) : St := { cap := c, now := resz l n, dur := l, pcs := fun _ => [], sizes := [n], calls := 1, dead := false, fused := false, left := 0, ents := 0 }

theorem trunc_new (l : List Int) (c n : Nat) (h2 : l.length ≤ c) (hn : n < l.length) : truncErr (stNew l c) n = 0 ∧ truncSt (stNew l c) n = shrunk l c n := by
  have hd : (stNew l c).dead = false := rfl
  have hs : spendNo (stNew l c) = false := rfl
  constructor
  · unfold truncErr
    rw [hd, hs, if_neg (by simp), if_neg (by omega), if_neg (by show ¬ ((c : Nat) : Int) < n; omega), if_neg (by simp)]
  · unfold truncSt
    rw [hd, hs, if_neg (by simp), if_neg (by omega), if_neg (by show ¬ ((c : Nat) : Int) < n; omega), if_neg (by simp), if_neg (by show ¬ ((l.length : Nat) : Int) < n; omega), if_pos (by show ((n : Nat) : Int) < l.length; omega)]
    rfl

theorem outTo_none (st : St) (sec : List Int) (rest : Int) (size : Nat) (h : ∀ s, st.pcs s = []) : ∀ k, outTo st sec rest size k = resz st.dur size
  | 0 => rfl
  | k + 1 => by unfold outTo; rw [h k, List.take_nil]; exact outTo_none st sec rest size h k

theorem out_shrunk (l : List Int) (c n : Nat) (hn : n < l.length) (k : Int × List Int × Int) : outcomeL (shrunk l c n) k = if 0 < k.1 then l.take n else l := by
  unfold outcomeL
  rw [outTo_none _ _ _ _ (fun _ => rfl)]
  have hb : behind (shrunk l c n) k.1 = if 0 < k.1 then n else l.length := by
    unfold behind keptN shrunk
    simp only [List.length_singleton]
    by_cases h : 0 < k.1
    · rw [if_pos h, if_pos (by omega), show min k.1.toNat 1 = 1 by omega]; rfl
    · rw [if_neg h, if_neg (by omega)]
  rw [hb]
  show resz l _ = _
  unfold resz
  by_cases h : 0 < k.1
  · rw [if_pos h, if_pos h, if_pos (by omega)]
  · rw [if_neg h, if_neg h, if_pos (Nat.le_refl _), List.take_length]

theorem SB.pre {w : World} {a : Option Addr} {k : Nat} {l : List Int} (h : SB w (.slice a l.length k) l) {n : Nat} (hn : n ≤ l.length) : SB w (.slice a n k) (l.take n) := by
  obtain ⟨ao, cap, he, h1, h2, h3, h4⟩ := h
  simp only [Value.slice.injEq] at he
  obtain ⟨rfl, -, rfl⟩ := he
  have e : (l.take n).length = n := by simp; omega
  refine ⟨a, k, by rw [e], by rw [e]; omega, h2, h3, fun x hx i hi => ?_⟩
  rw [e] at hi
  rw [h4 x hx i (by omega)]
  simp [List.getD, hi]

end Go.Proofs.Yteiajeeincapoac
