import Derived.Test.YteiajeeincapoacWalk1
namespace Go.Proofs.Yteiajeeincapoac
open Go.RowKit

def DC (w : World) (g : Nat) (cap : Int) (vn vd : Value) (m : Nat) (vs : Value) (calls : Int) (dead fused : Bool) (left : Int) : Prop :=
  w.heap[g]? = some (.cells #[.int .i64 cap, vn, vd, .map (some m), vs, .int .i64 calls, .bool dead, .bool fused, .int .i64 left] 61 (0, 0))

def Apart (v u : Value) : Prop := ∀ k, v.ownBlock = some k → u.ownBlock ≠ some k

theorem new_neg (v : Value) (c : Int) (w : World) (h : c < 0 ∨ 16777216 < c) :
    Calls Try.prog 23 #[v, .int .i64 c] w fun e w' => e = .returned (.tuple #[.pointer none, .int .i64 1]) ∧ w' = w := by
  rcases h with h | h
  · go_enter Try.func23, Try.ntmps23
    go_wp2
    go_ret2
    exact ⟨rfl, rfl⟩
  · have h' : ¬ c < 0 := by omega
    go_enter Try.func23, Try.ntmps23
    go_wp2
    go_ret2
    exact ⟨rfl, rfl⟩

theorem new_full (a : Option Addr) (n k : Nat) (c : Int) (w : World) (h0 : 0 ≤ c) (h1 : c ≤ 16777216) (h2 : c < n) (_h3 : n ≤ maxLen) :
    Calls Try.prog 23 #[.slice a n k, .int .i64 c] w fun e w' => e = .returned (.tuple #[.pointer none, .int .i64 10]) ∧ w' = w := by
  unfold maxLen at _h3
  go_enter Try.func23, Try.ntmps23
  go_wp2
  go_ret2
  exact ⟨rfl, rfl⟩

theorem new_yes (v : Value) (l : List Int) (c : Int) (w : World) (hs : SB w v l) (h1 : c ≤ 16777216) (h2 : l.length ≤ c) :
    Calls Try.prog 23 #[v, .int .i64 c] w fun e w' => ∃ g vn vd m, e = .returned (.tuple #[.pointer (some ⟨g, 0, none⟩), .int .i64 0]) ∧
      DC w' g c vn vd m (.slice none 0 0) 0 false false 0 ∧ OB w' w.heap.size vn l ∧ OB w' w.heap.size vd l ∧ Apart vn vd ∧ w'.heap[m]? = some (.map #[] 0) ∧ w.heap.size ≤ g ∧ w.heap.size ≤ m ∧ w'.heap.size = g + 1 ∧ Below w.heap.size w w' := by
  have HS : Hid (SB w v l) := hs
  obtain ⟨ao, cap, hv, hlc, hcm, _⟩ := hs
  unfold maxLen at hcm
  subst hv
  have h0 : ¬ c < 0 := by omega
  have h1' : ¬ 16777216 < c := by omega
  have h2' : ¬ c < (l.length : Int) := by omega
  have hmm := @run_makeMap Try.prog
  go_enter Try.func23, Try.ntmps23
  go_wp2_with fail
  refine (slicesClone_any _ l _ HS.out (by omega)).mono ?_
  rintro e w1 ⟨an, cn, rfl, hn, hb1⟩
  go_wp2_with fail
  refine (slicesClone_any _ l _ (HS.out.below hb1) (by omega)).mono ?_
  rintro e w2 ⟨ad, cd, rfl, hd, hb2⟩
  have HN : Hid (OB w1 w.heap.size (.slice an l.length cn) l) := hn
  have HD : Hid (OB w2 w1.heap.size (.slice ad l.length cd) l) := hd
  clear hn hd
  go_wp2
  go_ret2
  have hb3 : Below w2.heap.size w2 ((w2.alloc (.map #[] 0)).alloc (.cells #[.int .i64 c, .slice an l.length cn, .slice ad l.length cd, .map (some w2.heap.size), .slice none 0 0, .int .i64 0, .bool false, .bool false, .int .i64 0] 61)) := ((Below.refl _ _).alloc (Nat.le_refl _) _).alloc (by simp) _
  have s1 := hb1.size
  have s2 := hb2.size
  refine ⟨w2.heap.size + 1, .slice an l.length cn, .slice ad l.length cd, w2.heap.size, rfl, ?_, ?_, ?_, ?_, ?_, by omega, by omega, by simp, ?_⟩
  · exact (heap_two _ _ _).1
  · exact (HN.out.below hb2 (Nat.le_refl _)).below hb3 (Nat.le_refl _)
  · exact OB.base (HD.out.below hb3 (Nat.le_refl _)) s1
  · intro k h1 h2
    have := HN.out.lt k h1
    have := HD.out.lt k h2
    omega
  · exact (heap_two _ _ _).2
  · exact (hb1.trans (hb2.mono s1)).trans (hb3.mono (by omega))

def RC (w : World) (g : Nat) (cap : Int) (vn vd vp vs : Value) (calls fuse : Int) (live : Bool) : Prop :=
  w.heap[g]? = some (.cells #[.int .i64 cap, vn, vd, vp, vs, .int .i64 calls, .int .i64 fuse, .bool live] 65 (0, 0))

theorem rnew_neg (v : Value) (c : Int) (w : World) (h : c < 0 ∨ 16777216 < c) :
    Calls Try.prog 24 #[v, .int .i64 c] w fun e w' => e = .returned (.tuple #[.pointer none, .int .i64 1]) ∧ w' = w := by
  rcases h with h | h
  · go_enter Try.func24, Try.ntmps24
    go_wp2
    go_ret2
    exact ⟨rfl, rfl⟩
  · have h' : ¬ c < 0 := by omega
    go_enter Try.func24, Try.ntmps24
    go_wp2
    go_ret2
    exact ⟨rfl, rfl⟩

theorem rnew_full (a : Option Addr) (n k : Nat) (c : Int) (w : World) (h0 : 0 ≤ c) (h1 : c ≤ 16777216) (h2 : c < n) (_h3 : n ≤ maxLen) :
    Calls Try.prog 24 #[.slice a n k, .int .i64 c] w fun e w' => e = .returned (.tuple #[.pointer none, .int .i64 10]) ∧ w' = w := by
  unfold maxLen at _h3
  go_enter Try.func24, Try.ntmps24
  go_wp2
  go_ret2
  exact ⟨rfl, rfl⟩

theorem rnew_yes (v : Value) (l : List Int) (c : Int) (w : World) (hs : SB w v l) (h1 : c ≤ 16777216) (h2 : l.length ≤ c) :
    Calls Try.prog 24 #[v, .int .i64 c] w fun e w' => ∃ g vn vd, e = .returned (.tuple #[.pointer (some ⟨g, 0, none⟩), .int .i64 0]) ∧
      RC w' g c vn vd (.slice none 0 0) (.slice none 0 0) 0 (-1) true ∧ OB w' w.heap.size vn l ∧ OB w' w.heap.size vd l ∧ Apart vn vd ∧ w.heap.size ≤ g ∧ Below w.heap.size w w' := by
  have HS : Hid (SB w v l) := hs
  obtain ⟨ao, cap, hv, hlc, hcm, _⟩ := hs
  unfold maxLen at hcm
  subst hv
  have h0 : ¬ c < 0 := by omega
  have h1' : ¬ 16777216 < c := by omega
  have h2' : ¬ c < (l.length : Int) := by omega
  go_enter Try.func24, Try.ntmps24
  go_wp2_with fail
  refine (rClone_any _ l _ HS.out (by omega)).mono ?_
  rintro e w1 ⟨_, rfl, rfl, hn, hb1⟩
  go_wp2_with fail
  refine (rClone_any _ l _ (HS.out.below hb1) (by omega)).mono ?_
  rintro e w2 ⟨_, rfl, rfl, hd, hb2⟩
  have HN : Hid (OB w1 w.heap.size (.slice (some ⟨w.heap.size, 0, none⟩) l.length l.length) l) := hn
  have HD : Hid (OB w2 w1.heap.size (.slice (some ⟨w1.heap.size, 0, none⟩) l.length l.length) l) := hd
  clear hn hd
  go_wp2
  go_ret2
  have hb3 : Below w2.heap.size w2 (w2.alloc (.cells #[.int .i64 c, .slice (some ⟨w.heap.size, 0, none⟩) l.length l.length, .slice (some ⟨w1.heap.size, 0, none⟩) l.length l.length, .slice none 0 0, .slice none 0 0, .int .i64 0, .int .i64 (-1), .bool true] 65)) := (Below.refl _ _).alloc (Nat.le_refl _) _
  have s1 := hb1.size
  have s2 := hb2.size
  refine ⟨w2.heap.size, _, _, rfl, heap_alloc_new _ _, (HN.out.below hb2 (Nat.le_refl _)).below hb3 (Nat.le_refl _), OB.base (HD.out.below hb3 (Nat.le_refl _)) s1, ?_, by omega, (hb1.trans (hb2.mono s1)).trans (hb3.mono (by omega))⟩
  intro k h1 h2
  have := HN.out.lt k h1
  have := HD.out.lt k h2
  omega
end Go.Proofs.Yteiajeeincapoac
