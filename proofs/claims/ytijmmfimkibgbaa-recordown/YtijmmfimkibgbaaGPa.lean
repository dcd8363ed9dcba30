import Derived.Test.YtijmmfimkibgbaaGRb
namespace Go.Proofs.Ytijmmfimkibgbaa
open Go.RowKit Go.Maps
set_option maxRecDepth 20000

def patchL (l : List Int) (A : Nat) (v : Int) : Nat → List Int
  | 0 => l
  | k + 1 => (patchL l A v k).set (A + k) (v / 256 ^ k % 256)

theorem length_patchL (l : List Int) (A : Nat) (v : Int) (k : Nat) : (patchL l A v k).length = l.length := by
  induction k with
  | zero => rfl
  | succ k ih => simp [patchL, ih]

def patchSt (st : BSt) (A v : Int) : BSt :=
  if st.e ≠ 0 then st else if A < 0 ∨ (st.l.length : Int) - 4 < A then { st with e := 1 } else if wide v 4 then { st with e := 21 } else { st with l := patchL st.l A.toNat v 4 }

theorem two_pow8 (k : Nat) : (2 : Int) ^ (8 * k) = 256 ^ k := by rw [Int.pow_mul]; rfl

theorem OB.setAt {w : World} {base b p j : Nat} {l : List Int} (c : Int) (h : OB w base (.slice (some ⟨b, 0, none⟩) l.length p) l) :
    OB (w.setCell ⟨b, j, none⟩ (.int .u8 c)) base (.slice (some ⟨b, 0, none⟩) l.length p) (l.set j c) := by
  rcases h.2 with ⟨hx, _⟩ | ⟨g, cap, cur, he, h1, h2, h3, h4, h5, h6⟩
  · simp at hx
  · simp only [Value.slice.injEq, Option.some.injEq, Addr.mk.injEq] at he
    obtain ⟨⟨rfl, -, -⟩, -, rfl⟩ := he
    refine ⟨by simp, .inr ⟨b, p, cur.setIfInBounds j (.int .u8 c), by simp, h1, heap_setCell_at _ h2, by simpa using h3, h4, by simpa using h5, ?_⟩⟩
    rw [Nat.mul_one, List.length_set, Array.toList_setIfInBounds, List.map_set]
    rw [Nat.mul_one] at h6
    rw [List.take_set, h6]

theorem OB.cellAt {w : World} {base b p j : Nat} {l : List Int} (h : OB w base (.slice (some ⟨b, 0, none⟩) l.length p) l) (hj : j < l.length) : w.cell? ⟨b, j, none⟩ = some (.int .u8 (l.getD j 0)) ∧ w.frozen? ⟨b, j, none⟩ = false := by
  refine ⟨?_, ?_⟩
  · have := World.ownsRow.cells h (g := b) rfl j (.int .u8 (l.getD j 0)) (by simp [hj])
    rw [Addr.add_lit] at this
    simpa using this
  · rcases h.2 with ⟨hx, _⟩ | ⟨g, cap, cur, he, h1, h2, h3, h4, h5, h6⟩
    · simp at hx
    · simp only [Value.slice.injEq, Option.some.injEq, Addr.mk.injEq] at he
      obtain ⟨⟨rfl, -, -⟩, -, rfl⟩ := he
      simp [World.frozen?, h2]

theorem OB.some {w : World} {base : Nat} {v : Value} {l : List Int} (h : OB w base v l) (hl : 0 < l.length) : ∃ b p, v = .slice (.some ⟨b, 0, none⟩) l.length p ∧ l.length ≤ p ∧ p ≤ 9223372036854775807 := by
  rcases h.2 with ⟨rfl, h0⟩ | ⟨g, cap, cur, rfl, h1, h2, h3, h4, h5, h6⟩
  · omega
  · unfold maxLen at h4
    exact ⟨g, cap, rfl, h3, by omega⟩

end Go.Proofs.Ytijmmfimkibgbaa

namespace Go.Proofs.Ytijmmfimkibgbaa
open Go.RowKit Go.Maps
set_option maxRecDepth 20000

theorem bytesLE_get (v : Int) (n k : Nat) (hk : k < n) : (bytesLE v n).getD k 0 = v / 256 ^ k % 256 := by
  induction n generalizing v k with
  | zero => omega
  | succ n ih =>
    cases k with
    | zero => simp [bytesLE]
    | succ k =>
      have e : (bytesLE v (n + 1)).getD (k + 1) 0 = (bytesLE (v / 256) n).getD k 0 := by simp [bytesLE]
      rw [e, ih (v / 256) k (by omega), Int.pow_succ, Int.mul_comm, Int.ediv_ediv_of_nonneg (by omega)]

end Go.Proofs.Ytijmmfimkibgbaa

namespace Go.Proofs.Ytijmmfimkibgbaa
open Go.RowKit Go.Maps
set_option maxRecDepth 20000

theorem bu16_any {w : World} {K : Nat → Nat} {g : Nat} {u : Value} {st : BSt} (h : BuV true w K g u st) (v : Int) (hv0 : -9223372036854775808 ≤ v) (hv1 : v ≤ 9223372036854775807) (hl : st.l.length + 4 ≤ 140737488355328) :
    Calls Try.prog 18 #[.pointer (some ⟨g, 0, none⟩), .int .i64 v] w fun e w' => e = .returned (.tuple #[]) ∧ ∃ K', Bu true w' K' g (numSt st v 2) ∧ Fr K K' w w' := by
  have H := hide h
  clear h
  go_enter Try.func18, Try.ntmps18
  go_wp2_with fail
  refine (bnumber_any H.out v 2 (by omega) hv0 hv1 hl).mono ?_
  rintro e w1 ⟨rfl, hf⟩
  have HF := hide hf
  clear hf
  go_wp2
  (try simp only [Exit.inBlock, Exit.then]); refine bodyPost_end (results_none rfl _ _ _) rfl ?_
  exact ⟨rfl, HF.out⟩

theorem bu32_any {w : World} {K : Nat → Nat} {g : Nat} {u : Value} {st : BSt} (h : BuV true w K g u st) (v : Int) (hv0 : -9223372036854775808 ≤ v) (hv1 : v ≤ 9223372036854775807) (hl : st.l.length + 4 ≤ 140737488355328) :
    Calls Try.prog 17 #[.pointer (some ⟨g, 0, none⟩), .int .i64 v] w fun e w' => e = .returned (.tuple #[]) ∧ ∃ K', Bu true w' K' g (numSt st v 4) ∧ Fr K K' w w' := by
  have H := hide h
  clear h
  go_enter Try.func17, Try.ntmps17
  go_wp2_with fail
  refine (bnumber_any H.out v 4 (by omega) hv0 hv1 hl).mono ?_
  rintro e w1 ⟨rfl, hf⟩
  have HF := hide hf
  clear hf
  go_wp2
  (try simp only [Exit.inBlock, Exit.then]); refine bodyPost_end (results_none rfl _ _ _) rfl ?_
  exact ⟨rfl, HF.out⟩

def newSt (lim : Int) : BSt := if lim < 0 then ⟨[], 0, 1⟩ else ⟨[], lim, 0⟩

def rnewSt (lim : Int) : BSt := ⟨[], lim, if lim < 0 then 1 else 0⟩

/-- Alike: the limit counts only where no error stands. -/
structure Eqv (st sr : BSt) : Prop where
  l : st.l = sr.l
  e : st.e = sr.e
  m : st.e = 0 → st.m = sr.m

theorem Eqv.same {st sr : BSt} (h : Eqv st sr) (h0 : st.e = 0) : st = sr := by
  cases st; cases sr
  obtain ⟨h1, h2, h3⟩ := h
  simp at h1 h2 h3 h0
  simp [h1, h2, h3 h0]

theorem Eqv.op {st sr : BSt} (h : Eqv st sr) (f : BSt → BSt) (hf : ∀ s : BSt, s.e ≠ 0 → f s = s) : Eqv (f st) (f sr) := by
  by_cases h0 : st.e = 0
  · rw [h.same h0]; exact ⟨rfl, rfl, fun _ => rfl⟩
  · rw [hf st h0, hf sr (by rw [← h.e]; exact h0)]; exact h

theorem eqv_new (lim : Int) : Eqv (newSt lim) (rnewSt lim) := by
  unfold newSt rnewSt
  by_cases h : lim < 0
  · rw [if_pos h, if_pos h]; exact ⟨rfl, rfl, fun h => by simp at h⟩
  · rw [if_neg h, if_neg h]; exact ⟨rfl, rfl, fun _ => rfl⟩

/-- A buffer just made. -/
def MadeB (p : Bool) (w : World) (st : BSt) (e : Ending) (w' : World) : Prop := ∃ g K, e = .returned (.pointer (some ⟨g, 0, none⟩)) ∧ Bu p w' K g st ∧ (∀ k, K k ≠ 0 → w.heap.size ≤ k) ∧ Below w.heap.size w w'

theorem newBuffer_any (lim : Int) (h1 : lim ≤ 9223372036854775807) (w : World) :
    Calls Try.prog 16 #[.int .i64 lim] w fun e w' => MadeB true w (newSt lim) e w' := by
  have HK : Hid (∀ (w' : World) (st : BSt), st.l = [] → (st.e = 0 → 0 ≤ st.m) → st.m ≤ 9223372036854775807 → SS true w' w.heap.size (.slice none 0 0) st.m st.e → Below w.heap.size w w' → ∃ K, Bu true w' K w.heap.size st ∧ (∀ k, K k ≠ 0 → w.heap.size ≤ k)) := by
    intro w' st hl hp ht hs hb
    refine ⟨fun k => if k = w.heap.size then 1 else 0, ⟨.slice none 0 0, hs, by simp, by rw [hl]; exact World.ownsRow_nil _ _ _ _, (fun k hk => by simp [Value.ownBlock] at hk), ?_, hp, ht⟩, ?_⟩
    · intro k hk
      by_cases e : k = w.heap.size
      · rw [e]; exact hs.lt
      · simp [e] at hk
    · intro k hk
      by_cases e : k = w.heap.size
      · omega
      · simp [e] at hk
  by_cases h0 : lim < 0
  · have HS : Hid (newSt lim = ⟨[], 0, 1⟩) := if_pos h0
    go_enter Try.func16, Try.ntmps16
    go_wp2
    go_ret
    rw [HS.out]
    obtain ⟨K, h2, h3⟩ := HK.out _ ⟨[], 0, 1⟩ rfl (fun h => by simp at h) (by show (0 : Int) ≤ _; omega) (heap_alloc_new w _) ((Below.refl _ _).alloc (Nat.le_refl _) _)
    exact ⟨_, K, rfl, h2, h3, (Below.refl _ _).alloc (Nat.le_refl _) _⟩
  · have HS : Hid (newSt lim = ⟨[], lim, 0⟩) := if_neg h0
    have h0' : 0 ≤ lim := by omega
    go_enter Try.func16, Try.ntmps16
    go_wp2
    go_ret
    rw [HS.out]
    obtain ⟨K, h2, h3⟩ := HK.out _ ⟨[], lim, 0⟩ rfl (fun _ => h0') h1 (heap_alloc_new w _) ((Below.refl _ _).alloc (Nat.le_refl _) _)
    exact ⟨_, K, rfl, h2, h3, (Below.refl _ _).alloc (Nat.le_refl _) _⟩

end Go.Proofs.Ytijmmfimkibgbaa

