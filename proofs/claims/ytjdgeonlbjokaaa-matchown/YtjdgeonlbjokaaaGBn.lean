import Derived.WalkKit
import Derived.Test.YtjdgeonlbjokaaaGTk
namespace Go.Proofs.Ytjdgeonlbjokaaa
set_option linter.unusedVariables false

/-- A candidate. -/
def Cnd (D : List Int) (j i : Nat) : Prop := i + 2 < D.length ∧ D.getD j 0 = D.getD i 0 ∧ D.getD (j + 1) 0 = D.getD (i + 1) 0 ∧ D.getD (j + 2) 0 = D.getD (i + 2) 0
instance (D : List Int) (j i : Nat) : Decidable (Cnd D j i) := by unfold Cnd; infer_instance

def rnn (D : List Int) (j i : Nat) : Nat → Nat
  | 0 => 0
  | n + 1 => if rnn D j i n = n ∧ i + n < D.length ∧ D.getD (j + n) 0 = D.getD (i + n) 0 then n + 1 else rnn D j i n

theorem rnn_le (D : List Int) (j i n : Nat) : rnn D j i n ≤ n := by
  induction n with
  | zero => exact Nat.le_refl _
  | succ n ih => unfold rnn; split <;> omega

theorem rnn_mono (D : List Int) (j i n : Nat) : rnn D j i n ≤ rnn D j i (n + 1) := by
  have := rnn_le D j i n
  conv => rhs; unfold rnn
  split <;> omega

theorem rnn_eq {D : List Int} {j i : Nat} : ∀ {n k : Nat}, k < rnn D j i n → i + k < D.length ∧ D.getD (j + k) 0 = D.getD (i + k) 0
  | 0, k, h => by simp [rnn] at h
  | n + 1, k, h => by
    unfold rnn at h
    split at h
    · rename_i q
      by_cases e : k = n
      · rw [e]; exact q.2
      · exact rnn_eq (n := n) (by omega)
    · exact rnn_eq h

theorem rnn_ge {D : List Int} {j i : Nat} : ∀ {n m : Nat}, m ≤ n → (∀ k, k < m → i + k < D.length ∧ D.getD (j + k) 0 = D.getD (i + k) 0) → m ≤ rnn D j i n
  | 0, m, h, _ => by omega
  | n + 1, m, h, hk => by
    by_cases e : m = n + 1
    · subst e
      have i1 := rnn_ge (n := n) (m := n) (Nat.le_refl _) (fun k q => hk k (by omega))
      have i2 := rnn_le D j i n
      unfold rnn
      rw [if_pos ⟨by omega, hk n (by omega)⟩]
      exact Nat.le_refl _
    · exact Nat.le_trans (rnn_ge (n := n) (by omega) hk) (rnn_mono D j i n)

/-- The run of j at i. -/
def rno (D : List Int) (j i : Nat) : Nat := rnn D j i 258

theorem rno_le (D : List Int) (j i : Nat) : rno D j i ≤ 258 := rnn_le _ _ _ _

theorem rno_len {D : List Int} {j i : Nat} (h : i < D.length) : i + rno D j i ≤ D.length := by
  by_cases e : rno D j i = 0
  · omega
  · have := (rnn_eq (D := D) (j := j) (i := i) (n := 258) (k := rno D j i - 1) (by unfold rno at e ⊢; omega)).1
    omega

theorem rno_iff {D : List Int} {j i m : Nat} : m ≤ rno D j i ↔ m ≤ 258 ∧ ∀ k, k < m → i + k < D.length ∧ D.getD (j + k) 0 = D.getD (i + k) 0 :=
  ⟨fun h => ⟨Nat.le_trans h (rno_le D j i), fun k hk => rnn_eq (n := 258) (Nat.lt_of_lt_of_le hk h)⟩, fun h => rnn_ge h.1 h.2⟩

theorem rno_go {D : List Int} {j i m : Nat} (h : m ≤ rno D j i) : (m < 258 → i + m < D.length → D.getD (j + m) 0 = D.getD (i + m) 0 → m + 1 ≤ rno D j i) ∧ (¬ (m < 258 ∧ i + m < D.length ∧ D.getD (j + m) 0 = D.getD (i + m) 0) → rno D j i = m) := by
  refine ⟨fun h1 h2 h3 => rno_iff.2 ⟨by omega, fun k hk => ?_⟩, fun q => ?_⟩
  · by_cases e : k = m
    · rw [e]; exact ⟨h2, h3⟩
    · exact (rno_iff.1 h).2 k (by omega)
  · by_cases e : rno D j i = m
    · exact e
    · have := (rno_iff.1 (show m + 1 ≤ rno D j i by omega))
      exact absurd ⟨by omega, this.2 m (by omega)⟩ q

theorem cnd_iff {D : List Int} {j i : Nat} : Cnd D j i ↔ 3 ≤ rno D j i := by
  rw [rno_iff]
  refine ⟨fun ⟨h0, h1, h2, h3⟩ => ⟨by omega, fun k hk => ?_⟩, fun ⟨_, h⟩ => ?_⟩
  · have : k = 0 ∨ k = 1 ∨ k = 2 := by omega
    rcases this with rfl | rfl | rfl
    · exact ⟨by omega, h1⟩
    · exact ⟨by omega, h2⟩
    · exact ⟨by omega, h3⟩
  · exact ⟨(h 2 (by omega)).1, (h 0 (by omega)).2, (h 1 (by omega)).2, (h 2 (by omega)).2⟩

/-- The candidates of i among n places from a on, rising. -/
def asc (D : List Int) (i a n : Nat) : List Nat := (List.range' a n).filter fun j => decide (Cnd D j i)

theorem asc_snoc (D : List Int) (i a n : Nat) : asc D i a (n + 1) = asc D i a n ++ (if Cnd D (a + n) i then [a + n] else []) := by
  unfold asc
  rw [List.range'_1_concat, List.filter_append]
  congr 1
  by_cases h : Cnd D (a + n) i
  · simp [h]
  · simp [h]

theorem asc_cons (D : List Int) (i a n : Nat) : asc D i a (n + 1) = (if Cnd D a i then [a] else []) ++ asc D i (a + 1) n := by
  unfold asc
  rw [List.range'_succ, List.filter_cons]
  by_cases h : Cnd D a i
  · simp [h]
  · simp [h]

theorem asc_len (D : List Int) (i a n : Nat) : (asc D i a n).length ≤ n := by
  unfold asc
  have := List.length_filter_le (fun j => decide (Cnd D j i)) (List.range' a n)
  simpa using this

theorem asc_mem {D : List Int} {i a n j : Nat} (h : j ∈ asc D i a n) : a ≤ j ∧ j < a + n ∧ Cnd D j i := by
  unfold asc at h
  obtain ⟨h1, h2⟩ := List.mem_filter.1 h
  have := List.mem_range'_1.1 h1
  exact ⟨this.1, this.2, of_decide_eq_true h2⟩

/-- The candidates among the n nearest places, the nearest first. -/
def cds (D : List Int) (i n : Nat) : List Nat := (asc D i (i - n) n).reverse

theorem cds_zero (D : List Int) (i : Nat) : cds D i 0 = [] := rfl

theorem cds_succ (D : List Int) {i n : Nat} (h : n + 1 ≤ i) : cds D i (n + 1) = cds D i n ++ (if Cnd D (i - 1 - n) i then [i - 1 - n] else []) := by
  unfold cds
  rw [asc_cons, List.reverse_append, show i - (n + 1) + 1 = i - n by omega, show i - (n + 1) = i - 1 - n by omega]
  congr 1
  split <;> rfl

theorem cds_pre (D : List Int) (i : Nat) {n m : Nat} (h : n ≤ m) (hm : m ≤ i) : ∃ r, cds D i m = cds D i n ++ r := by
  induction m with
  | zero => obtain rfl : n = 0 := by omega
            exact ⟨[], by simp⟩
  | succ m ih =>
    by_cases e : n = m + 1
    · subst e; exact ⟨[], by simp⟩
    · obtain ⟨r, hr⟩ := ih (by omega) (by omega)
      exact ⟨r ++ _, by rw [cds_succ D hm, hr, List.append_assoc]⟩

theorem cds_mem {D : List Int} {i n j : Nat} (hn : n ≤ i) (h : j ∈ cds D i n) : i - n ≤ j ∧ j < i ∧ Cnd D j i := by
  have := asc_mem (List.mem_reverse.1 h)
  exact ⟨this.1, by omega, this.2.2⟩

def stp (D : List Int) (i : Nat) (s : Nat × Nat) (j : Nat) : Nat × Nat := if s.1 < rno D j i then (rno D j i, i - j) else s
def pick (D : List Int) (i : Nat) (l : List Nat) (s : Nat × Nat) : Nat × Nat := l.foldl (stp D i) s

theorem pick_snoc (D : List Int) (i : Nat) (l : List Nat) (s : Nat × Nat) (j : Nat) : pick D i (l ++ [j]) s = stp D i (pick D i l s) j := by simp [pick]
theorem pick_cons (D : List Int) (i : Nat) (l : List Nat) (s : Nat × Nat) (j : Nat) : pick D i (j :: l) s = pick D i l (stp D i s j) := by simp only [pick, List.foldl_cons]

/-- The best copy: length and distance. -/
def bst (D : List Int) (i W C : Nat) : Nat × Nat := pick D i ((cds D i (min i W)).take C) (0, 0)

theorem pick_b {D : List Int} {i b : Nat} (l : List Nat) : pick D i l (b, 0) = if b < (pick D i l (0, 0)).1 then pick D i l (0, 0) else (b, 0) := by
  rw [← List.reverse_reverse l]
  induction l.reverse with
  | nil => simp [pick]
  | cons j r ih =>
    rw [List.reverse_cons, pick_snoc, pick_snoc, ih]
    generalize pick D i r.reverse (0, 0) = p
    obtain ⟨x, y⟩ := p
    unfold stp
    by_cases h1 : b < x
    · simp only [h1, if_true]
      by_cases h2 : x < rno D j i
      · simp only [h2, if_true]; rw [if_pos (by omega)]
      · simp only [h2, if_false]; rw [if_pos h1]
    · simp only [h1, if_false]
      by_cases h2 : x < rno D j i
      · simp only [h2, if_true]
      · simp only [h2, if_false]; rw [if_neg (by omega), if_neg h1]

theorem pick_stay {D : List Int} {i : Nat} : ∀ (l : List Nat) (s : Nat × Nat), (∀ j ∈ l, rno D j i ≤ s.1) → pick D i l s = s
  | [], s, _ => rfl
  | j :: l, s, h => by
    rw [pick_cons]
    have : stp D i s j = s := by unfold stp; rw [if_neg (by have := h j List.mem_cons_self; omega)]
    rw [this]
    exact pick_stay l s fun k hk => h k (List.mem_cons_of_mem _ hk)

/-- What is picked is the run of one that was looked at. -/
theorem pick_in {D : List Int} {i : Nat} (l : List Nat) : pick D i l (0, 0) = (0, 0) ∨ ∃ j ∈ l, pick D i l (0, 0) = (rno D j i, i - j) := by
  rw [← List.reverse_reverse l]
  induction l.reverse with
  | nil => exact .inl rfl
  | cons j r ih =>
    rw [List.reverse_cons, pick_snoc]
    unfold stp
    split
    · exact .inr ⟨j, by simp, rfl⟩
    · rcases ih with h | ⟨k, hk, h⟩
      · exact .inl h
      · exact .inr ⟨k, by simp at hk ⊢; exact .inl hk, h⟩

theorem pick_ge' {D : List Int} {i j : Nat} : ∀ r : List Nat, j ∈ r.reverse → rno D j i ≤ (pick D i r.reverse (0, 0)).1
  | [], h => by simp at h
  | k :: r, h => by
    rw [List.reverse_cons, pick_snoc]
    simp only [List.reverse_cons, List.mem_append, List.mem_singleton] at h
    unfold stp
    rcases h with h | rfl
    · have := pick_ge' (D := D) (i := i) r h
      split
      · simp only; omega
      · exact this
    · split
      · simp
      · omega

theorem pick_ge {D : List Int} {i : Nat} (l : List Nat) {j : Nat} (h : j ∈ l) : rno D j i ≤ (pick D i l (0, 0)).1 := by
  have := pick_ge' (D := D) (i := i) (j := j) l.reverse (by rwa [List.reverse_reverse])
  rwa [List.reverse_reverse] at this

theorem bst_in (D : List Int) (i W C : Nat) : bst D i W C = (0, 0) ∨ ∃ j, j ∈ (cds D i (min i W)).take C ∧ bst D i W C = (rno D j i, i - j) := pick_in _

theorem bst_facts {D : List Int} {i W C : Nat} : bst D i W C = (0, 0) ∨ ∃ j, j < i ∧ i - j ≤ W ∧ Cnd D j i ∧ 3 ≤ rno D j i ∧ bst D i W C = (rno D j i, i - j) ∧ j ∈ (cds D i (min i W)).take C := by
  rcases bst_in D i W C with h | ⟨j, hj, h⟩
  · exact .inl h
  · have := cds_mem (Nat.min_le_left _ _) (List.mem_of_mem_take hj)
    exact .inr ⟨j, this.2.1, by omega, this.2.2, cnd_iff.1 this.2.2, h, hj⟩

/-- What 'longest' tells. -/
def lng (D : List Int) (i : Nat) (l : List Nat) (b : Nat) : Nat × Nat := if (pick D i l (b, 0)).2 = 0 then (0, 0) else pick D i l (b, 0)

theorem lng_eq {D : List Int} {i b : Nat} {l : List Nat} (h : ∀ j ∈ l, j < i) : lng D i l b = if b < (pick D i l (0, 0)).1 then pick D i l (0, 0) else (0, 0) := by
  unfold lng
  rw [pick_b]
  by_cases q : b < (pick D i l (0, 0)).1
  · simp only [q, if_true]
    rcases pick_in (D := D) (i := i) l with e | ⟨j, hj, e⟩
    · rw [e] at q; simp at q
    · rw [e]
      have := h j hj
      rw [if_neg (by simp only; omega)]
  · simp only [q, if_false]
    simp

/-- The last C of rising places, from behind, are the C nearest. -/
theorem near_rev (l : List Nat) (C : Nat) : (l.drop (l.length - C)).reverse = l.reverse.take C := by
  rw [List.reverse_drop]
  by_cases h : C ≤ l.length
  · rw [show l.length - (l.length - C) = C by omega]
  · rw [show l.length - (l.length - C) = l.length by omega, List.take_of_length_le (by simp), List.take_of_length_le (by simp; omega)]

theorem lng_best {D : List Int} {i W C : Nat} : lng D i ((cds D i (min i W)).take C) 2 = bst D i W C := by
  have hm : ∀ j ∈ (cds D i (min i W)).take C, j < i := fun j hj => (cds_mem (Nat.min_le_left _ _) (List.mem_of_mem_take hj)).2.1
  rw [lng_eq hm]
  show (if 2 < (bst D i W C).1 then bst D i W C else (0, 0)) = bst D i W C
  rcases bst_facts (D := D) (i := i) (W := W) (C := C) with h | ⟨j, h1, h2, h3, h4, h5, _⟩
  · rw [h]; simp
  · rw [h5, if_pos (by simp only; omega)]
end Go.Proofs.Ytjdgeonlbjokaaa

namespace Go.Proofs.Ytjdgeonlbjokaaa
open Go.RowKit Go.Maps
set_option maxRecDepth 20000
set_option linter.unusedVariables false

/-- An effort in its domain. -/
def Dmn (x y : Int) : Prop := 1 ≤ x ∧ x ≤ 32768 ∧ 0 ≤ y ∧ y ≤ 4096
instance (x y : Int) : Decidable (Dmn x y) := by unfold Dmn; infer_instance
def dmn (x y : Int) : Bool := decide (Dmn x y)

end Go.Proofs.Ytjdgeonlbjokaaa

namespace Go.Proofs.Ytjdgeonlbjokaaa
open Go.RowKit Go.Maps
set_option maxRecDepth 20000
set_option linter.unusedVariables false

theorem ldom_any (x y : Int) (z : Bool) (w : World) : Calls Try.prog 4 #[.agg #[.int .i64 x, .int .i64 y, .bool z]] w fun e w' => e = .returned (.bool (dmn x y)) ∧ Below w.heap.size w w' := by
  have HB : Hid (Below w.heap.size w (w.alloc (.cells #[.int .i64 x, .int .i64 y, .bool z] 24))) := (Below.refl _ _).alloc (Nat.le_refl _) _
  obtain ⟨wb, hwb⟩ : ∃ wb, w.alloc (.cells #[.int .i64 x, .int .i64 y, .bool z] 24) = wb := ⟨_, rfl⟩
  have d1 : wb.cell? ⟨w.heap.size, 0, none⟩ = some (.int .i64 x) := by rw [← hwb]; unfold World.cell?; simp only [heap_alloc_new]; rfl
  have d2 : wb.cell? ⟨w.heap.size, 1, none⟩ = some (.int .i64 y) := by rw [← hwb]; unfold World.cell?; simp only [heap_alloc_new]; rfl
  rw [hwb] at HB
  by_cases h0 : 1 ≤ x
  · have g0 : decide (1 ≤ x) = true := decide_eq_true h0
    by_cases h1 : x ≤ 32768
    · have g1 : decide (x ≤ 32768) = true := decide_eq_true h1
      by_cases h2 : 0 ≤ y
      · have g2 : decide (0 ≤ y) = true := decide_eq_true h2
        by_cases h3 : y ≤ 4096
        · have g3 : decide (y ≤ 4096) = true := decide_eq_true h3
          have HE : Hid (dmn x y = true) := decide_eq_true ⟨h0, h1, h2, h3⟩
          go_enter Try.func4, Try.ntmps4
          go_wp2
          go_ret
          rw [HE.out]
          exact ⟨rfl, HB.out⟩
        · have g3 : decide (y ≤ 4096) = false := decide_eq_false h3
          have HE : Hid (dmn x y = false) := decide_eq_false (fun q => h3 q.2.2.2)
          go_enter Try.func4, Try.ntmps4
          go_wp2
          go_ret
          rw [HE.out]
          exact ⟨rfl, HB.out⟩
      · have g2 : decide (0 ≤ y) = false := decide_eq_false h2
        have HE : Hid (dmn x y = false) := decide_eq_false (fun q => h2 q.2.2.1)
        go_enter Try.func4, Try.ntmps4
        go_wp2
        go_ret
        rw [HE.out]
        exact ⟨rfl, HB.out⟩
    · have g1 : decide (x ≤ 32768) = false := decide_eq_false h1
      have HE : Hid (dmn x y = false) := decide_eq_false (fun q => h1 q.2.1)
      go_enter Try.func4, Try.ntmps4
      go_wp2
      go_ret
      rw [HE.out]
      exact ⟨rfl, HB.out⟩
  · have g0 : decide (1 ≤ x) = false := decide_eq_false h0
    have HE : Hid (dmn x y = false) := decide_eq_false (fun q => h0 q.1)
    go_enter Try.func4, Try.ntmps4
    go_wp2
    go_ret
    rw [HE.out]
    exact ⟨rfl, HB.out⟩

set_option maxHeartbeats 1000000 in
theorem lrun_any (v : Value) (D : List Int) (j i : Nat) (w : World) (h : SB w v D) (hji : j < i) (hi : i < D.length) (hn : D.length ≤ 1000000000) :
    Calls Try.prog 23 #[v, .int .i64 j, .int .i64 i] w fun e w' => e = .returned (.int .i64 (rno D j i : Nat)) ∧ ∃ n, w' = w.drewN n := by
  have HS := hide h
  obtain ⟨ao, cap, rfl, hlc, hcm⟩ := h.open
  clear h
  go_enter Try.func23, Try.ntmps23
  go_wp2
  go_loopw [7] (fun t wr => ∃ m q : Nat, m ≤ 258 ∧ t = .int .i64 m ∧ wr = w.drewN q ∧ Hid (m ≤ rno D j i)) (fun t _ => 258 - (intOf t).toNat)
  case atStart => exact ⟨0, 0, by omega, rfl, rfl, Nat.zero_le _⟩
  case round =>
    obtain ⟨m, q, hm, rfl, hw, HM⟩ := hrel
    subst hw
    have HGO := hide (rno_go HM.out)
    have k1 : IntKind.i64.wrap ((i : Int) + (m : Int)) = (i : Int) + (m : Int) := by rw [IntKind.wrap_i64]; omega
    have k2 : IntKind.i64.wrap ((j : Int) + (m : Int)) = (j : Int) + (m : Int) := by rw [IntKind.wrap_i64]; omega
    by_cases h1 : m < 258
    · have g1 : decide ((m : Int) < 258) = true := decide_eq_true (by omega)
      by_cases h2 : i + m < D.length
      · have g2 : decide ((i : Int) + (m : Int) < (D.length : Int)) = true := decide_eq_true (by omega)
        obtain ⟨b, o, rfl, c1⟩ := HS.out.get (w := w.drewN q) (below_drewN (Below.refl _ _) q) (k := i + m) h2
        obtain ⟨b', o', e', c2⟩ := HS.out.get (w := w.drewN q) (below_drewN (Below.refl _ _) q) (k := j + m) (by omega)
        simp only [Option.some.injEq, Addr.mk.injEq, and_true] at e'
        obtain ⟨rfl, rfl⟩ := e'
        obtain ⟨x, HX⟩ : ∃ x, Hid (x = D.getD (i + m) 0) := ⟨_, rfl⟩
        obtain ⟨y, HY⟩ : ∃ x, Hid (x = D.getD (j + m) 0) := ⟨_, rfl⟩
        rw [← HX.out] at c1 HGO
        rw [← HY.out] at c2 HGO
        have c1w : w.cell? ⟨b, o + (i + m), none⟩ = some (.int .u8 x) := c1
        have c2w : w.cell? ⟨b, o + (j + m), none⟩ = some (.int .u8 y) := c2
        have i1 : (i : Int) + (m : Int) < (D.length : Int) := by omega
        have i2 : (j : Int) + (m : Int) < (D.length : Int) := by omega
        have t1 : ((i : Int) + (m : Int)).toNat = i + m := by omega
        have t2 : ((j : Int) + (m : Int)).toNat = j + m := by omega
        by_cases h3 : y = x
        · subst h3
          have g3 : (y == y) = true := by simp
          have HN := hide (HGO.out.1 h1 h2 rfl)
          clear HGO
          go_wp2
          go_quiet (fail)
          go_wp2
          go_roundw
          case rel => exact ⟨m + 1, _, by omega, by go_num, by (try simp only [World.drewN_drewN]); rfl, HN⟩
          case measure => simp [intOf]; omega
        · have g3 : (y == x) = false := by simpa using h3
          have HE : Hid (rno D j i = m) := HGO.out.2 (fun q => h3 q.2.2)
          clear HGO h3
          go_wp2
          go_quiet (fail)
          go_wp2
          go_ret
          rw [HE.out]
          exact ⟨rfl, _, by (try simp only [World.drewN_drewN]); rfl⟩
      · have g2 : decide ((i : Int) + (m : Int) < (D.length : Int)) = false := decide_eq_false (by omega)
        have i1 : ¬ (i : Int) + (m : Int) < (D.length : Int) := by omega
        have HE : Hid (rno D j i = m) := HGO.out.2 (fun q => h2 q.2.1)
        clear HGO
        go_wp2
        go_quiet (fail)
        go_wp2
        go_ret
        rw [HE.out]
        exact ⟨rfl, _, by (try simp only [World.drewN_drewN]); rfl⟩
    · have g1 : decide ((m : Int) < 258) = false := decide_eq_false (by omega)
      have HE : Hid (rno D j i = m) := HGO.out.2 (fun q => h1 q.1)
      clear HGO
      go_wp2
      go_quiet (fail)
      go_wp2
      go_ret
      rw [HE.out]
      exact ⟨rfl, _, by (try simp only [World.drewN_drewN]); rfl⟩
end Go.Proofs.Ytjdgeonlbjokaaa

namespace Go.Proofs.Ytjdgeonlbjokaaa
open Go.RowKit Go.Maps
set_option maxRecDepth 20000
set_option linter.unusedVariables false

theorem bst_at {D : List Int} {i W C n : Nat} (hn : n ≤ min i W) (hc : (cds D i n).length ≤ C) (h : n = min i W ∨ (cds D i n).length = C) : bst D i W C = pick D i (cds D i n) (0, 0) := by
  unfold bst
  congr 1
  obtain ⟨r, hr⟩ := cds_pre D i hn (Nat.min_le_left _ _)
  rcases h with rfl | h
  · exact List.take_of_length_le hc
  · rw [hr, ← h, List.take_left' rfl]

/-- Best: the error, the length, the distance. -/
def bE (D : List Int) (a : Int) (x y : Int) : Int := if (D.length : Int) ≤ 16777216 ∧ Dmn x y ∧ 0 ≤ a ∧ a < (D.length : Int) then 0 else 1
def bL (D : List Int) (a : Int) (x y : Int) : Nat := if bE D a x y = 0 then (bst D a.toNat x.toNat y.toNat).1 else 0
def bD (D : List Int) (a : Int) (x y : Int) : Nat := if bE D a x y = 0 then (bst D a.toNat x.toNat y.toNat).2 else 0

theorem bE_bad {D : List Int} {a x y : Int} (h : ¬ ((D.length : Int) ≤ 16777216 ∧ Dmn x y ∧ 0 ≤ a ∧ a < (D.length : Int))) : bE D a x y = 1 ∧ bL D a x y = 0 ∧ bD D a x y = 0 := by
  have : bE D a x y = 1 := by unfold bE; rw [if_neg h]
  exact ⟨this, by unfold bL; rw [this]; rfl, by unfold bD; rw [this]; rfl⟩
theorem bE_ok {D : List Int} {a x y : Int} (h : (D.length : Int) ≤ 16777216 ∧ Dmn x y ∧ 0 ≤ a ∧ a < (D.length : Int)) : bE D a x y = 0 ∧ bL D a x y = (bst D a.toNat x.toNat y.toNat).1 ∧ bD D a x y = (bst D a.toNat x.toNat y.toNat).2 := by
  have : bE D a x y = 0 := by unfold bE; rw [if_pos h]
  exact ⟨this, by unfold bL; rw [this]; rfl, by unfold bD; rw [this]; rfl⟩

end Go.Proofs.Ytjdgeonlbjokaaa

