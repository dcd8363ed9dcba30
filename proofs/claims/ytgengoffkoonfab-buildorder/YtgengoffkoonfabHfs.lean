import Derived.Test.YtgengoffkoonfabHuf
namespace Go.Proofs.Ytgengoffkoonfab

/-! Huffman's joining: what the lengths are behind it. A node: its weight, and the symbols that it holds. -/

def fb : Nat → Nat
  | 0 => 1
  | 1 => 1
  | n + 2 => fb (n + 1) + fb n

theorem fb_pos (n : Nat) : 1 ≤ fb n := by
  induction n using fb.induct with
  | case1 => exact Nat.le_refl _
  | case2 => exact Nat.le_refl _
  | case3 n h1 h2 => simp only [fb]; omega

theorem fb_step (n : Nat) : fb n ≤ fb (n + 1) := by
  cases n with
  | zero => exact Nat.le_refl _
  | succ n => simp only [fb]; omega

theorem fb_mono {m n : Nat} (h : m ≤ n) : fb m ≤ fb n := by
  induction h with
  | refl => exact Nat.le_refl _
  | step _ ih => exact Nat.le_trans ih (fb_step _)

abbrev Nod := Nat × List Nat

def syms (row : List Nod) : List Nat := row.flatMap (·.2)
def fl (f len : Nat → Nat) (l : List Nat) : Nat := (l.map fun s => f s * len s).sum
def kr (len : Nat → Nat) (l : List Nat) : Nat := (l.map fun s => 2 ^ (60 - len s)).sum

/-- What holds of each node: how deep it is, and what that says of its weight and of the others'. -/
def Deep (len : Nat → Nat) (row : List Nod) (n : Nod) : Prop :=
  ∃ h, (∀ s ∈ n.2, len s ≤ h) ∧ fb (h + 1) ≤ n.1 ∧ (h ≤ 60 → kr len n.2 = 2 ^ 60) ∧ (h = 0 ∨ ∃ m, fb h ≤ m ∧ ∀ n' ∈ row, n' ≠ n → m ≤ n'.1)

structure Forest (f len : Nat → Nat) (row : List Nod) : Prop where
  nd : (syms row).Nodup
  ne : ∀ n ∈ row, n.2 ≠ []
  sum : ∀ n ∈ row, n.1 = (n.2.map f).sum
  deep : ∀ n ∈ row, Deep len row n

theorem syms_perm {r r' : List Nod} (h : r.Perm r') : (syms r).Perm (syms r') := h.flatMap_right _

theorem Forest.perm {f len : Nat → Nat} {r r' : List Nod} (h : Forest f len r) (hp : r.Perm r') : Forest f len r' := by
  refine ⟨(syms_perm hp).nodup_iff.1 h.nd, fun n hn => h.ne n (hp.symm.subset hn), fun n hn => h.sum n (hp.symm.subset hn), fun n hn => ?_⟩
  obtain ⟨d, h1, h2, h3, h4⟩ := h.deep n (hp.symm.subset hn)
  refine ⟨d, h1, h2, h3, ?_⟩
  rcases h4 with h4 | ⟨m, h5, h6⟩
  · exact .inl h4
  · exact .inr ⟨m, h5, fun n' hn' => h6 n' (hp.symm.subset hn')⟩

/-- One more for all that a node holds. -/
def bmp (len : Nat → Nat) (hs : List Nat) : Nat → Nat := fun s => if s ∈ hs then len s + 1 else len s

theorem bmp_in {len : Nat → Nat} {hs : List Nat} {s : Nat} (h : s ∈ hs) : bmp len hs s = len s + 1 := if_pos h
theorem bmp_out {len : Nat → Nat} {hs : List Nat} {s : Nat} (h : s ∉ hs) : bmp len hs s = len s := if_neg h

theorem map_sum_congr {α : Type} {f g : α → Nat} {l : List α} (h : ∀ x ∈ l, f x = g x) : (l.map f).sum = (l.map g).sum := by rw [List.map_congr_left h]

theorem fl_bmp (f len : Nat → Nat) (hs : List Nat) : fl f (bmp len hs) hs = fl f len hs + (hs.map f).sum := by
  have : fl f (bmp len hs) hs = (hs.map fun s => f s * len s + f s).sum := map_sum_congr fun s hs' => by rw [bmp_in hs', Nat.mul_add]; simp
  rw [this]
  unfold fl
  clear this
  induction hs with
  | nil => rfl
  | cons a l ih => simp only [List.map_cons, List.sum_cons, ih]; omega

theorem fl_out {f len : Nat → Nat} {hs l : List Nat} (h : ∀ s ∈ l, s ∉ hs) : fl f (bmp len hs) l = fl f len l := map_sum_congr fun s hs' => by rw [bmp_out (h s hs')]

theorem kr_out {len : Nat → Nat} {hs l : List Nat} (h : ∀ s ∈ l, s ∉ hs) : kr (bmp len hs) l = kr len l := map_sum_congr fun s hs' => by rw [bmp_out (h s hs')]

theorem kr_bmp {len : Nat → Nat} {hs : List Nat} (h : ∀ s ∈ hs, len s + 1 ≤ 60) : 2 * kr (bmp len hs) hs = kr len hs := by
  have e : kr (bmp len hs) hs = (hs.map fun s => 2 ^ (60 - (len s + 1))).sum := map_sum_congr fun s hs' => by rw [bmp_in hs']
  rw [e]
  unfold kr
  clear e
  induction hs with
  | nil => rfl
  | cons a l ih =>
    have h1 := ih fun s hs => h s (by simp [hs])
    have h2 := h a (by simp)
    simp only [List.map_cons, List.sum_cons]
    have : 2 ^ (60 - len a) = 2 * 2 ^ (60 - (len a + 1)) := by rw [show 60 - len a = (60 - (len a + 1)) + 1 by omega, Nat.pow_succ, Nat.mul_comm]
    omega

/-- THE STEP: the two lightest are joined. -/
theorem Forest.join {f len : Nat → Nat} {x y : Nod} {rest : List Nod} {hs : List Nat} (F : Forest f len (x :: y :: rest)) (hxy : x.1 ≤ y.1) (hr : ∀ r ∈ rest, y.1 ≤ r.1) (hh : hs.Perm (x.2 ++ y.2)) : Forest f (bmp len hs) ((x.1 + y.1, hs) :: rest) := by
  have hnd := F.nd
  have hs1 : syms (x :: y :: rest) = x.2 ++ (y.2 ++ syms rest) := by simp [syms]
  rw [hs1, ← List.append_assoc] at hnd
  have hnd2 : (hs ++ syms rest).Nodup := ((hh.append_right (syms rest)).nodup_iff).2 hnd
  obtain ⟨d1, d2, d3⟩ := List.nodup_append.1 hnd2
  have hmem : ∀ s, s ∈ hs ↔ s ∈ x.2 ∨ s ∈ y.2 := fun s => by rw [hh.mem_iff, List.mem_append]
  have hrs : ∀ n ∈ rest, ∀ s ∈ n.2, s ∉ hs := fun n hn s hs' hm => d3 s hm s (List.mem_flatMap.2 ⟨n, hn, hs'⟩) rfl
  obtain ⟨hx, Dx1, Dx2, Dx3, Dx4⟩ := F.deep x (by simp)
  obtain ⟨hy, Dy1, Dy2, Dy3, Dy4⟩ := F.deep y (by simp)
  have nx := F.ne x (by simp)
  have ny := F.ne y (by simp)
  have hne : x ≠ y := fun e => by
    obtain ⟨s, hs'⟩ := List.exists_mem_of_ne_nil _ nx
    have h0 := (List.nodup_append.1 (List.nodup_append.1 hnd).1).2.2 s hs' s (by rw [← e]; exact hs') 
    exact h0 rfl
  have hrx : ∀ n ∈ rest, n ≠ x := fun n hn e => by
    obtain ⟨s, hs'⟩ := List.exists_mem_of_ne_nil _ nx
    exact hrs n hn s (by rw [e]; exact hs') ((hmem s).2 (.inl hs'))
  have hsum : (hs.map f).sum = x.1 + y.1 := by
    rw [perm_sum f hh, List.map_append, List.sum_append, ← F.sum x (by simp), ← F.sum y (by simp)]
  refine ⟨by simpa [syms] using hnd2, ?_, ?_, ?_⟩
  · intro n hn
    rcases List.mem_cons.1 hn with rfl | hn
    · intro e
      have : hs = [] := e
      rw [this] at hh
      have := hh.length_eq
      simp at this
      exact nx (List.eq_nil_of_length_eq_zero (by omega))
    · exact F.ne n (by simp [hn])
  · intro n hn
    rcases List.mem_cons.1 hn with rfl | hn
    · exact hsum.symm
    · exact F.sum n (by simp [hn])
  · intro n hn
    rcases List.mem_cons.1 hn with rfl | hn
    · refine ⟨max hx hy + 1, ?_, ?_, ?_, .inr ⟨y.1, ?_, ?_⟩⟩
      · intro s hs'
        rw [bmp_in hs']
        rcases (hmem s).1 hs' with h | h
        · have := Dx1 s h; omega
        · have := Dy1 s h; omega
      · show fb (max hx hy + 1 + 1) ≤ x.1 + y.1
        simp only [fb]
        by_cases c : hy ≤ hx
        · rw [Nat.max_eq_left c]
          rcases Dx4 with h0 | ⟨m, m1, m2⟩
          · subst h0
            have e0 : fb (0 + 1) = 1 := rfl
            have e1 : fb 0 = 1 := rfl
            have := fb_pos (hy + 1)
            omega
          · have := m2 y (by simp) (fun e => hne e.symm)
            omega
        · rw [Nat.max_eq_right (by omega)]
          rcases Dy4 with h0 | ⟨m, m1, m2⟩
          · omega
          · have := m2 x (by simp) hne
            omega
      · intro hm
        have h1 : kr len hs = kr len x.2 + kr len y.2 := by
          unfold kr
          rw [perm_sum _ hh, List.map_append, List.sum_append]
        have h2 := kr_bmp (len := len) (hs := hs) (fun s hs' => by
          rcases (hmem s).1 hs' with h | h
          · have := Dx1 s h; omega
          · have := Dy1 s h; omega)
        rw [h1, Dx3 (by omega), Dy3 (by omega)] at h2
        show kr (bmp len hs) hs = 2 ^ 60
        omega
      · by_cases c : hy ≤ hx
        · rw [Nat.max_eq_left c]; omega
        · rw [Nat.max_eq_right (by omega)]; exact Dy2
      · intro n' hn' hne'
        rcases List.mem_cons.1 hn' with rfl | hn'
        · exact absurd rfl hne'
        · exact hr n' hn'
    · obtain ⟨h, D1, D2, D3, D4⟩ := F.deep n (by simp [hn])
      refine ⟨h, fun s hs' => by rw [bmp_out (hrs n hn s hs')]; exact D1 s hs', D2, fun h6 => by rw [kr_out (hrs n hn)]; exact D3 h6, ?_⟩
      rcases D4 with h0 | ⟨m, m1, m2⟩
      · exact .inl h0
      · refine .inr ⟨m, m1, fun n' hn' hne' => ?_⟩
        rcases List.mem_cons.1 hn' with rfl | hn'
        · have := m2 x (by simp) (fun e => hrx n hn e.symm)
          show m ≤ x.1 + y.1
          omega
        · exact m2 n' (by simp [hn']) hne'

/-- Joined to the end. -/
inductive Done : List Nod → (Nat → Nat) → (Nat → Nat) → Prop
  | one (n : Nod) (len : Nat → Nat) : Done [n] len len
  | join {row row2 : List Nod} {len len' : Nat → Nat} (x y : Nod) (rest : List Nod) (hs : List Nat) : row.Perm (x :: y :: rest) → x.1 ≤ y.1 → (∀ r ∈ rest, y.1 ≤ r.1) → hs.Perm (x.2 ++ y.2) → row2.Perm ((x.1 + y.1, hs) :: rest) → Done row2 (bmp len hs) len' → Done row len len'

theorem Huff.perm {ws vs : List Nat} {c : Nat} (h : Huff ws c) (hp : ws.Perm vs) : Huff vs c := by
  cases h with
  | one w =>
    have : vs = [w] := List.perm_singleton.1 hp.symm
    subst this
    exact .one w
  | join a b rest c h1 h2 h3 h4 => exact .join a b rest c (hp.symm.trans h1) h2 h3 h4

theorem done_all {f : Nat → Nat} {row : List Nod} {len len' : Nat → Nat} (h : Done row len len') (F : Forest f len row) (hT : (row.map (·.1)).sum < fb 61) :
    kr len' (syms row) = 2 ^ 60 ∧ (∀ s ∈ syms row, len' s ≤ 59) ∧ (∀ s, s ∉ syms row → len' s = len s) ∧ ∃ c, Huff (row.map (·.1)) c ∧ fl f len' (syms row) = fl f len (syms row) + c := by
  induction h with
  | one n len =>
    obtain ⟨d, h1, h2, h3, _⟩ := F.deep n (by simp)
    have hd : d ≤ 59 := by
      apply Classical.byContradiction
      intro c
      have := fb_mono (show 61 ≤ d + 1 by omega)
      simp at hT
      omega
    have e : syms [n] = n.2 := by simp [syms]
    rw [e]
    exact ⟨h3 (by omega), fun s hs => Nat.le_trans (h1 s hs) hd, fun _ _ => rfl, 0, by simpa using Huff.one n.1, by omega⟩
  | @join row row2 len len' x y rest hs p1 hxy hr hh p2 _ ih =>
    have F1 := F.perm p1
    have F2 := (F1.join hxy hr hh).perm p2.symm
    have e1 : (row2.map (·.1)).sum = (row.map (·.1)).sum := by
      rw [perm_sum _ p2, perm_sum _ p1]
      simp
      omega
    obtain ⟨i1, i2, i3, c, i4, i5⟩ := ih F2 (by rw [e1]; exact hT)
    have ps : (syms row2).Perm (syms row) := by
      refine (syms_perm p2).trans (List.Perm.trans ?_ (syms_perm p1).symm)
      simp only [syms, List.flatMap_cons]
      rw [← List.append_assoc]
      exact hh.append_right _
    refine ⟨by unfold kr at i1 ⊢; rw [← perm_sum _ ps]; exact i1, fun s hs' => i2 s (ps.symm.subset hs'), fun s hs' => ?_, c + (x.1 + y.1), ?_, ?_⟩
    · rw [i3 s (fun h => hs' (ps.subset h)), bmp_out]
      intro h
      apply hs'
      refine (syms_perm p1).symm.subset ?_
      simp only [syms, List.flatMap_cons, List.mem_append]
      rcases List.mem_append.1 (hh.subset h) with h | h
      · exact .inl h
      · exact .inr (.inl h)
    · refine .join x.1 y.1 (rest.map (·.1)) c ?_ hxy ?_ (i4.perm ?_)
      · simpa using p1.map (·.1)
      · intro z hz
        obtain ⟨r, hr', rfl⟩ := List.mem_map.1 hz
        exact hr r hr'
      · simpa using p2.map (·.1)
    · have q1 : fl f len' (syms row) = fl f len' (syms row2) := (perm_sum _ ps).symm
      have q2 : fl f (bmp len hs) (syms row2) = fl f (bmp len hs) (hs ++ syms rest) := by
        refine perm_sum _ ?_
        simpa [syms] using syms_perm p2
      have q3 : fl f len (syms row) = fl f len (hs ++ syms rest) := by
        refine perm_sum _ ((syms_perm p1).trans ?_)
        simp only [syms, List.flatMap_cons]
        rw [← List.append_assoc]
        exact (hh.append_right _).symm
      have hnd := F2.nd
      have hnd2 : (hs ++ syms rest).Nodup := by
        have := (syms_perm p2).nodup_iff.1 hnd
        simpa [syms] using this
      have q4 : fl f (bmp len hs) (hs ++ syms rest) = fl f len (hs ++ syms rest) + (x.1 + y.1) := by
        have e2 : ∀ l : Nat → Nat, fl f l (hs ++ syms rest) = fl f l hs + fl f l (syms rest) := fun l => by unfold fl; rw [List.map_append, List.sum_append]
        rw [e2, e2, fl_bmp, fl_out (fun s hs' hm => (List.nodup_append.1 hnd2).2.2 s hm s hs' rfl)]
        have : (hs.map f).sum = x.1 + y.1 := by
          rw [perm_sum f hh, List.map_append, List.sum_append, ← F1.sum x (by simp), ← F1.sum y (by simp)]
        omega
      omega
end Go.Proofs.Ytgengoffkoonfab
