import Derived.Test.YtlidmhdcikcpkaaRows
namespace Go.Proofs.Ytlidmhdcikcpkaa
set_option linter.unusedVariables false

/-! Writes in numbers: where each begins, and how many bytes it has. -/
abbrev Wn := Int × Nat
def rgt (size : Int) : List Wn → Int → Bool
  | [], _ => true
  | p :: r, e => if p.2 = 0 ∨ p.1 < e ∨ size - (p.2 : Int) < p.1 then false else rgt size r (p.1 + p.2)
def svd1 (old : Int) (p : Wn) : List (Int × Int) := if p.1 < old then [(p.1, min (p.1 + p.2) old)] else []
def svd (old : Int) (P : List Wn) : List (Int × Int) := P.flatMap (svd1 old)
def dif : List (Int × Int) → Int
  | [] => 0
  | s :: r => s.2 - s.1 + dif r
def bdy (S : List (Int × Int)) : Int := 8 * (S.length : Int) + dif S
def upN (n : Int) : Int := (n + 511) / 512 * 512
def seN (f : Int) : Int := f / 512 * 512 - 512
def filN (old size len : Int) : Int :=
  if 0 < upN (max old size) + upN len - seN (old + 1024) then old + 1024 + (upN (max old size) + upN len - seN (old + 1024) + 1023) / 1024 * 1024 else old + 1024
def domN (n : Int) : Prop := 0 ≤ n ∧ n ≤ 16777216
instance (n : Int) : Decidable (domN n) := by unfold domN; infer_instance
def ndE (old size : Int) (P : List Wn) : Int := if ¬ domN old ∨ ¬ domN size then 1 else if rgt size P 0 = false then 143 else 0
def ndN (old size : Int) (P : List Wn) : Int := if ndE old size P = 0 then filN old size (bdy (svd old P)) else 0

theorem svd_app (old : Int) (P Q : List Wn) : svd old (P ++ Q) = svd old P ++ svd old Q := by simp [svd]
theorem dif_app : ∀ (S T : List (Int × Int)), dif (S ++ T) = dif S + dif T
  | [], T => by simp [dif]
  | s :: r, T => by
    have := dif_app r T
    simp only [List.cons_append, dif]
    omega
theorem bdy_app (S T : List (Int × Int)) : bdy (S ++ T) = bdy S + bdy T := by
  unfold bdy
  rw [dif_app, List.length_append]
  omega
def wn0 : Wn := (0, 0)
theorem take_get {α : Type} (d : α) {P : List α} {k : Nat} (h : k < P.length) : P.take (k + 1) = P.take k ++ [P.getD k d] := by
  rw [List.take_succ_eq_append_getElem h]
  simp [List.getD, h]
theorem drop_get {α : Type} (d : α) {P : List α} {k : Nat} (h : k < P.length) : P.drop k = P.getD k d :: P.drop (k + 1) := by
  rw [List.drop_eq_getElem_cons h]
  simp [List.getD, h]
theorem svd_take {old : Int} {P : List Wn} {k : Nat} (h : k < P.length) : svd old (P.take (k + 1)) = svd old (P.take k) ++ svd1 old (P.getD k wn0) := by
  rw [take_get wn0 h, svd_app]
  simp [svd]
/-- What right writes are. -/
theorem rgt_in {size : Int} : ∀ (P : List Wn) (e : Int), rgt size P e = true → 0 ≤ e → ∀ p ∈ P, e ≤ p.1 ∧ 0 < p.2 ∧ p.1 + (p.2 : Int) ≤ size
  | [], e, h, h0, p, hp => by cases hp
  | q :: r, e, h, h0, p, hp => by
    unfold rgt at h
    split at h
    · cases h
    · rename_i hn
      rcases List.mem_cons.1 hp with rfl | hp
      · omega
      · have := rgt_in r (q.1 + q.2) h (by omega) p hp
        omega
/-- There are no more right writes than the size has bytes. -/
theorem rgt_len {size : Int} : ∀ (P : List Wn) (e : Int), rgt size P e = true → e ≤ size → (P.length : Int) ≤ size - e
  | [], e, h, h0 => by simp; omega
  | q :: r, e, h, h0 => by
    unfold rgt at h
    split at h
    · cases h
    · rename_i hn
      have := rgt_len r (q.1 + q.2) h (by omega)
      rw [List.length_cons]
      omega
theorem rgt_few {size : Int} {P : List Wn} (h : rgt size P 0 = true) (hs : domN size) : P.length ≤ 16777216 := by
  have := rgt_len P 0 h hs.1
  have := hs.2
  omega
/-- The saved spans lie within the size. -/
theorem svd_in {old size : Int} {P : List Wn} (h : rgt size P 0 = true) : ∀ s ∈ svd old P, 0 ≤ s.1 ∧ s.1 < s.2 ∧ s.2 ≤ size ∧ s.2 ≤ old := by
  intro s hs
  unfold svd at hs
  obtain ⟨p, hp, hq⟩ := List.mem_flatMap.1 hs
  have := rgt_in P 0 h (by omega) p hp
  unfold svd1 at hq
  split at hq
  · simp only [List.mem_singleton] at hq
    subst hq
    simp only
    omega
  · cases hq
theorem svd_len (old : Int) (P : List Wn) : (svd old P).length ≤ P.length := by
  induction P with
  | nil => simp [svd]
  | cons p r ih =>
    have e : svd old (p :: r) = svd1 old p ++ svd old r := by simp [svd]
    rw [e, List.length_append, List.length_cons]
    have : (svd1 old p).length ≤ 1 := by unfold svd1; split <;> simp
    omega
theorem dif_le {M : Int} : ∀ (S : List (Int × Int)), (∀ s ∈ S, 0 ≤ s.1 ∧ s.1 ≤ s.2 ∧ s.2 ≤ M) → 0 ≤ dif S ∧ dif S ≤ M * (S.length : Int)
  | [], _ => by simp [dif]
  | s :: r, h => by
    have h1 := h s (List.mem_cons_self ..)
    have h2 := dif_le r (fun x hx => h x (List.mem_cons_of_mem _ hx))
    simp only [dif, List.length_cons]
    have e : M * ((r.length + 1 : Nat) : Int) = M * (r.length : Int) + M := by rw [Int.natCast_add, Int.mul_add]; simp
    rw [e]
    omega
theorem bdy_in {old size : Int} {P : List Wn} (h : rgt size P 0 = true) (hs : domN size) : 0 ≤ bdy (svd old P) ∧ bdy (svd old P) ≤ 281475110928384 := by
  have h1 := dif_le (M := 16777216) (svd old P) (fun s hs' => by have := svd_in h s hs'; unfold domN at hs; omega)
  have h2 := svd_len old P
  have hl := rgt_few h hs
  unfold bdy
  omega
/-- What the statement says of the file. -/
theorem fil_bound {old size len : Int} (ho : domN old) (hs : domN size) (hl : 0 ≤ len) : max old size + len + 512 ≤ filN old size len ∧ filN old size len ≤ max old size + len + 2557 ∧ old < filN old size len ∧ (filN old size len - old) % 1024 = 0 := by
  unfold domN at ho hs
  unfold filN upN seN
  split <;> omega
theorem fil_in {old size len : Int} (ho : domN old) (hs : domN size) (hl : 0 ≤ len) (hm : len ≤ 281475110928384) : 0 ≤ filN old size len ∧ filN old size len ≤ 281475144483328 := by
  have := fil_bound ho hs hl
  unfold domN at ho hs
  omega
end Go.Proofs.Ytlidmhdcikcpkaa

