import Derived.Test.YtogplagiheoaiaaRows
namespace Go.Proofs.Ytogplagiheoaiaa
set_option linter.unusedVariables false

theorem snocInd {p : List Int → Prop} (h0 : p []) (h1 : ∀ l v, p l → p (l ++ [v])) : ∀ l, p l := by
  have h : ∀ r : List Int, p r.reverse := by
    intro r
    induction r with
    | nil => simpa using h0
    | cons v r ih => rw [List.reverse_cons]; exact h1 _ _ ih
  intro l
  have := h l.reverse
  rwa [List.reverse_reverse] at this

def sab (l : List Int) : Int × Int := l.foldl (fun p v => (p.1 + v, p.2 + (p.1 + v))) (1, 0)

def sA (l : List Int) : Int := (sab l).1
def sB (l : List Int) : Int := (sab l).2

theorem sA_snoc (l : List Int) (v : Int) : sA (l ++ [v]) = sA l + v := by unfold sA sab; rw [List.foldl_append]; rfl
theorem sB_snoc (l : List Int) (v : Int) : sB (l ++ [v]) = sB l + (sA l + v) := by unfold sB sA sab; rw [List.foldl_append]; rfl
theorem sA_nil : sA [] = 1 := rfl
theorem sB_nil : sB [] = 0 := rfl

def adl (l : List Int) : Int := sB l % 65521 * 65536 + sA l % 65521

theorem adl_in (l : List Int) : 0 ≤ adl l ∧ adl l < 4294967296 ∧ adl l % 65536 = sA l % 65521 ∧ adl l / 65536 = sB l % 65521 := by
  unfold adl
  omega

theorem take_snocI (l : List Int) (k : Nat) (h : k < l.length) : l.take (k + 1) = l.take k ++ [l.getD k 0] := by
  rw [List.take_succ_eq_append_getElem h]; simp [h]

theorem sA_app (x y : List Int) : sA (x ++ y) = sA x + sA y - 1 := by
  refine snocInd (p := fun y => sA (x ++ y) = sA x + sA y - 1) ?_ ?_ y
  · rw [List.append_nil, sA_nil]; omega
  · intro y v ih
    rw [← List.append_assoc, sA_snoc, sA_snoc, ih]; omega

theorem sB_app (x y : List Int) : sB (x ++ y) = sB x + sB y + y.length * (sA x - 1) := by
  refine snocInd (p := fun y => sB (x ++ y) = sB x + sB y + y.length * (sA x - 1)) ?_ ?_ y
  · rw [List.append_nil, sB_nil]; simp
  · intro y v ih
    rw [← List.append_assoc, sB_snoc, sB_snoc, ih, sA_app, List.length_append]
    have e : ((y.length + [v].length : Nat) : Int) * (sA x - 1) = y.length * (sA x - 1) + (sA x - 1) := by
      rw [show ((y.length + [v].length : Nat) : Int) = (y.length : Int) + 1 by simp, Int.add_mul, Int.one_mul]
    rw [e]
    omega

def rA (a : Int) (r : List Int) : Int := a + (sA r - 1)
def rB (a b : Int) (r : List Int) : Int := b + sB r + r.length * (a - 1)

theorem rA_nil (a : Int) : rA a [] = a := by unfold rA; rw [sA_nil]; omega
theorem rB_nil (a b : Int) : rB a b [] = b := by unfold rB; rw [sB_nil]; simp
theorem rA_snoc (a : Int) (r : List Int) (v : Int) : rA a (r ++ [v]) = rA a r + v := by unfold rA; rw [sA_snoc]; omega
theorem rB_snoc (a b : Int) (r : List Int) (v : Int) : rB a b (r ++ [v]) = rB a b r + rA a (r ++ [v]) := by
  unfold rB rA
  rw [sB_snoc, sA_snoc, List.length_append]
  have e : ((r.length + [v].length : Nat) : Int) * (a - 1) = r.length * (a - 1) + (a - 1) := by
    rw [show ((r.length + [v].length : Nat) : Int) = (r.length : Int) + 1 by simp, Int.add_mul, Int.one_mul]
  rw [e]; omega

theorem run_small {a b : Int} {r : List Int} (hy : ∀ v ∈ r, 0 ≤ v ∧ v ≤ 255) (ha : 0 ≤ a ∧ a ≤ 65520) (hb : 0 ≤ b ∧ b ≤ 65520) :
    (0 ≤ rA a r ∧ rA a r ≤ 65520 + 255 * r.length) ∧ 0 ≤ rB a b r ∧ 2 * rB a b r ≤ 131040 + 131040 * r.length + 255 * ((r.length * (r.length + 1) : Nat) : Int) := by
  revert hy
  refine snocInd (p := fun r => (∀ v ∈ r, 0 ≤ v ∧ v ≤ 255) → (0 ≤ rA a r ∧ rA a r ≤ 65520 + 255 * r.length) ∧ 0 ≤ rB a b r ∧ 2 * rB a b r ≤ 131040 + 131040 * r.length + 255 * ((r.length * (r.length + 1) : Nat) : Int)) ?_ ?_ r
  · intro _
    rw [rA_nil, rB_nil]; simp; omega
  · intro r v ih hy
    obtain ⟨⟨h1, h2⟩, h3, h4⟩ := ih fun u hu => hy u (by simp [hu])
    obtain ⟨v1, v2⟩ := hy v (by simp)
    rw [rB_snoc, rA_snoc, List.length_append, List.length_singleton]
    have e : (r.length + 1) * (r.length + 1 + 1) = r.length * (r.length + 1) + 2 * r.length + 2 := by
      rw [Nat.mul_add, Nat.add_mul, Nat.mul_add]; omega
    rw [e]
    generalize r.length * (r.length + 1) = m at h4 ⊢
    push_cast at h2 h4 ⊢
    omega

theorem run_fits {a b : Int} {r : List Int} (hy : ∀ v ∈ r, 0 ≤ v ∧ v ≤ 255) (ha : 0 ≤ a ∧ a ≤ 65520) (hb : 0 ≤ b ∧ b ≤ 65520) (hl : r.length ≤ 5552) :
    (0 ≤ rA a r ∧ rA a r < 4294967296) ∧ 0 ≤ rB a b r ∧ rB a b r < 4294967296 := by
  obtain ⟨⟨h1, h2⟩, h3, h4⟩ := run_small hy ha hb
  have hm : r.length * (r.length + 1) ≤ 5552 * 5553 := Nat.mul_le_mul hl (by omega)
  generalize r.length * (r.length + 1) = m at h4 hm
  omega

theorem run_mod (P r : List Int) : rA (sA P % 65521) r % 65521 = sA (P ++ r) % 65521 ∧ rB (sA P % 65521) (sB P % 65521) r % 65521 = sB (P ++ r) % 65521 := by
  have e1 := Int.emod_add_mul_ediv (sA P) 65521
  have e2 := Int.emod_add_mul_ediv (sB P) 65521
  constructor
  · unfold rA; rw [sA_app]; omega
  · unfold rB; rw [sB_app]
    have e : (r.length : Int) * (sA P - 1) = r.length * (sA P % 65521 - 1) + 65521 * (r.length * (sA P / 65521)) := by
      conv => lhs; rw [← e1]
      rw [show sA P % 65521 + 65521 * (sA P / 65521) - 1 = (sA P % 65521 - 1) + 65521 * (sA P / 65521) by omega, Int.mul_add, Int.mul_left_comm]
    rw [e]
    generalize (r.length : Int) * (sA P % 65521 - 1) = u
    generalize (r.length : Int) * (sA P / 65521) = z
    omega

def jA (f s : Int) : Int := (f % 65536 + s % 65536 + 65520) % 65521
def jB (f s n : Int) : Int := (f / 65536 + s / 65536 + n * (f % 65536 + 65520)) % 65521
def jn (f s n : Int) : Int := jB f s n * 65536 + jA f s

theorem jn_app (x y : List Int) : jn (adl x) (adl y) y.length = adl (x ++ y) := by
  unfold jn jA jB
  rw [(adl_in x).2.2.1, (adl_in x).2.2.2, (adl_in y).2.2.1, (adl_in y).2.2.2]
  unfold adl
  rw [sA_app, sB_app]
  have e1 := Int.emod_add_mul_ediv (sA x) 65521
  have e : (y.length : Int) * (sA x - 1) = y.length * (sA x % 65521 + 65520) + 65521 * (y.length * (sA x / 65521 - 1)) := by
    conv => lhs; rw [← e1]
    rw [show sA x % 65521 + 65521 * (sA x / 65521) - 1 = (sA x % 65521 + 65520) + 65521 * (sA x / 65521 - 1) by omega, Int.mul_add, Int.mul_left_comm]
  rw [e]
  generalize (y.length : Int) * (sA x % 65521 + 65520) = u
  generalize (y.length : Int) * (sA x / 65521 - 1) = z
  omega

end Go.Proofs.Ytogplagiheoaiaa

