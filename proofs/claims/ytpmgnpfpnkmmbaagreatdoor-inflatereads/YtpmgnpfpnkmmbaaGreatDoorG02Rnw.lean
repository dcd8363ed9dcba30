import Derived.Test.YtpmgnpfpnkmmbaaGreatDoorG01Arr
import Derived.Test.YtpmgnpfpnkmmbaaGreatDoorG00App
import Derived.Test.YtpmgnpfpnkmmbaaGreatDoorRows
namespace Go.Proofs.YtpmgnpfpnkmmbaaGreatDoor
open Go.RowKit Go.Maps
set_option maxRecDepth 20000

theorem OI.get {w : World} {base : Nat} {v : Value} {l : List Int} (h : OI w base v l) {b : Nat} (hv : v.ownBlock = some b) {i : Nat} (hi : i < l.length) : w.cell? ⟨b, i, none⟩ = some (.int .i64 (l.getD i 0)) := by
  rcases h.2 with ⟨rfl, h0⟩ | ⟨g, cap, cur, rfl, h1, h2, h3, h4, h5, h6⟩
  · simp [Value.ownBlock] at hv
  · simp [Value.ownBlock] at hv
    subst hv
    have := World.ownsRow.cells h (g := g) rfl i (.int .i64 (l.getD i 0)) (by simp [hi])
    rwa [Addr.add_lit, Nat.zero_add] at this

theorem OI.put {w : World} {B : Nat} {v : Value} {l : List Int} (h : OI w B v l) {k : Nat} (hk : k < l.length) (m : Int) :
    ∃ g c, v = .slice (some ⟨g, 0, none⟩) l.length c ∧ (∃ u, w.cell? ⟨g, k, none⟩ = some u) ∧ w.frozen? ⟨g, k, none⟩ = false ∧ OI (w.setCell ⟨g, k, none⟩ (.int .i64 m)) B v (l.set k m) := by
  rcases h.2 with ⟨hv, h0⟩ | ⟨g, cap, cur, rfl, h1, h2, h3, h4, h5, h6⟩
  · omega
  · refine ⟨g, cap, rfl, ⟨_, h.get rfl hk⟩, frozen_of_row _ _ _ _ _ h2, ?_⟩
    unfold OI
    rw [List.length_set, List.map_set]
    refine ⟨by simp, .inr ⟨g, cap, _, rfl, h1, heap_setCell_same _ _ _ _ _ _ h2, h3, h4, by simpa using h5, ?_⟩⟩
    simp only [Array.toList_setIfInBounds, List.take_set]
    rw [h6]

theorem OI.form {w : World} {base : Nat} {v : Value} {l : List Int} (h : OI w base v l) (h0 : 0 < l.length) : ∃ g c, v = .slice (some ⟨g, 0, none⟩) l.length c ∧ base ≤ g ∧ g < w.heap.size ∧ l.length ≤ c ∧ c ≤ 9223372036854775807 := by
  rcases h.2 with ⟨hv, hz⟩ | ⟨g, cap, cur, rfl, h1, h2, h3, h4, h5, h6⟩
  · omega
  · unfold maxLen at h4
    exact ⟨g, cap, rfl, h1, (h.lt g rfl).2, h3, by omega⟩

/-- A list that lies in more than it says. -/
theorem OI.front {w : World} {base g c : Nat} {l r : List Int} (h : OI w base (.slice (some ⟨g, 0, none⟩) (l ++ r).length c) (l ++ r)) : SI w (.slice (some ⟨g, 0, none⟩) l.length c) l := by
  obtain ⟨ao', cap', he, h1, h2, h3, h4⟩ := h.sb
  simp only [Value.slice.injEq] at he
  obtain ⟨rfl, -, rfl⟩ := he
  rw [List.length_append] at h1
  refine ⟨_, c, rfl, by omega, h2, h3, fun x hx i hi => ?_⟩
  rw [h4 x hx i (by rw [List.length_append]; omega)]
  simp only [List.getD, List.getElem?_append_left hi]

end Go.Proofs.YtpmgnpfpnkmmbaaGreatDoor

namespace Go.Proofs.YtpmgnpfpnkmmbaaGreatDoor
open Go.RowKit Go.Maps
set_option maxRecDepth 20000
set_option linter.unusedVariables false

def Spare (w : World) (v : Value) (n : Nat) : Prop := ∃ g, v = .slice (some ⟨g, 0, none⟩) n (n + 9) ∧ ∀ j, j < 9 → w.cell? ⟨g, n + j, none⟩ = some (.int .i64 165)

theorem cell_at {w : World} {g : Nat} {L : List Value} {t : TypeId} {fr : Nat × Nat} (h : w.heap[g]? = some (.cells L.toArray t fr)) (i : Nat) : w.cell? ⟨g, i, none⟩ = L[i]? := by
  simp [World.cell?, h]

theorem room_at (A : List Value) (k n : Nat) (x z : Value) (h : k < n) : (A ++ List.replicate k x ++ List.replicate (n - k) z)[A.length + k]? = some z := by
  rw [List.getElem?_append_right (by simp), List.getElem?_replicate, if_pos (by simp; omega)]

theorem room_set (A : List Value) (k n : Nat) (x z : Value) (h : k < n) : (A ++ List.replicate k x ++ List.replicate (n - k) z).set (A.length + k) x = A ++ List.replicate (k + 1) x ++ List.replicate (n - (k + 1)) z := by
  obtain ⟨r, hr⟩ : ∃ r, n - k = r + 1 := ⟨n - k - 1, by omega⟩
  have e : A.length + k - (A ++ List.replicate k x).length = 0 := by simp
  rw [List.set_append_right _ _ (by simp), hr, show n - (k + 1) = r by omega, List.replicate_succ' (n := k), e, List.replicate_succ (n := r), List.set_cons_zero, ← List.append_assoc, List.append_assoc (A ++ List.replicate k x)]
  rfl

theorem room_end (A : List Value) (n j : Nat) (x z : Value) (h : j < n) : (A ++ List.replicate n x ++ List.replicate (n - n) z)[A.length + j]? = some x := by
  rw [List.append_assoc, List.getElem?_append_right (by omega), List.getElem?_append_left (by simp; omega), List.getElem?_replicate, if_pos (by omega)]

end Go.Proofs.YtpmgnpfpnkmmbaaGreatDoor

namespace Go.Proofs.YtpmgnpfpnkmmbaaGreatDoor
set_option linter.unusedVariables false

/-- A run: its Sym and its Count. -/
abbrev Rn := Int × Int

/-- How many of the first lengths are v. -/
def eqn (v : Int) : List Int → Nat
  | [] => 0
  | x :: r => if x = v then eqn v r + 1 else 0

theorem eqn_le (v : Int) (l : List Int) : eqn v l ≤ l.length := by
  induction l with
  | nil => exact Nat.le_refl _
  | cons x r ih => simp only [eqn, List.length_cons]; split <;> omega

theorem eqn_take {v : Int} {l : List Int} {c : Nat} (h : c ≤ eqn v l) : l.take c = List.replicate c v := by
  induction l generalizing c with
  | nil => simp only [eqn] at h; have : c = 0 := by omega
           subst this; rfl
  | cons x r ih =>
    cases c with
    | zero => rfl
    | succ c =>
      simp only [eqn] at h
      by_cases e : x = v
      · rw [if_pos e] at h
        rw [List.take_succ_cons, ih (by omega), List.replicate_succ, e]
      · rw [if_neg e] at h; omega

theorem eqn_min (v : Int) (l : List Int) (m : Nat) : eqn v (l.take m) = min (eqn v l) m := by
  induction l generalizing m with
  | nil => simp [eqn]
  | cons x r ih =>
    cases m with
    | zero => simp [eqn]
    | succ m =>
      rw [List.take_succ_cons]
      simp only [eqn]
      by_cases e : x = v
      · rw [if_pos e, if_pos e, ih]; omega
      · rw [if_neg e, if_neg e]; omega

theorem eqn_go {v : Int} {l : List Int} {k : Nat} (h : k ≤ eqn v l) (hk : k < l.length) : (l.getD k 0 = v → k + 1 ≤ eqn v l) ∧ (l.getD k 0 ≠ v → eqn v l = k) := by
  induction l generalizing k with
  | nil => simp at hk
  | cons x r ih =>
    simp only [eqn] at h ⊢
    cases k with
    | zero =>
      refine ⟨fun e => ?_, fun e => ?_⟩
      · have e' : x = v := e
        rw [if_pos e']; omega
      · have e' : ¬ x = v := e
        rw [if_neg e']
    | succ k =>
      by_cases e : x = v
      · rw [if_pos e] at h ⊢
        obtain ⟨i1, i2⟩ := ih (k := k) (by omega) (by simpa using hk)
        refine ⟨fun q => ?_, fun q => ?_⟩
        · have := i1 (by simpa using q); omega
        · have := i2 (by simpa using q); omega
      · rw [if_neg e] at h; omega

theorem eqn_end {v : Int} {l : List Int} (h : l.length ≤ eqn v l) : eqn v l = l.length := Nat.le_antisymm (eqn_le v l) h

theorem eqn_pos {v : Int} {l : List Int} {k : Nat} (hk : k < l.length) (h : 1 ≤ eqn v (l.drop k)) : l.getD k 0 = v := by
  have e : l.drop k = l[k] :: l.drop (k + 1) := List.drop_eq_getElem_cons hk
  rw [e] at h
  simp only [eqn] at h
  rw [show l.getD k 0 = l[k] by simp [hk]]
  by_cases q : l[k] = v
  · exact q
  · rw [if_neg q] at h; omega

theorem eqn_self {l : List Int} {k : Nat} (hk : k < l.length) : 1 ≤ eqn (l.getD k 0) (l.drop k) := by
  have e : l.drop k = l[k] :: l.drop (k + 1) := List.drop_eq_getElem_cons hk
  rw [e, show l.getD k 0 = l[k] by simp [hk]]
  simp only [eqn]
  rw [if_pos trivial]; omega

/-- The run that begins at a place. -/
def run1 (l : List Int) (k : Nat) : Rn :=
  if l.getD k 0 = 0 ∧ 11 ≤ eqn 0 (l.drop k) then (18, (min (eqn 0 (l.drop k)) 138 : Nat))
  else if l.getD k 0 = 0 ∧ 3 ≤ eqn 0 (l.drop k) then (17, (eqn 0 (l.drop k) : Nat))
  else if l.getD k 0 ≠ 0 ∧ 0 < k ∧ l.getD (k - 1) 0 = l.getD k 0 ∧ 3 ≤ eqn (l.getD k 0) (l.drop k) then (16, (min (eqn (l.getD k 0) (l.drop k)) 6 : Nat))
  else (l.getD k 0, 1)

/-- The same, as the program finds it. -/
def n18 (l : List Int) (k : Nat) : Nat := min (eqn 0 (l.drop k)) 138
def n17 (l : List Int) (k : Nat) : Nat := min (eqn 0 (l.drop k)) 10
def n16 (l : List Int) (k : Nat) : Nat := if k = 0 then 0 else min (eqn (l.getD (k - 1) 0) (l.drop k)) 6

theorem run_pick {l : List Int} {k : Nat} (hk : k < l.length) :
    (11 ≤ n18 l k → run1 l k = (18, (n18 l k : Int))) ∧ (n18 l k < 11 → 3 ≤ n17 l k → run1 l k = (17, (n17 l k : Int))) ∧
    (n18 l k < 11 → n17 l k < 3 → 3 ≤ n16 l k → run1 l k = (16, (n16 l k : Int))) ∧ (n18 l k < 11 → n17 l k < 3 → n16 l k < 3 → run1 l k = (l.getD k 0, 1)) := by
  have z : 1 ≤ eqn 0 (l.drop k) → l.getD k 0 = 0 := eqn_pos hk
  have hs := eqn_self hk
  unfold n18 n17
  refine ⟨fun h => ?_, fun h1 h2 => ?_, fun h1 h2 h3 => ?_, fun h1 h2 h3 => ?_⟩
  · have := z (by omega)
    unfold run1
    rw [if_pos ⟨this, by omega⟩]
  · have := z (by omega)
    unfold run1
    rw [if_neg (by omega), if_pos ⟨this, by omega⟩, show min (eqn 0 (l.drop k)) 10 = eqn 0 (l.drop k) by omega]
  · unfold n16 at h3 ⊢
    by_cases hz : k = 0
    · rw [if_pos hz] at h3; omega
    · rw [if_neg hz] at h3 ⊢
      have e : l.getD k 0 = l.getD (k - 1) 0 := eqn_pos hk (by omega)
      have nz : l.getD k 0 ≠ 0 := by
        intro q
        rw [← e, q] at h3
        omega
      unfold run1
      rw [if_neg (by omega), if_neg (by omega), if_pos ⟨nz, by omega, e.symm, by rw [e]; omega⟩, e]
  · unfold run1
    rw [if_neg (by omega), if_neg (by omega), if_neg]
    rintro ⟨_, g1, g2, g3⟩
    unfold n16 at h3
    rw [if_neg (by omega), g2] at h3
    omega

theorem run1_cnt {l : List Int} {k : Nat} (hk : k < l.length) : ∃ c : Nat, (run1 l k).2 = c ∧ 1 ≤ c ∧ k + c ≤ l.length ∧ c ≤ 138 := by
  have h1 := eqn_le 0 (l.drop k)
  have h2 := eqn_le (l.getD k 0) (l.drop k)
  rw [List.length_drop] at h1 h2
  unfold run1
  split
  · exact ⟨_, rfl, by omega, by omega, by omega⟩
  · split
    · exact ⟨_, rfl, by omega, by omega, by omega⟩
    · split
      · exact ⟨_, rfl, by omega, by omega, by omega⟩
      · exact ⟨1, rfl, by omega, by omega, by omega⟩

def rnN (l : List Int) : Nat → Nat → List Rn
  | 0, _ => []
  | f + 1, k => if k < l.length then run1 l k :: rnN l f (k + (run1 l k).2.toNat) else []

def rns (l : List Int) : List Rn := rnN l l.length 0

theorem rnN_more (l : List Int) : ∀ f g k, l.length - k ≤ f → l.length - k ≤ g → rnN l f k = rnN l g k
  | 0, 0, _, _, _ => rfl
  | 0, g + 1, k, h, _ => by simp only [rnN]; rw [if_neg (by omega)]
  | f + 1, 0, k, _, h => by simp only [rnN]; rw [if_neg (by omega)]
  | f + 1, g + 1, k, h1, h2 => by
    simp only [rnN]
    by_cases hk : k < l.length
    · rw [if_pos hk, if_pos hk]
      obtain ⟨c, e, c1, c2, _⟩ := run1_cnt hk
      rw [e]
      simp only [Int.toNat_natCast]
      rw [rnN_more l f g (k + c) (by omega) (by omega)]
    · rw [if_neg hk, if_neg hk]

/-- What is left of the runs at a place. -/
def rnK (l : List Int) (k : Nat) : List Rn := rnN l (l.length - k) k

theorem rnK_zero (l : List Int) : rnK l 0 = rns l := rfl
theorem rnK_step {l : List Int} {k c : Nat} (hk : k < l.length) (hc : (run1 l k).2 = (c : Int)) : rnK l k = run1 l k :: rnK l (k + c) := by
  obtain ⟨c', e, c1, c2, _⟩ := run1_cnt hk
  have : c = c' := by rw [hc] at e; exact_mod_cast e
  subst this
  unfold rnK
  rw [show l.length - k = (l.length - k - 1) + 1 by omega]
  simp only [rnN]
  rw [if_pos hk, hc]
  simp only [Int.toNat_natCast]
  rw [rnN_more l (l.length - k - 1) (l.length - (k + c)) (k + c) (by omega) (Nat.le_refl _)]
theorem rnK_end {l : List Int} {k : Nat} (hk : l.length ≤ k) : rnK l k = [] := by
  unfold rnK
  rw [show l.length - k = 0 by omega]
  rfl

theorem rnN_len (l : List Int) : ∀ f k, (rnN l f k).length ≤ f
  | 0, _ => Nat.le_refl _
  | f + 1, k => by
    simp only [rnN]
    split
    · rw [List.length_cons]; have := rnN_len l f (k + (run1 l k).2.toNat); omega
    · simp

theorem rns_len (l : List Int) : (rns l).length ≤ l.length := rnN_len l l.length 0

/-- The least and the greatest Count of a Sym, and how many bits stand behind its word. -/
def lst (s : Int) : Int := if s < 16 then 1 else if s < 18 then 3 else 11
def frt (s : Int) : Nat := if s < 16 then 0 else if s = 16 then 2 else if s = 17 then 3 else 7
def mst (s : Int) : Int := if s < 16 then 1 else if s = 16 then 6 else if s = 17 then 10 else 138
def Okr (r : Rn) : Prop := 0 ≤ r.1 ∧ r.1 ≤ 18 ∧ lst r.1 ≤ r.2 ∧ r.2 ≤ mst r.1
instance (r : Rn) : Decidable (Okr r) := by unfold Okr; infer_instance

/-- Which length a run of the Sym stands for. -/
def mnt (s : Int) (a : List Int) : Int := if s < 16 then s else if s = 16 then a.getD (a.length - 1) 0 else 0
def lay (a : List Int) (r : Rn) : List Int := a ++ List.replicate r.2.toNat (mnt r.1 a)
def lays (a : List Int) (rs : List Rn) : List Int := rs.foldl lay a

def xpE (a : List Int) : List Rn → Int
  | [] => 0
  | r :: rs => if Okr r then if r.1 = 16 ∧ a = [] then 73 else xpE (lay a r) rs else 77

/-- What Expand answers. -/
def xpL (rs : List Rn) : List Int := if xpE [] rs = 0 then lays [] rs else []

theorem lay_len (a : List Int) (r : Rn) : (lay a r).length = a.length + r.2.toNat := by simp [lay]
theorem lays_snoc (a : List Int) (rs : List Rn) (r : Rn) : lays a (rs ++ [r]) = lay (lays a rs) r := by simp [lays]

theorem run1_ok {l : List Int} {k : Nat} (hk : k < l.length) (hl : ∀ x ∈ l, 0 ≤ x ∧ x ≤ 15) : Okr (run1 l k) ∧ ((run1 l k).1 = 16 → 0 < k) := by
  have hm := hl (l.getD k 0) (by rw [show l.getD k 0 = l[k] by simp [hk]]; exact List.getElem_mem hk)
  unfold run1
  split
  · refine ⟨⟨by show (0 : Int) ≤ _; simp only; omega, by simp only; omega, ?_, ?_⟩, fun h => by simp at h⟩
    · show lst 18 ≤ _
      unfold lst; simp; omega
    · show _ ≤ mst 18
      unfold mst; simp; omega
  · split
    · refine ⟨⟨by show (0 : Int) ≤ _; simp only; omega, by simp only; omega, ?_, ?_⟩, fun h => by simp at h⟩
      · show lst 17 ≤ _
        unfold lst; simp; omega
      · show _ ≤ mst 17
        unfold mst; simp; omega
    · split
      · rename_i h
        refine ⟨⟨by show (0 : Int) ≤ _; simp only; omega, by simp only; omega, ?_, ?_⟩, fun _ => h.2.1⟩
        · show lst 16 ≤ _
          rw [show lst 16 = 3 from rfl]; simp only; omega
        · show _ ≤ mst 16
          rw [show mst 16 = 6 from rfl]; simp only; omega
      · refine ⟨⟨hm.1, by simp only; omega, ?_, ?_⟩, fun h => by simp only at h; omega⟩
        · simp only [lst]; rw [if_pos (by omega)]; omega
        · simp only [mst]; rw [if_pos (by omega)]; omega

theorem run1_lay {l : List Int} {k c : Nat} (hk : k < l.length) (hc : (run1 l k).2 = (c : Int)) (hl : ∀ x ∈ l, 0 ≤ x ∧ x ≤ 15) : lay (l.take k) (run1 l k) = l.take (k + c) := by
  have hm := hl (l.getD k 0) (by rw [show l.getD k 0 = l[k] by simp [hk]]; exact List.getElem_mem hk)
  have key : ∀ v, c ≤ eqn v (l.drop k) → l.take k ++ List.replicate c v = l.take (k + c) := fun v h => by
    rw [← eqn_take h, List.take_add]
  have hs := eqn_self hk
  unfold lay
  rw [hc]
  simp only [Int.toNat_natCast]
  unfold run1 at hc ⊢
  split at hc
  · rename_i h
    rw [if_pos h]
    have hc' : min (eqn 0 (l.drop k)) 138 = c := by simp only at hc; omega
    exact key _ (by show c ≤ eqn (mnt 18 _) _; rw [show mnt 18 (l.take k) = 0 from rfl]; omega)
  · rename_i h
    rw [if_neg h]
    split at hc
    · rename_i h2
      rw [if_pos h2]
      have hc' : eqn 0 (l.drop k) = c := by simp only at hc; omega
      exact key _ (by show c ≤ eqn (mnt 17 _) _; rw [show mnt 17 (l.take k) = 0 from rfl]; omega)
    · rename_i h2
      rw [if_neg h2]
      split at hc
      · rename_i h3
        rw [if_pos h3]
        have hc' : min (eqn (l.getD k 0) (l.drop k)) 6 = c := by simp only at hc; omega
        refine key _ ?_
        have e : mnt 16 (l.take k) = l.getD k 0 := by
          unfold mnt
          rw [if_neg (by decide), if_pos rfl, ← h3.2.2.1, List.length_take, show min k l.length - 1 = k - 1 by omega]
          simp only [List.getD_eq_getElem?_getD, List.getElem?_take]
          rw [if_pos (by omega)]
        show c ≤ eqn (mnt 16 _) _
        rw [e]; omega
      · rename_i h3
        rw [if_neg h3]
        have hc' : c = 1 := by have : (c : Int) = 1 := hc.symm; omega
        refine key _ ?_
        have e : mnt (l.getD k 0) (l.take k) = l.getD k 0 := by unfold mnt; rw [if_pos (by omega)]
        show c ≤ eqn (mnt (l.getD k 0) _) _
        rw [e]; omega

theorem xp_from {l : List Int} (hl : ∀ x ∈ l, 0 ≤ x ∧ x ≤ 15) : ∀ n k, n = l.length - k → k ≤ l.length → xpE (l.take k) (rnK l k) = 0 ∧ lays (l.take k) (rnK l k) = l := by
  intro n
  induction n using Nat.strongRecOn with
  | ind n ih =>
    intro k hn hk
    by_cases h : k < l.length
    · obtain ⟨c, e, c1, c2, _⟩ := run1_cnt h
      obtain ⟨ok, o16⟩ := run1_ok h hl
      rw [rnK_step h e]
      have hne : ¬ ((run1 l k).1 = 16 ∧ l.take k = []) := by
        rintro ⟨q, z⟩
        have := o16 q
        have z' := congrArg List.length z
        rw [List.length_take, List.length_nil] at z'
        omega
      obtain ⟨i1, i2⟩ := ih (l.length - (k + c)) (by omega) (k + c) rfl c2
      refine ⟨?_, ?_⟩
      · simp only [xpE]
        rw [if_pos ok, if_neg hne, run1_lay h e hl]
        exact i1
      · show lays (lay (l.take k) (run1 l k)) (rnK l (k + c)) = l
        rw [run1_lay h e hl]
        exact i2
    · rw [rnK_end (by omega), List.take_of_length_le (by omega)]
      exact ⟨rfl, rfl⟩

/-- Expand of Runs is the list. -/
theorem xp_rns {l : List Int} (hl : ∀ x ∈ l, 0 ≤ x ∧ x ≤ 15) : xpE [] (rns l) = 0 ∧ lays [] (rns l) = l := by
  have := xp_from hl _ 0 rfl (Nat.zero_le _)
  rw [rnK_zero, List.take_zero] at this
  exact this

theorem rns_ok {l : List Int} (hl : ∀ x ∈ l, 0 ≤ x ∧ x ≤ 15) : ∀ r ∈ rns l, Okr r := by
  have : ∀ f k, ∀ r ∈ rnN l f k, Okr r := by
    intro f
    induction f with
    | zero => intro k r hr; simp [rnN] at hr
    | succ f ih =>
      intro k r hr
      simp only [rnN] at hr
      split at hr
      · rename_i h
        rcases List.mem_cons.1 hr with e | e
        · rw [e]; exact (run1_ok h hl).1
        · exact ih _ r e
      · simp at hr
  exact this _ _

/-- Are all of them code lengths? -/
def wthb (l : List Int) : Bool := l.all fun x => decide (0 ≤ x ∧ x ≤ 15)
theorem wth_iff {l : List Int} : wthb l = true ↔ ∀ x ∈ l, 0 ≤ x ∧ x ≤ 15 := by simp [wthb]

/-- What Runs answers. -/
def rnE (l : List Int) : Int := if wthb l then 0 else 1
def rnL (l : List Int) : List Rn := if wthb l then rns l else []
end Go.Proofs.YtpmgnpfpnkmmbaaGreatDoor

namespace Go.Proofs.YtpmgnpfpnkmmbaaGreatDoor
open Go.RowKit Go.Maps
set_option maxRecDepth 20000
set_option linter.unusedVariables false

/-- The tables of package header, as they are laid. -/
structure Tab (w : World) : Prop where
  least : ∀ i : Nat, i < 19 → w.cell? ⟨2, i, none⟩ = some (.int .i64 (lst i))
  further : ∀ i : Nat, i < 19 → w.cell? ⟨1, i, none⟩ = some (.int .i64 (frt i : Nat))

theorem Tab.below {W w w' : World} {B : Nat} (h : Tab w) (h0 : Tab W) (hW : W.heap.size ≤ B) (hb : Below B w w') : Tab w' :=
  ⟨fun i hi => (hb.cell (Nat.lt_of_lt_of_le (World.block_lt_of_cell? W _ (h0.least i hi)) hW)).trans (h.least i hi), fun i hi => (hb.cell (Nat.lt_of_lt_of_le (World.block_lt_of_cell? W _ (h0.further i hi)) hW)).trans (h.further i hi)⟩

theorem Tab.mono {w w' : World} (h : Tab w) (hb : Below w.heap.size w w') : Tab w' := h.below h (Nat.le_refl _) hb

theorem Tab.drewN {w : World} (h : Tab w) (n : Nat) : Tab (w.drewN n) := ⟨h.least, h.further⟩

def fr2 (R : List Rn) : List Value := R.flatMap fun r => [.int .i64 r.1, .int .i64 r.2]

theorem fr2_len (R : List Rn) : (fr2 R).length = R.length * 2 := by
  induction R with
  | nil => rfl
  | cons a r ih => unfold fr2 at ih ⊢; rw [List.flatMap_cons, List.length_append, ih]; simp; omega

def rn0 : Rn := (0, 0)

theorem fr2_get {R : List Rn} {i : Nat} (h : i < R.length) : (fr2 R)[i * 2]? = some (.int .i64 (R.getD i rn0).1) ∧ (fr2 R)[i * 2 + 1]? = some (.int .i64 (R.getD i rn0).2) := by
  induction R generalizing i with
  | nil => simp at h
  | cons a r ih =>
    cases i with
    | zero => exact ⟨rfl, rfl⟩
    | succ i =>
      have := ih (i := i) (by simpa using h)
      have e : fr2 (a :: r) = .int .i64 a.1 :: .int .i64 a.2 :: fr2 r := rfl
      rw [e, show (i + 1) * 2 = i * 2 + 1 + 1 by omega, show i * 2 + 1 + 1 + 1 = (i * 2 + 1) + 1 + 1 by omega]
      simp only [List.getElem?_cons_succ]
      exact this

theorem fr2_snoc (R : List Rn) (p : Rn) : fr2 (R ++ [p]) = fr2 R ++ [.int .i64 p.1, .int .i64 p.2] := by simp [fr2]
theorem fr2_app (R S : List Rn) : fr2 (R ++ S) = fr2 R ++ fr2 S := by simp [fr2]

theorem fr2_one (R : List Rn) : ∀ v ∈ fr2 R, v.oneCell' = true := by
  intro v hv
  unfold fr2 at hv
  obtain ⟨r, _, hr⟩ := List.mem_flatMap.1 hv
  simp only [List.mem_cons, List.not_mem_nil, or_false] at hr
  rcases hr with rfl | rfl <;> rfl

/-- A row of runs that is read. -/
def SR (w : World) (v : Value) (R : List Rn) : Prop :=
  ∃ ao cap, v = .slice ao R.length cap ∧ R.length ≤ cap ∧ cap ≤ maxLen ∧ (ao = none → cap = 0) ∧ ∀ x, ao = some x → ∀ i, i < R.length → w.cell? (x.add (i * 2)) = some (.int .i64 (R.getD i rn0).1) ∧ w.cell? (x.add (i * 2 + 1)) = some (.int .i64 (R.getD i rn0).2)

/-- A row of runs of one's own. -/
def OR (w : World) (base : Nat) (v : Value) (R : List Rn) : Prop := w.ownsRow base 139 2 v R.length (fr2 R)

theorem SR.below {w w' : World} {v : Value} {R : List Rn} (h : SR w v R) (hb : Below w.heap.size w w') : SR w' v R := by
  obtain ⟨ao, cap, rfl, h1, h2, h3, h4⟩ := h
  refine ⟨ao, cap, rfl, h1, h2, h3, fun x hx i hi => ?_⟩
  obtain ⟨c1, c2⟩ := h4 x hx i hi
  exact ⟨(hb.cell (World.block_lt_of_cell? w _ c1)).trans c1, (hb.cell (World.block_lt_of_cell? w _ c2)).trans c2⟩

theorem SR.drewN {w : World} {v : Value} {R : List Rn} (h : SR w v R) (n : Nat) : SR (w.drewN n) v R := h

theorem SR.open {w : World} {v : Value} {R : List Rn} (h : SR w v R) : ∃ ao cap, v = .slice ao R.length cap ∧ R.length ≤ cap ∧ cap ≤ 9223372036854775807 := by
  obtain ⟨ao, cap, rfl, h1, h2, _⟩ := h
  unfold maxLen at h2
  exact ⟨ao, cap, rfl, h1, by omega⟩

theorem SR.get {W w : World} {ao : Option Addr} {cap : Nat} {R : List Rn} (h : SR W (.slice ao R.length cap) R) (hb : Below W.heap.size W w) {k : Nat} (hk : k < R.length) : ∃ b o, ao = some ⟨b, o, none⟩ ∧ w.cell? ⟨b, o + k * 2, none⟩ = some (.int .i64 (R.getD k rn0).1) ∧ w.cell? ⟨b, o + k * 2 + 1, none⟩ = some (.int .i64 (R.getD k rn0).2) := by
  obtain ⟨ao', cap', he, h1, h2, h3, h4⟩ := h
  simp only [Value.slice.injEq] at he
  obtain ⟨rfl, -, rfl⟩ := he
  cases ao with
  | none => have := h3 rfl; omega
  | some x =>
    obtain ⟨b, o, rfl⟩ := addr_lit (h4 x rfl 0 (by omega)).1
    obtain ⟨c1, c2⟩ := h4 _ rfl k hk
    rw [Addr.add_lit] at c1 c2
    exact ⟨b, o, rfl, (hb.cell (World.block_lt_of_cell? W _ c1)).trans c1, (hb.cell (World.block_lt_of_cell? W _ c2)).trans c2⟩

theorem rown_move {w w' : World} {base : Nat} {e : TypeId} {size : Nat} {v : Value} {n : Nat} {xs : List Value} (h : w.ownsRow base e size v n xs) (hb : ∀ k, v.ownBlock = some k → w'.heap[k]? = w.heap[k]?) : w'.ownsRow base e size v n xs := by
  refine ⟨h.1, ?_⟩
  rcases h.2 with h2 | ⟨g, cap, cur, rfl, h1, h2, r⟩
  · exact .inl h2
  · exact .inr ⟨g, cap, cur, rfl, h1, (hb g rfl).trans h2, r⟩

theorem OR.lt {w : World} {base : Nat} {v : Value} {R : List Rn} (h : OR w base v R) : ∀ k, v.ownBlock = some k → base ≤ k ∧ k < w.heap.size := World.ownsRow.lt h
theorem OR.below {w w' : World} {base B : Nat} {v : Value} {R : List Rn} (h : OR w base v R) (hb : Below B w w') (hB : w.heap.size ≤ B) : OR w' base v R := rown_move h fun k hk => hb.block k (Nat.lt_of_lt_of_le (h.lt k hk).2 hB)
theorem OR.drewN {w : World} {base : Nat} {v : Value} {R : List Rn} (h : OR w base v R) (n : Nat) : OR (w.drewN n) base v R := rown_move h fun _ _ => rfl
theorem OR.alloc {w : World} {base : Nat} {v : Value} {R : List Rn} (h : OR w base v R) (o : Obj) : OR (w.alloc o) base v R := rown_move h fun k hk => Below.heap_alloc w o k (h.lt k hk).2
theorem OR.base {w : World} {base base' : Nat} {v : Value} {R : List Rn} (h : OR w base v R) (hb : base' ≤ base) : OR w base' v R := by
  refine ⟨h.1, ?_⟩
  rcases h.2 with h2 | ⟨g, cap, cur, rfl, h1, r⟩
  · exact .inl h2
  · exact .inr ⟨g, cap, cur, rfl, Nat.le_trans hb h1, r⟩

theorem OR.shape {w : World} {base : Nat} {v : Value} {R : List Rn} (h : OR w base v R) : ∃ a c, v = .slice a R.length c ∧ R.length ≤ c ∧ c ≤ 9223372036854775807 := by
  rcases h.2 with ⟨rfl, h0⟩ | ⟨g, cap, cur, rfl, _, _, h3, h4, _⟩
  · exact ⟨none, 0, by rw [h0], by omega, by omega⟩
  · unfold maxLen at h4; exact ⟨_, _, rfl, h3, by omega⟩

theorem OR.sr {w : World} {base : Nat} {v : Value} {R : List Rn} (h : OR w base v R) : SR w v R := by
  have hc := @World.ownsRow.cells _ _ _ _ _ _ _ h
  rcases h.2 with ⟨rfl, h0⟩ | ⟨g, cap, cur, rfl, _, _, h3, h4, _⟩
  · obtain rfl : R = [] := List.eq_nil_of_length_eq_zero h0
    exact ⟨none, 0, rfl, Nat.le_refl _, Nat.zero_le _, fun _ => rfl, fun x hx => by cases hx⟩
  · refine ⟨some ⟨g, 0, none⟩, cap, rfl, h3, h4, (fun e => by cases e), fun x hx i hi => ?_⟩
    cases hx
    obtain ⟨g1, g2⟩ := fr2_get hi
    exact ⟨hc (g := g) rfl _ _ g1, hc (g := g) rfl _ _ g2⟩

theorem OR.nil (w : World) (base : Nat) : OR w base (.slice none 0 0) [] := World.ownsRow_nil _ _ _ _

theorem infoRun : (Tryz.prog.info? 139).map (fun i => (i.zero, i.size, i.bytes)) = some (some (.agg #[.int .i64 0, .int .i64 0]), 2, 16) := by kernel_rfl

/-- One more run. -/
theorem wpRun {w : World} {ops : Array Oper} {rest : List Oper} {o : Oper} {a : Act} {Q : Exit → Act → World → Prop} (hgd : o.guard = none) (s x : Operand)
    (ho : o.op = .call { callee := .builtin .append, args := #[s, x], argTypes := #[158, 158] }) (base : Nat) (v : Value) (R : List Rn) (p1 p2 : Int) (hs : a.eval s = v) (hown : OR w base v R)
    (c : Nat) (hx : a.eval x = .slice (some ⟨w.heap.size, 0, none⟩) 1 c) (hn : R.length ≤ 100000000) (hbase : base ≤ w.heap.size)
    (h : ∀ v' w', OR w' base v' (R ++ [(p1, p2)]) → (w.alloc (.cells #[.int .i64 p1, .int .i64 p2] 139)).grownBy w' v.ownBlock → wpList Tryz.prog ops Q rest (a.put o.dst v') w') :
    wpList Tryz.prog ops Q (o :: rest) a (w.alloc (.cells #[.int .i64 p1, .int .i64 p2] 139)) := by
  obtain ⟨i0, hi0, hz0, hz1, hz2⟩ := info_parts infoRun
  refine wpList_append_own_at _ hgd s x 158 ho base 139 i0 _ 2 16 Tryz.underlying158 hi0 hz0 hz1 hz2 rfl (by omega) v R.length (fr2 R) hs (hown.alloc _) ⟨w.heap.size, 0, none⟩ 1 c [.int .i64 p1, .int .i64 p2] hx rfl (World.news_of_block (cs := #[.int .i64 p1, .int .i64 p2]) (t := 139) (fr := (0, 0)) (heap_alloc_new w _))
    (fun u hu => by
      simp only [List.mem_cons, List.not_mem_nil, or_false] at hu
      rcases hu with rfl | rfl <;> rfl) (by unfold maxLen; omega) (by omega) (by simp; omega) fun v' w' h1 h2 _ _ => h v' w' ?_ h2
  show World.ownsRow _ _ _ _ _ _ _
  rw [List.length_append, fr2_snoc]
  exact h1

theorem grow_run {w wr w3 : World} {u : Value} {R : List Rn} {o : Obj} {B : Nat} (hB : Below B w wr) (hw : B ≤ w.heap.size) (hO : OR wr B u R) (hg : (wr.alloc o).grownBy w3 u.ownBlock) : Below B w w3 :=
  (hB.alloc (Nat.le_trans hw hB.size) _).grown hg (by have := hB.size; simp; omega) (fun j hj => by have := hO.lt j hj; omega)

theorem grow_one7 {w wr w3 : World} {u v3 : Value} {D : List Int} {o : Obj} {B : Nat} (hB : Below B w wr) (hw : B ≤ w.heap.size) (hO : OI wr B u D) (hg : Grew (wr.alloc o) w3 u v3) : Below B w w3 :=
  (hB.alloc (Nat.le_trans hw hB.size) _).grown hg.by (by have := hB.size; simp; omega) (fun j hj => by have := hO.lt j hj; omega)
end Go.Proofs.YtpmgnpfpnkmmbaaGreatDoor

