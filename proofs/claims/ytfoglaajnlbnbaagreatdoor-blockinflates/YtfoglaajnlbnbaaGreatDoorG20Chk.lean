import Derived.Test.YtfoglaajnlbnbaaGreatDoorG00Tkw
import Derived.Test.YtfoglaajnlbnbaaGreatDoorG03Lsk
import Derived.Test.YtfoglaajnlbnbaaGreatDoorG02Arr
import Derived.Test.YtfoglaajnlbnbaaGreatDoorRows
import Derived.Test.YtfoglaajnlbnbaaGreatDoorG19Fxc
namespace Go.Proofs.YtfoglaajnlbnbaaGreatDoor
open Go.RowKit Go.Maps
set_option maxRecDepth 20000
set_option linter.unusedVariables false

end Go.Proofs.YtfoglaajnlbnbaaGreatDoor

namespace Go.Proofs.YtfoglaajnlbnbaaGreatDoor
set_option linter.unusedVariables false

abbrev Rn := Int × Int

def eqn (v : Int) : List Int → Nat
  | [] => 0
  | x :: r => if x = v then eqn v r + 1 else 0

theorem eqn_le (v : Int) (l : List Int) : eqn v l ≤ l.length := by
  induction l with
  | nil => exact Nat.le_refl _
  | cons x r ih => simp only [eqn, List.length_cons]; split <;> omega

theorem eqn_take {v : Int} {l : List Int} {c : Nat} (h : c ≤ eqn v l) : l.take c = List.replicate c v := by
  induction l generalizing c with
  | nil => simp only [eqn] at h; have : c = 0 := by omega
           subst this; rfl
  | cons x r ih =>
    cases c with
    | zero => rfl
    | succ c =>
      simp only [eqn] at h
      by_cases e : x = v
      · rw [if_pos e] at h
        rw [List.take_succ_cons, ih (by omega), List.replicate_succ, e]
      · rw [if_neg e] at h; omega

theorem eqn_min (v : Int) (l : List Int) (m : Nat) : eqn v (l.take m) = min (eqn v l) m := by
  induction l generalizing m with
  | nil => simp [eqn]
  | cons x r ih =>
    cases m with
    | zero => simp [eqn]
    | succ m =>
      rw [List.take_succ_cons]
      simp only [eqn]
      by_cases e : x = v
      · rw [if_pos e, if_pos e, ih]; omega
      · rw [if_neg e, if_neg e]; omega

theorem eqn_go {v : Int} {l : List Int} {k : Nat} (h : k ≤ eqn v l) (hk : k < l.length) : (l.getD k 0 = v → k + 1 ≤ eqn v l) ∧ (l.getD k 0 ≠ v → eqn v l = k) := by
  induction l generalizing k with
  | nil => simp at hk
  | cons x r ih =>
    simp only [eqn] at h ⊢
    cases k with
    | zero =>
      refine ⟨fun e => ?_, fun e => ?_⟩
      · have e' : x = v := e
        rw [if_pos e']; omega
      · have e' : ¬ x = v := e
        rw [if_neg e']
    | succ k =>
      by_cases e : x = v
      · rw [if_pos e] at h ⊢
        obtain ⟨i1, i2⟩ := ih (k := k) (by omega) (by simpa using hk)
        refine ⟨fun q => ?_, fun q => ?_⟩
        · have := i1 (by simpa using q); omega
        · have := i2 (by simpa using q); omega
      · rw [if_neg e] at h; omega

theorem eqn_end {v : Int} {l : List Int} (h : l.length ≤ eqn v l) : eqn v l = l.length := Nat.le_antisymm (eqn_le v l) h

theorem eqn_pos {v : Int} {l : List Int} {k : Nat} (hk : k < l.length) (h : 1 ≤ eqn v (l.drop k)) : l.getD k 0 = v := by
  have e : l.drop k = l[k] :: l.drop (k + 1) := List.drop_eq_getElem_cons hk
  rw [e] at h
  simp only [eqn] at h
  rw [show l.getD k 0 = l[k] by simp [hk]]
  by_cases q : l[k] = v
  · exact q
  · rw [if_neg q] at h; omega

theorem eqn_self {l : List Int} {k : Nat} (hk : k < l.length) : 1 ≤ eqn (l.getD k 0) (l.drop k) := by
  have e : l.drop k = l[k] :: l.drop (k + 1) := List.drop_eq_getElem_cons hk
  rw [e, show l.getD k 0 = l[k] by simp [hk]]
  simp only [eqn]
  rw [if_pos trivial]; omega

def run1 (l : List Int) (k : Nat) : Rn :=
  if l.getD k 0 = 0 ∧ 11 ≤ eqn 0 (l.drop k) then (18, (min (eqn 0 (l.drop k)) 138 : Nat))
  else if l.getD k 0 = 0 ∧ 3 ≤ eqn 0 (l.drop k) then (17, (eqn 0 (l.drop k) : Nat))
  else if l.getD k 0 ≠ 0 ∧ 0 < k ∧ l.getD (k - 1) 0 = l.getD k 0 ∧ 3 ≤ eqn (l.getD k 0) (l.drop k) then (16, (min (eqn (l.getD k 0) (l.drop k)) 6 : Nat))
  else (l.getD k 0, 1)

def n18 (l : List Int) (k : Nat) : Nat := min (eqn 0 (l.drop k)) 138
def n17 (l : List Int) (k : Nat) : Nat := min (eqn 0 (l.drop k)) 10
def n16 (l : List Int) (k : Nat) : Nat := if k = 0 then 0 else min (eqn (l.getD (k - 1) 0) (l.drop k)) 6

theorem run_pick {l : List Int} {k : Nat} (hk : k < l.length) :
    (11 ≤ n18 l k → run1 l k = (18, (n18 l k : Int))) ∧ (n18 l k < 11 → 3 ≤ n17 l k → run1 l k = (17, (n17 l k : Int))) ∧
    (n18 l k < 11 → n17 l k < 3 → 3 ≤ n16 l k → run1 l k = (16, (n16 l k : Int))) ∧ (n18 l k < 11 → n17 l k < 3 → n16 l k < 3 → run1 l k = (l.getD k 0, 1)) := by
  have z : 1 ≤ eqn 0 (l.drop k) → l.getD k 0 = 0 := eqn_pos hk
  have hs := eqn_self hk
  unfold n18 n17
  refine ⟨fun h => ?_, fun h1 h2 => ?_, fun h1 h2 h3 => ?_, fun h1 h2 h3 => ?_⟩
  · have := z (by omega)
    unfold run1
    rw [if_pos ⟨this, by omega⟩]
  · have := z (by omega)
    unfold run1
    rw [if_neg (by omega), if_pos ⟨this, by omega⟩, show min (eqn 0 (l.drop k)) 10 = eqn 0 (l.drop k) by omega]
  · unfold n16 at h3 ⊢
    by_cases hz : k = 0
    · rw [if_pos hz] at h3; omega
    · rw [if_neg hz] at h3 ⊢
      have e : l.getD k 0 = l.getD (k - 1) 0 := eqn_pos hk (by omega)
      have nz : l.getD k 0 ≠ 0 := by
        intro q
        rw [← e, q] at h3
        omega
      unfold run1
      rw [if_neg (by omega), if_neg (by omega), if_pos ⟨nz, by omega, e.symm, by rw [e]; omega⟩, e]
  · unfold run1
    rw [if_neg (by omega), if_neg (by omega), if_neg]
    rintro ⟨_, g1, g2, g3⟩
    unfold n16 at h3
    rw [if_neg (by omega), g2] at h3
    omega

theorem run1_cnt {l : List Int} {k : Nat} (hk : k < l.length) : ∃ c : Nat, (run1 l k).2 = c ∧ 1 ≤ c ∧ k + c ≤ l.length ∧ c ≤ 138 := by
  have h1 := eqn_le 0 (l.drop k)
  have h2 := eqn_le (l.getD k 0) (l.drop k)
  rw [List.length_drop] at h1 h2
  unfold run1
  split
  · exact ⟨_, rfl, by omega, by omega, by omega⟩
  · split
    · exact ⟨_, rfl, by omega, by omega, by omega⟩
    · split
      · exact ⟨_, rfl, by omega, by omega, by omega⟩
      · exact ⟨1, rfl, by omega, by omega, by omega⟩

def rnN (l : List Int) : Nat → Nat → List Rn
  | 0, _ => []
  | f + 1, k => if k < l.length then run1 l k :: rnN l f (k + (run1 l k).2.toNat) else []

def rns (l : List Int) : List Rn := rnN l l.length 0

theorem rnN_more (l : List Int) : ∀ f g k, l.length - k ≤ f → l.length - k ≤ g → rnN l f k = rnN l g k
  | 0, 0, _, _, _ => rfl
  | 0, g + 1, k, h, _ => by simp only [rnN]; rw [if_neg (by omega)]
  | f + 1, 0, k, _, h => by simp only [rnN]; rw [if_neg (by omega)]
  | f + 1, g + 1, k, h1, h2 => by
    simp only [rnN]
    by_cases hk : k < l.length
    · rw [if_pos hk, if_pos hk]
      obtain ⟨c, e, c1, c2, _⟩ := run1_cnt hk
      rw [e]
      simp only [Int.toNat_natCast]
      rw [rnN_more l f g (k + c) (by omega) (by omega)]
    · rw [if_neg hk, if_neg hk]

def rnK (l : List Int) (k : Nat) : List Rn := rnN l (l.length - k) k

theorem rnK_zero (l : List Int) : rnK l 0 = rns l := rfl
theorem rnK_step {l : List Int} {k c : Nat} (hk : k < l.length) (hc : (run1 l k).2 = (c : Int)) : rnK l k = run1 l k :: rnK l (k + c) := by
  obtain ⟨c', e, c1, c2, _⟩ := run1_cnt hk
  have : c = c' := by rw [hc] at e; exact_mod_cast e
  subst this
  unfold rnK
  rw [show l.length - k = (l.length - k - 1) + 1 by omega]
  simp only [rnN]
  rw [if_pos hk, hc]
  simp only [Int.toNat_natCast]
  rw [rnN_more l (l.length - k - 1) (l.length - (k + c)) (k + c) (by omega) (Nat.le_refl _)]
theorem rnK_end {l : List Int} {k : Nat} (hk : l.length ≤ k) : rnK l k = [] := by
  unfold rnK
  rw [show l.length - k = 0 by omega]
  rfl

theorem rnN_len (l : List Int) : ∀ f k, (rnN l f k).length ≤ f
  | 0, _ => Nat.le_refl _
  | f + 1, k => by
    simp only [rnN]
    split
    · rw [List.length_cons]; have := rnN_len l f (k + (run1 l k).2.toNat); omega
    · simp

theorem rns_len (l : List Int) : (rns l).length ≤ l.length := rnN_len l l.length 0

def lst (s : Int) : Int := if s < 16 then 1 else if s < 18 then 3 else 11
def frt (s : Int) : Nat := if s < 16 then 0 else if s = 16 then 2 else if s = 17 then 3 else 7
def mst (s : Int) : Int := if s < 16 then 1 else if s = 16 then 6 else if s = 17 then 10 else 138
def Okr (r : Rn) : Prop := 0 ≤ r.1 ∧ r.1 ≤ 18 ∧ lst r.1 ≤ r.2 ∧ r.2 ≤ mst r.1
instance (r : Rn) : Decidable (Okr r) := by unfold Okr; infer_instance

def mnt (s : Int) (a : List Int) : Int := if s < 16 then s else if s = 16 then a.getD (a.length - 1) 0 else 0
def lay (a : List Int) (r : Rn) : List Int := a ++ List.replicate r.2.toNat (mnt r.1 a)
def lays (a : List Int) (rs : List Rn) : List Int := rs.foldl lay a

def xpE (a : List Int) : List Rn → Int
  | [] => 0
  | r :: rs => if Okr r then if r.1 = 16 ∧ a = [] then 73 else xpE (lay a r) rs else 77

theorem lay_len (a : List Int) (r : Rn) : (lay a r).length = a.length + r.2.toNat := by simp [lay]
theorem lays_snoc (a : List Int) (rs : List Rn) (r : Rn) : lays a (rs ++ [r]) = lay (lays a rs) r := by simp [lays]

theorem run1_ok {l : List Int} {k : Nat} (hk : k < l.length) (hl : ∀ x ∈ l, 0 ≤ x ∧ x ≤ 15) : Okr (run1 l k) ∧ ((run1 l k).1 = 16 → 0 < k) := by
  have hm := hl (l.getD k 0) (by rw [show l.getD k 0 = l[k] by simp [hk]]; exact List.getElem_mem hk)
  unfold run1
  split
  · refine ⟨⟨by show (0 : Int) ≤ _; simp only; omega, by simp only; omega, ?_, ?_⟩, fun h => by simp at h⟩
    · show lst 18 ≤ _
      unfold lst; simp; omega
    · show _ ≤ mst 18
      unfold mst; simp; omega
  · split
    · refine ⟨⟨by show (0 : Int) ≤ _; simp only; omega, by simp only; omega, ?_, ?_⟩, fun h => by simp at h⟩
      · show lst 17 ≤ _
        unfold lst; simp; omega
      · show _ ≤ mst 17
        unfold mst; simp; omega
    · split
      · rename_i h
        refine ⟨⟨by show (0 : Int) ≤ _; simp only; omega, by simp only; omega, ?_, ?_⟩, fun _ => h.2.1⟩
        · show lst 16 ≤ _
          rw [show lst 16 = 3 from rfl]; simp only; omega
        · show _ ≤ mst 16
          rw [show mst 16 = 6 from rfl]; simp only; omega
      · refine ⟨⟨hm.1, by simp only; omega, ?_, ?_⟩, fun h => by simp only at h; omega⟩
        · simp only [lst]; rw [if_pos (by omega)]; omega
        · simp only [mst]; rw [if_pos (by omega)]; omega

theorem run1_lay {l : List Int} {k c : Nat} (hk : k < l.length) (hc : (run1 l k).2 = (c : Int)) (hl : ∀ x ∈ l, 0 ≤ x ∧ x ≤ 15) : lay (l.take k) (run1 l k) = l.take (k + c) := by
  have hm := hl (l.getD k 0) (by rw [show l.getD k 0 = l[k] by simp [hk]]; exact List.getElem_mem hk)
  have key : ∀ v, c ≤ eqn v (l.drop k) → l.take k ++ List.replicate c v = l.take (k + c) := fun v h => by
    rw [← eqn_take h, List.take_add]
  have hs := eqn_self hk
  unfold lay
  rw [hc]
  simp only [Int.toNat_natCast]
  unfold run1 at hc ⊢
  split at hc
  · rename_i h
    rw [if_pos h]
    have hc' : min (eqn 0 (l.drop k)) 138 = c := by simp only at hc; omega
    exact key _ (by show c ≤ eqn (mnt 18 _) _; rw [show mnt 18 (l.take k) = 0 from rfl]; omega)
  · rename_i h
    rw [if_neg h]
    split at hc
    · rename_i h2
      rw [if_pos h2]
      have hc' : eqn 0 (l.drop k) = c := by simp only at hc; omega
      exact key _ (by show c ≤ eqn (mnt 17 _) _; rw [show mnt 17 (l.take k) = 0 from rfl]; omega)
    · rename_i h2
      rw [if_neg h2]
      split at hc
      · rename_i h3
        rw [if_pos h3]
        have hc' : min (eqn (l.getD k 0) (l.drop k)) 6 = c := by simp only at hc; omega
        refine key _ ?_
        have e : mnt 16 (l.take k) = l.getD k 0 := by
          unfold mnt
          rw [if_neg (by decide), if_pos rfl, ← h3.2.2.1, List.length_take, show min k l.length - 1 = k - 1 by omega]
          simp only [List.getD_eq_getElem?_getD, List.getElem?_take]
          rw [if_pos (by omega)]
        show c ≤ eqn (mnt 16 _) _
        rw [e]; omega
      · rename_i h3
        rw [if_neg h3]
        have hc' : c = 1 := by have : (c : Int) = 1 := hc.symm; omega
        refine key _ ?_
        have e : mnt (l.getD k 0) (l.take k) = l.getD k 0 := by unfold mnt; rw [if_pos (by omega)]
        show c ≤ eqn (mnt (l.getD k 0) _) _
        rw [e]; omega

theorem xp_from {l : List Int} (hl : ∀ x ∈ l, 0 ≤ x ∧ x ≤ 15) : ∀ n k, n = l.length - k → k ≤ l.length → xpE (l.take k) (rnK l k) = 0 ∧ lays (l.take k) (rnK l k) = l := by
  intro n
  induction n using Nat.strongRecOn with
  | ind n ih =>
    intro k hn hk
    by_cases h : k < l.length
    · obtain ⟨c, e, c1, c2, _⟩ := run1_cnt h
      obtain ⟨ok, o16⟩ := run1_ok h hl
      rw [rnK_step h e]
      have hne : ¬ ((run1 l k).1 = 16 ∧ l.take k = []) := by
        rintro ⟨q, z⟩
        have := o16 q
        have z' := congrArg List.length z
        rw [List.length_take, List.length_nil] at z'
        omega
      obtain ⟨i1, i2⟩ := ih (l.length - (k + c)) (by omega) (k + c) rfl c2
      refine ⟨?_, ?_⟩
      · simp only [xpE]
        rw [if_pos ok, if_neg hne, run1_lay h e hl]
        exact i1
      · show lays (lay (l.take k) (run1 l k)) (rnK l (k + c)) = l
        rw [run1_lay h e hl]
        exact i2
    · rw [rnK_end (by omega), List.take_of_length_le (by omega)]
      exact ⟨rfl, rfl⟩

theorem xp_rns {l : List Int} (hl : ∀ x ∈ l, 0 ≤ x ∧ x ≤ 15) : xpE [] (rns l) = 0 ∧ lays [] (rns l) = l := by
  have := xp_from hl _ 0 rfl (Nat.zero_le _)
  rw [rnK_zero, List.take_zero] at this
  exact this

theorem rns_ok {l : List Int} (hl : ∀ x ∈ l, 0 ≤ x ∧ x ≤ 15) : ∀ r ∈ rns l, Okr r := by
  have : ∀ f k, ∀ r ∈ rnN l f k, Okr r := by
    intro f
    induction f with
    | zero => intro k r hr; simp [rnN] at hr
    | succ f ih =>
      intro k r hr
      simp only [rnN] at hr
      split at hr
      · rename_i h
        rcases List.mem_cons.1 hr with e | e
        · rw [e]; exact (run1_ok h hl).1
        · exact ih _ r e
      · simp at hr
  exact this _ _

def wthb (l : List Int) : Bool := l.all fun x => decide (0 ≤ x ∧ x ≤ 15)
theorem wth_iff {l : List Int} : wthb l = true ↔ ∀ x ∈ l, 0 ≤ x ∧ x ≤ 15 := by simp [wthb]

def rnE (l : List Int) : Int := if wthb l then 0 else 1
def rnL (l : List Int) : List Rn := if wthb l then rns l else []
end Go.Proofs.YtfoglaajnlbnbaaGreatDoor

namespace Go.Proofs.YtfoglaajnlbnbaaGreatDoor
open Go.RowKit Go.Maps
set_option maxRecDepth 20000
set_option linter.unusedVariables false

structure Tab (w : World) : Prop where
  least : ∀ i : Nat, i < 19 → w.cell? ⟨4, i, none⟩ = some (.int .i64 (lst i))
  further : ∀ i : Nat, i < 19 → w.cell? ⟨5, i, none⟩ = some (.int .i64 (frt i : Nat))

theorem Tab.below {W w w' : World} {B : Nat} (h : Tab w) (h0 : Tab W) (hW : W.heap.size ≤ B) (hb : Below B w w') : Tab w' :=
  ⟨fun i hi => (hb.cell (Nat.lt_of_lt_of_le (World.block_lt_of_cell? W _ (h0.least i hi)) hW)).trans (h.least i hi), fun i hi => (hb.cell (Nat.lt_of_lt_of_le (World.block_lt_of_cell? W _ (h0.further i hi)) hW)).trans (h.further i hi)⟩

theorem Tab.mono {w w' : World} (h : Tab w) (hb : Below w.heap.size w w') : Tab w' := h.below h (Nat.le_refl _) hb

theorem Tab.drewN {w : World} (h : Tab w) (n : Nat) : Tab (w.drewN n) := ⟨h.least, h.further⟩

def fr2 (R : List Rn) : List Value := R.flatMap fun r => [.int .i64 r.1, .int .i64 r.2]

def rn0 : Rn := (0, 0)

theorem fr2_get {R : List Rn} {i : Nat} (h : i < R.length) : (fr2 R)[i * 2]? = some (.int .i64 (R.getD i rn0).1) ∧ (fr2 R)[i * 2 + 1]? = some (.int .i64 (R.getD i rn0).2) := by
  induction R generalizing i with
  | nil => simp at h
  | cons a r ih =>
    cases i with
    | zero => exact ⟨rfl, rfl⟩
    | succ i =>
      have := ih (i := i) (by simpa using h)
      have e : fr2 (a :: r) = .int .i64 a.1 :: .int .i64 a.2 :: fr2 r := rfl
      rw [e, show (i + 1) * 2 = i * 2 + 1 + 1 by omega, show i * 2 + 1 + 1 + 1 = (i * 2 + 1) + 1 + 1 by omega]
      simp only [List.getElem?_cons_succ]
      exact this

theorem fr2_snoc (R : List Rn) (p : Rn) : fr2 (R ++ [p]) = fr2 R ++ [.int .i64 p.1, .int .i64 p.2] := by simp [fr2]
theorem fr2_app (R S : List Rn) : fr2 (R ++ S) = fr2 R ++ fr2 S := by simp [fr2]

def SR (w : World) (v : Value) (R : List Rn) : Prop :=
  ∃ ao cap, v = .slice ao R.length cap ∧ R.length ≤ cap ∧ cap ≤ maxLen ∧ (ao = none → cap = 0) ∧ ∀ x, ao = some x → ∀ i, i < R.length → w.cell? (x.add (i * 2)) = some (.int .i64 (R.getD i rn0).1) ∧ w.cell? (x.add (i * 2 + 1)) = some (.int .i64 (R.getD i rn0).2)

def OR (w : World) (base : Nat) (v : Value) (R : List Rn) : Prop := w.ownsRow base 182 2 v R.length (fr2 R)

theorem SR.open {w : World} {v : Value} {R : List Rn} (h : SR w v R) : ∃ ao cap, v = .slice ao R.length cap ∧ R.length ≤ cap ∧ cap ≤ 9223372036854775807 := by
  obtain ⟨ao, cap, rfl, h1, h2, _⟩ := h
  unfold maxLen at h2
  exact ⟨ao, cap, rfl, h1, by omega⟩

theorem SR.get {W w : World} {ao : Option Addr} {cap : Nat} {R : List Rn} (h : SR W (.slice ao R.length cap) R) (hb : Below W.heap.size W w) {k : Nat} (hk : k < R.length) : ∃ b o, ao = some ⟨b, o, none⟩ ∧ w.cell? ⟨b, o + k * 2, none⟩ = some (.int .i64 (R.getD k rn0).1) ∧ w.cell? ⟨b, o + k * 2 + 1, none⟩ = some (.int .i64 (R.getD k rn0).2) := by
  obtain ⟨ao', cap', he, h1, h2, h3, h4⟩ := h
  simp only [Value.slice.injEq] at he
  obtain ⟨rfl, -, rfl⟩ := he
  cases ao with
  | none => have := h3 rfl; omega
  | some x =>
    obtain ⟨b, o, rfl⟩ := addr_lit (h4 x rfl 0 (by omega)).1
    obtain ⟨c1, c2⟩ := h4 _ rfl k hk
    rw [Addr.add_lit] at c1 c2
    exact ⟨b, o, rfl, (hb.cell (World.block_lt_of_cell? W _ c1)).trans c1, (hb.cell (World.block_lt_of_cell? W _ c2)).trans c2⟩

theorem rown_move {w w' : World} {base : Nat} {e : TypeId} {size : Nat} {v : Value} {n : Nat} {xs : List Value} (h : w.ownsRow base e size v n xs) (hb : ∀ k, v.ownBlock = some k → w'.heap[k]? = w.heap[k]?) : w'.ownsRow base e size v n xs := by
  refine ⟨h.1, ?_⟩
  rcases h.2 with h2 | ⟨g, cap, cur, rfl, h1, h2, r⟩
  · exact .inl h2
  · exact .inr ⟨g, cap, cur, rfl, h1, (hb g rfl).trans h2, r⟩

theorem OR.lt {w : World} {base : Nat} {v : Value} {R : List Rn} (h : OR w base v R) : ∀ k, v.ownBlock = some k → base ≤ k ∧ k < w.heap.size := World.ownsRow.lt h
theorem OR.below {w w' : World} {base B : Nat} {v : Value} {R : List Rn} (h : OR w base v R) (hb : Below B w w') (hB : w.heap.size ≤ B) : OR w' base v R := rown_move h fun k hk => hb.block k (Nat.lt_of_lt_of_le (h.lt k hk).2 hB)
theorem OR.drewN {w : World} {base : Nat} {v : Value} {R : List Rn} (h : OR w base v R) (n : Nat) : OR (w.drewN n) base v R := rown_move h fun _ _ => rfl
theorem OR.alloc {w : World} {base : Nat} {v : Value} {R : List Rn} (h : OR w base v R) (o : Obj) : OR (w.alloc o) base v R := rown_move h fun k hk => Below.heap_alloc w o k (h.lt k hk).2
theorem OR.base {w : World} {base base' : Nat} {v : Value} {R : List Rn} (h : OR w base v R) (hb : base' ≤ base) : OR w base' v R := by
  refine ⟨h.1, ?_⟩
  rcases h.2 with h2 | ⟨g, cap, cur, rfl, h1, r⟩
  · exact .inl h2
  · exact .inr ⟨g, cap, cur, rfl, Nat.le_trans hb h1, r⟩

theorem OR.shape {w : World} {base : Nat} {v : Value} {R : List Rn} (h : OR w base v R) : ∃ a c, v = .slice a R.length c ∧ R.length ≤ c ∧ c ≤ 9223372036854775807 := by
  rcases h.2 with ⟨rfl, h0⟩ | ⟨g, cap, cur, rfl, _, _, h3, h4, _⟩
  · exact ⟨none, 0, by rw [h0], by omega, by omega⟩
  · unfold maxLen at h4; exact ⟨_, _, rfl, h3, by omega⟩

theorem OR.sr {w : World} {base : Nat} {v : Value} {R : List Rn} (h : OR w base v R) : SR w v R := by
  have hc := @World.ownsRow.cells _ _ _ _ _ _ _ h
  rcases h.2 with ⟨rfl, h0⟩ | ⟨g, cap, cur, rfl, _, _, h3, h4, _⟩
  · obtain rfl : R = [] := List.eq_nil_of_length_eq_zero h0
    exact ⟨none, 0, rfl, Nat.le_refl _, Nat.zero_le _, fun _ => rfl, fun x hx => by cases hx⟩
  · refine ⟨some ⟨g, 0, none⟩, cap, rfl, h3, h4, (fun e => by cases e), fun x hx i hi => ?_⟩
    cases hx
    obtain ⟨g1, g2⟩ := fr2_get hi
    exact ⟨hc (g := g) rfl _ _ g1, hc (g := g) rfl _ _ g2⟩

theorem OR.nil (w : World) (base : Nat) : OR w base (.slice none 0 0) [] := World.ownsRow_nil _ _ _ _

theorem infoRun : (Tryz.prog.info? 182).map (fun i => (i.zero, i.size, i.bytes)) = some (some (.agg #[.int .i64 0, .int .i64 0]), 2, 16) := by kernel_rfl

theorem wpRun {w : World} {ops : Array Oper} {rest : List Oper} {o : Oper} {a : Act} {Q : Exit → Act → World → Prop} (hgd : o.guard = none) (s x : Operand)
    (ho : o.op = .call { callee := .builtin .append, args := #[s, x], argTypes := #[127, 127] }) (base : Nat) (v : Value) (R : List Rn) (p1 p2 : Int) (hs : a.eval s = v) (hown : OR w base v R)
    (c : Nat) (hx : a.eval x = .slice (some ⟨w.heap.size, 0, none⟩) 1 c) (hn : R.length ≤ 100000000) (hbase : base ≤ w.heap.size)
    (h : ∀ v' w', OR w' base v' (R ++ [(p1, p2)]) → (w.alloc (.cells #[.int .i64 p1, .int .i64 p2] 182)).grownBy w' v.ownBlock → wpList Tryz.prog ops Q rest (a.put o.dst v') w') :
    wpList Tryz.prog ops Q (o :: rest) a (w.alloc (.cells #[.int .i64 p1, .int .i64 p2] 182)) := by
  obtain ⟨i0, hi0, hz0, hz1, hz2⟩ := info_parts infoRun
  refine wpList_append_own_at _ hgd s x 127 ho base 182 i0 _ 2 16 Tryz.underlying127 hi0 hz0 hz1 hz2 rfl (by omega) v R.length (fr2 R) hs (hown.alloc _) ⟨w.heap.size, 0, none⟩ 1 c [.int .i64 p1, .int .i64 p2] hx rfl (World.news_of_block (cs := #[.int .i64 p1, .int .i64 p2]) (t := 182) (fr := (0, 0)) (heap_alloc_new w _))
    (fun u hu => by
      simp only [List.mem_cons, List.not_mem_nil, or_false] at hu
      rcases hu with rfl | rfl <;> rfl) (by unfold maxLen; omega) (by omega) (by simp; omega) fun v' w' h1 h2 _ _ => h v' w' ?_ h2
  show World.ownsRow _ _ _ _ _ _ _
  rw [List.length_append, fr2_snoc]
  exact h1

theorem grow_run {w wr w3 : World} {u : Value} {R : List Rn} {o : Obj} {B : Nat} (hB : Below B w wr) (hw : B ≤ w.heap.size) (hO : OR wr B u R) (hg : (wr.alloc o).grownBy w3 u.ownBlock) : Below B w w3 :=
  (hB.alloc (Nat.le_trans hw hB.size) _).grown hg (by have := hB.size; simp; omega) (fun j hj => by have := hO.lt j hj; omega)

theorem grow_one7 {w wr w3 : World} {u v3 : Value} {D : List Int} {o : Obj} {B : Nat} (hB : Below B w wr) (hw : B ≤ w.heap.size) (hO : OI wr B u D) (hg : Grew (wr.alloc o) w3 u v3) : Below B w w3 :=
  (hB.alloc (Nat.le_trans hw hB.size) _).grown hg.by (by have := hB.size; simp; omega) (fun j hj => by have := hO.lt j hj; omega)
end Go.Proofs.YtfoglaajnlbnbaaGreatDoor

namespace Go.Proofs.YtfoglaajnlbnbaaGreatDoor
open Go.RowKit Go.Maps
set_option maxRecDepth 20000
set_option linter.unusedVariables false

theorem zeroCells_int (n : Nat) : (Builtin.zeroCells #[Value.int .i64 0] n) = (List.replicate n (Value.int .i64 0)).toArray := by
  have e : ∀ k : Nat, [Value.int IntKind.i64 0][k % 1]?.getD default = Value.int .i64 0 := fun k => by simp [Nat.mod_one]
  apply Array.ext'
  simp [Builtin.zeroCells, e, List.map_const']

set_option linter.unusedSimpArgs false in
theorem run_zerosI (w : World) (ty : TypeId) (m : Nat) (hm : 0 < m) (hb : m ≤ 1048576) :
    ∃ C w', (Builtin.append_ #[65, 3] ty #[.slice none 0 0, .int .i64 m]).run Tryz.prog w = .ok (.slice (some ⟨w.heap.size, 0, none⟩) m C) w' ∧ m ≤ C ∧ C ≤ maxLen ∧ (∃ zs : List Value, w'.heap[w.heap.size]? = some (.cells zs.toArray 3 (0, 0)) ∧ zs.length = C) ∧ Below w.heap.size w w' := by
  obtain ⟨i, hi, hz, hsize, hby⟩ := info_parts infoInt
  have ht := Tryz.underlying65
  have hti := Tryz.underlying3
  have hwr : IntKind.i64.wrap (m : Int) = m := by rw [IntKind.wrap_i64]; omega
  have hneg : ¬ ((m : Int) < 0) := by omega
  have hbig : ¬ (281474976710656 < (m : Int)) := by omega
  have hm0 : m ≠ 0 := by omega
  have hge := grownCap_ge w m 0 3
  have hcm := grownCap_le_maxLen w m 0 3 (by unfold maxLen; omega)
  have has : ∀ W : World, (asInt (Value.int .i64 m)).run Tryz.prog W = .ok (m : Int) W := fun _ => rfl
  have hcl : (Value.int .i64 0).cells = #[Value.int .i64 0] := rfl
  have h48 : ¬ (281474976710656 < Builtin.nextslicecap m 0 * 8) := by have := growslice_fits (need := m) (old := 0) (bytes := 8) (by omega) (by omega); omega
  refine ⟨grownCap w m 0 3, w.drew.alloc (.cells ((List.replicate m (Value.int .i64 0)).toArray ++ (List.replicate (grownCap w m 0 3 - m) (Value.int .i64 0)).toArray) 3), ?_, hge, hcm, ⟨List.replicate m (Value.int .i64 0) ++ List.replicate (grownCap w m 0 3 - m) (Value.int .i64 0), ?_, by simp; omega⟩, (Below.refl _ _).drew.alloc (Nat.le_refl _) _⟩
  · have hle : ¬ ((m : Int) ≤ 0) := by omega
    have hsm : ¬ (281474976710656 < (m : Int) * 8) := by omega
    simp [Builtin.append_, run_underlying ht, run_underlying hti, has, hcl, hle, hsm, sizeOf, typeInfo, zeroValue, hi, hz, hsize, hby, hwr, hneg, hbig, hm0, h48, zeroCells_int, Question.forced, run_firstCells_none, newRow, grownCap]
    try (intro h; omega)
  · refine (heap_alloc_new w.drew _).trans ?_
    simp

theorem wpList_zerosI {w : World} {ops : Array Oper} {rest : List Oper} {o : Oper} {a : Act} {Q : Exit → Act → World → Prop} (hgd : o.guard = none) (s x : Operand)
    (ho : o.op = .call { callee := .builtin .append, args := #[s, x], argTypes := #[65, 3] }) (hs : a.eval s = .slice none 0 0) (m : Nat) (M : Int) (hx : a.eval x = .int .i64 M) (hM : M = m) (hm : 0 < m) (hb : m ≤ 1048576)
    (h : ∀ C w', m ≤ C → C ≤ maxLen → (∃ zs : List Value, w'.heap[w.heap.size]? = some (.cells zs.toArray 3 (0, 0)) ∧ zs.length = C) → Below w.heap.size w w' → wpList Tryz.prog ops Q rest (a.put o.dst (.slice (some ⟨w.heap.size, 0, none⟩) m C)) w') :
    wpList Tryz.prog ops Q (o :: rest) a w := by
  refine wpList_plain hgd fun K hK => ?_
  subst hM
  obtain ⟨C, w', hr, h1, h2, h3, h4⟩ := run_zerosI w o.type m hm hb
  unfold Oper.wp
  simp [execOp, ho, resolve, invoke, builtin, hs, hx, hr, Result.andThen]
  exact hK _ _ (h C w' h1 h2 h3 h4)

theorem growI_any (n : Nat) (w : World) (h1 : 1 ≤ n) (hn : n ≤ 1048576) :
    Calls Tryz.prog 171 #[.slice none 0 0, .int .i64 n] w fun e w' => ∃ c, e = .returned (.slice (some ⟨w.heap.size, 0, none⟩) 0 c) ∧ OI w' w.heap.size (.slice (some ⟨w.heap.size, 0, none⟩) 0 c) [] ∧ Below w.heap.size w w' := by
  have hnp : (0 : Int) < n := by omega
  go_enter Tryz.func171, Tryz.ntmps171
  go_wp2_with (at_builtin; refine wpList_zerosI rfl _ _ rfl rfl n _ rfl (by first | rfl | (simp; done)) (by omega) (by omega) ?_)
  intro C w1 h1 h2 zs h3 h5 h4
  have HO : Hid (OI w1 w.heap.size (.slice (some ⟨w.heap.size, 0, none⟩) 0 C) []) := ⟨by simp, .inr ⟨w.heap.size, C, _, rfl, Nat.le_refl _, h3, Nat.zero_le _, h2, by simp at h5 ⊢; omega, by simp⟩⟩
  have HB := hide h4
  unfold maxLen at h2
  clear h3 h4 h5
  go_wp2
  go_ret
  exact ⟨_, rfl, HO.out, HB.out⟩

set_option maxHeartbeats 1000000 in
theorem concat_any (g : Nat) (v1 v2 : Value) (l1 l2 : List Int) (w : World) (hg : w.heap[g]? = some (.cells #[v1, v2] 65 (0, 0))) (s1 : SI w v1 l1) (s2 : SI w v2 l2) (h1 : 1 ≤ l1.length) (hn : l1.length + l2.length ≤ 100000) :
    Calls Tryz.prog 145 #[.slice (some ⟨g, 0, none⟩) 2 2] w fun e w' => ∃ a c, e = .returned (.slice a (l1 ++ l2).length c) ∧ OI w' w.heap.size (.slice a (l1 ++ l2).length c) (l1 ++ l2) ∧ Below w.heap.size w w' := by
  have H1 := hide s1
  have H2 := hide s2
  have hgl : g < w.heap.size := by
    rcases Nat.lt_or_ge g w.heap.size with h | h
    · exact h
    · rw [Array.getElem?_eq_none h] at hg; cases hg
  obtain ⟨a1, c1, rfl, hc1, hd1⟩ := s1.open
  obtain ⟨a2, c2, rfl, hc2, hd2⟩ := s2.open
  have e0 : w.cell? ⟨g, 0, none⟩ = some (.slice a1 l1.length c1) := by unfold World.cell?; rw [hg]; rfl
  have e1 : w.cell? ⟨g, 1, none⟩ = some (.slice a2 l2.length c2) := by unfold World.cell?; rw [hg]; rfl
  clear s1 s2
  go_enter Tryz.func145, Tryz.ntmps145
  go_wp2
  refine wp_loop_rounds 3 ?_
  rw [rounds_succ]
  go_wp2
  rw [rounds_succ]
  go_wp2
  rw [rounds_succ]
  go_wp2_with fail
  have HGR := hide (growI_any (l1.length + l2.length) w (by omega) (by omega))
  rw [Int.natCast_add] at HGR
  refine HGR.out.mono ?_
  rintro e w1 ⟨c3, rfl, o3, b3⟩
  have HO3 := hide o3
  have HB3 := hide b3
  have f0 : w1.cell? ⟨g, 0, none⟩ = some (.slice a1 l1.length c1) := (b3.cell hgl).trans e0
  have HS1 := hide (H1.out.below b3).src
  have hb3 := b3.size
  clear HGR o3 b3
  go_wp2
  refine wp_loop_rounds 3 ?_
  rw [rounds_succ]
  go_wp2_with (at_builtin; refine wpList_appI rfl _ _ 65 rfl w.heap.size (.slice (some ⟨w.heap.size, 0, none⟩) 0 c3) _ [] l1 rfl HO3.out rfl HS1.out (by simp; omega) (by omega) ?_)
  intro v4 w4 ho4 hg4
  have HB4 := hide (HB3.out.grown hg4.by hb3 (fun j hj => (HO3.out.lt j hj).1))
  have HO4 : Hid (OI w4 w.heap.size v4 l1) := ho4
  have f1 : w4.cell? ⟨g, 1, none⟩ = some (.slice a2 l2.length c2) := (HB4.out.cell hgl).trans e1
  have HS2 := hide (H2.out.below HB4.out).src
  have hb4 := HB4.out.size
  obtain ⟨a4, c4, hv4⟩ := HO4.out.shape
  subst hv4
  clear ho4 hg4
  go_wp2
  rw [rounds_succ]
  go_wp2_with (at_builtin; refine wpList_appI rfl _ _ 65 rfl w.heap.size (.slice a4 l1.length c4) _ l1 l2 rfl HO4.out rfl HS2.out (by omega) (by omega) ?_)
  intro v5 w5 ho5 hg5
  have HB5 := hide (HB4.out.grown hg5.by hb4 (fun j hj => (HO4.out.lt j hj).1))
  have HO5 := hide ho5
  obtain ⟨a5, c5, hv5⟩ := ho5.shape
  subst hv5
  clear ho5 hg5
  go_wp2
  rw [rounds_succ]
  go_wp2
  go_ret
  exact ⟨_, _, rfl, HO5.out, HB5.out⟩

def tlk (l : List Int) (f : Nat) : Nat → Nat
  | 0 => 0
  | n + 1 => if f < n + 1 ∧ l.getD n 0 = 0 then tlk l f n else n + 1
def tln (l : List Int) (f : Nat) : Nat := tlk l f l.length
def trm (l : List Int) (f : Nat) : List Int := l.take (tln l f) ++ List.replicate (f - tln l f) 0

theorem tl_le (l : List Int) (f : Nat) : ∀ n, tlk l f n ≤ n
  | 0 => Nat.le_refl _
  | n + 1 => by simp only [tlk]; split
                · have := tl_le l f n; omega
                · exact Nat.le_refl _
theorem tl_ge (l : List Int) (f : Nat) : ∀ n, f ≤ n → f ≤ tlk l f n
  | 0, h => h
  | n + 1, h => by simp only [tlk]; split
                   · rename_i q; exact tl_ge l f n (by omega)
                   · exact h
theorem tl_low (l : List Int) (f n : Nat) (h : n ≤ f) : tlk l f n = n := by
  cases n with
  | zero => rfl
  | succ n => simp only [tlk]; rw [if_neg (by omega)]
theorem tl_zero (l : List Int) (f : Nat) : ∀ n j, tlk l f n ≤ j → j < n → l.getD j 0 = 0
  | 0, _, _, h => by omega
  | n + 1, j, h1, h2 => by
    simp only [tlk] at h1
    split at h1
    · rename_i q
      by_cases e : j = n
      · rw [e]; exact q.2
      · exact tl_zero l f n j h1 (by omega)
    · omega

theorem tln_le (l : List Int) (f : Nat) : tln l f ≤ l.length := tl_le l f _
theorem trm_len (l : List Int) (f : Nat) : (trm l f).length = max (tln l f) f := by
  unfold trm
  rw [List.length_append, List.length_take, List.length_replicate]
  have := tln_le l f
  omega

theorem trm_all (l : List Int) (f : Nat) (h : ∀ x ∈ l, 0 ≤ x ∧ x ≤ 15) : ∀ x ∈ trm l f, 0 ≤ x ∧ x ≤ 15 := by
  intro x hx
  unfold trm at hx
  rcases List.mem_append.1 hx with e | e
  · exact h x (List.mem_of_mem_take e)
  · rw [List.mem_replicate] at e; omega

theorem trm_getD (l : List Int) (f j : Nat) : (trm l f).getD j 0 = l.getD j 0 := by
  unfold trm
  simp only [List.getD_eq_getElem?_getD]
  have hle := tln_le l f
  by_cases h : j < tln l f
  · rw [List.getElem?_append_left (by rw [List.length_take]; omega), List.getElem?_take, if_pos h]
  · rw [List.getElem?_append_right (by rw [List.length_take]; omega)]
    have z : (l[j]?).getD 0 = 0 := by
      by_cases q : j < l.length
      · have := tl_zero l f l.length j (by unfold tln at h; omega) q
        rwa [List.getD_eq_getElem?_getD] at this
      · rw [List.getElem?_eq_none (by omega)]; rfl
    rw [z, List.getElem?_replicate]
    split <;> rfl

theorem trm_cut {l : List Int} {f N : Nat} (hN : N = max (tln l f) f) (ht : tln l f < f → tln l f = l.length) : trm l f = l.take N ++ List.replicate (N - min N l.length) 0 := by
  have hle := tln_le l f
  unfold trm
  by_cases h : tln l f < f
  · have e := ht h
    have eN : N = f := by omega
    rw [eN, e, List.take_of_length_le (Nat.le_refl _), List.take_of_length_le (by omega), show f - min f l.length = f - l.length by omega]
  · have eN : N = tln l f := by omega
    rw [eN, show f - tln l f = 0 by omega, show tln l f - min (tln l f) l.length = 0 by omega]

set_option maxHeartbeats 2000000 in
theorem trimmed_any (v : Value) (l : List Int) (f : Nat) (w : World) (h : SI w v l) (hf : f ≤ 257) (hn : l.length ≤ 286) :
    Calls Tryz.prog 142 #[v, .int .i64 f] w fun e w' => ∃ g, e = .returned (.slice (some ⟨g, 0, none⟩) (trm l f).length (trm l f).length) ∧ OI w' w.heap.size (.slice (some ⟨g, 0, none⟩) (trm l f).length (trm l f).length) (trm l f) ∧ Below w.heap.size w w' := by
  have HS := hide h
  obtain ⟨ao, cap, rfl, hlc, hcm⟩ := h.open
  clear h
  go_enter Tryz.func142, Tryz.ntmps142
  go_wp2
  go_loopw [5] (fun i wr => ∃ k : Nat, k ≤ l.length ∧ i = .int .i64 k ∧ wr = w ∧ Hid (tln l f = tlk l f k) ∧ (k < f → k = l.length)) (fun i _ => (intOf i).toNat)
  case atStart => exact ⟨l.length, Nat.le_refl _, rfl, rfl, rfl, fun _ => rfl⟩
  case round =>
    obtain ⟨k, hk, rfl, hw, HK, hkf⟩ := hrel
    subst hw
    have EXITS : Hid (tln l f = k → ∀ Z : Prop, Z → Z) := fun _ _ z => z
    by_cases hlt : f < k
    · have hlt' : (f : Int) < (k : Int) := by omega
      obtain ⟨j, rfl⟩ : ∃ j, k = j + 1 := ⟨k - 1, by omega⟩
      obtain ⟨b, o, rfl, hc⟩ := HS.out.get (Below.refl _ _) (k := j) (by omega)
      have HT : Hid (tlk l f (j + 1) = if l.getD j 0 = 0 then tlk l f j else j + 1) := by
        show _ = _
        simp only [tlk]
        by_cases q : l.getD j 0 = 0
        · rw [if_pos ⟨hlt, q⟩, if_pos q]
        · rw [if_neg (fun z => q z.2), if_neg q]
      obtain ⟨y, HY⟩ : ∃ y, Hid (y = l.getD j 0) := ⟨_, rfl⟩
      rw [← HY.out] at hc HT
      have ej : ((j : Int) + 1 - 1) = (j : Int) := by omega
      by_cases hy : y = 0
      · subst hy
        have HK2 : Hid (tln l f = tlk l f j) := by show _ = _; rw [HK.out, HT.out, if_pos rfl]
        go_wp2
        go_roundw
        case rel => exact ⟨j, by omega, by go_num, trivial, HK2, by omega⟩
        case measure => simp [intOf]
      · have hy' : (y == 0) = false := by simpa using hy
        have HK2 : Hid (tln l f = j + 1) := by show _ = _; rw [HK.out, HT.out, if_neg hy]
        obtain ⟨N, hN1, hN2⟩ : ∃ N, N ≤ j + 1 ∧ j + 1 ≤ N := ⟨j + 1, Nat.le_refl _, Nat.le_refl _⟩
        have HNN : Hid (N = max (tln l f) f) := by show _ = _; rw [HK2.out]; omega
        have HTC : Hid (tln l f < f → tln l f = l.length) := fun q => by have := HK2.out; omega
        have HTR := hide (trm_cut (l := l) (f := f) (N := N) HNN.out HTC.out)
        have HLN : Hid ((trm l f).length = N) := by show _ = _; rw [trm_len]; exact HNN.out.symm
        obtain ⟨cs, HCS⟩ : ∃ cs, Hid (cs = (l.take N).map (Value.int .i64)) := ⟨_, rfl⟩
        have C1 : Hid (cs.length = Nat.min l.length N) := by show _ = _; rw [HCS.out, List.length_map, List.length_take]; exact Nat.min_comm _ _
        go_wp2_with (at_make; refine wpList_mkI rfl _ _ rfl _ _ _ _ N N rfl rfl (by omega) (by omega) (Nat.le_refl _) (by omega) ?_)
        intro w2 hg2 hb2
        have HG2 := hide hg2
        have HB2 := hide hb2
        have C2 : Hid (0 < cs.length → (some (⟨wr.heap.size, 0, none⟩ : Addr)) = some ⟨wr.heap.size, 0, none⟩ ∧ ∃ ad, (some (⟨b, o, none⟩ : Addr)) = some ad ∧ ∀ j v, cs[j]? = some v → w2.cell? (ad.add j) = some v) := by
          intro hp
          refine ⟨rfl, ?_⟩
          rw [C1.out] at hp
          obtain ⟨ao', cap', he, _, _, hnil, hcell⟩ := HS.out
          simp only [Value.slice.injEq] at he
          obtain ⟨rfl, -, rfl⟩ := he
          cases hq : (some (⟨b, o, none⟩ : Addr)) with
          | none => exact absurd (hnil hq) (by have : Nat.min l.length N ≤ l.length := Nat.min_le_left _ _; omega)
          | some x =>
            refine ⟨x, rfl, fun j u hj => ?_⟩
            rw [HCS.out] at hj
            obtain ⟨hjl, rfl⟩ := List.getElem?_eq_some_iff.1 hj
            have hjl' : j < l.length := by simp at hjl; omega
            have hc := hcell x hq j hjl'
            rw [HB2.out.cell (World.block_lt_of_cell? _ _ hc), hc]
            simp [hjl']
        have C3 : Hid (0 + cs.length ≤ (List.replicate N (Value.int .i64 0)).length) := by show _ ≤ _; rw [C1.out, List.length_replicate, Nat.zero_add]; exact Nat.min_le_right _ _
        have C4 : Hid (∀ v ∈ cs, v.oneCell' = true) := by rw [HCS.out]; intro u hu; obtain ⟨n, _, rfl⟩ := List.mem_map.1 hu; rfl
        clear hg2 hb2
        go_wp2_with (refine wpList_copy_splice rfl _ _ 65 65 rfl 3 Tryz.underlying65 sizeInt _ _ _ _ _ _ rfl rfl wr.heap.size 0 (List.replicate N (Value.int .i64 0)) 3 HG2.out cs C1.out C2.out C3.out C4.out wr.heap.size wr HB2.out (Nat.le_refl _) ?_)
        intro w3 HG3 hb3
        have HF : Hid (OI w3 wr.heap.size (.slice (some ⟨wr.heap.size, 0, none⟩) N N) (trm l f)) := by
          have e : splice (List.replicate N (Value.int .i64 0)) 0 cs = (trm l f).map (Value.int .i64) := by
            have hc1 := C1.out
            rw [HTR.out, List.map_append, List.map_replicate, ← HCS.out]
            simp only [splice, List.take_zero, List.nil_append, Nat.zero_add, List.drop_replicate]
            rw [hc1]
            congr 2
            have : Nat.min l.length N = min N l.length := Nat.min_comm _ _
            omega
          have h := HG3.out
          rw [e] at h
          have := OI.of_full h (Nat.le_refl _) (by rw [HLN.out]; unfold maxLen; omega)
          rwa [HLN.out] at this
        have HB3 := hide hb3
        clear hb3 HG3
        go_wp2
        go_ret
        rw [HLN.out]
        exact ⟨_, rfl, HF.out, HB3.out⟩
    · have hlt' : ¬ (f : Int) < (k : Int) := by omega
      have hd : decide ((f : Int) < (k : Int)) = false := decide_eq_false hlt'
      have HK2 : Hid (tln l f = k) := by show _ = _; rw [HK.out, tl_low l f k (by omega)]
      obtain ⟨N, hN1, hN2⟩ : ∃ N, N ≤ f ∧ f ≤ N := ⟨f, Nat.le_refl _, Nat.le_refl _⟩
      have HNN : Hid (N = max (tln l f) f) := by show _ = _; rw [HK2.out]; omega
      have HTC : Hid (tln l f < f → tln l f = l.length) := fun q => by have := HK2.out; omega
      by_cases kf : k < f
      · have kf' : (k : Int) < (f : Int) := by omega
        have kf2 : (k : Int) ≤ (f : Int) := by omega
        have HTR := hide (trm_cut (l := l) (f := f) (N := N) HNN.out HTC.out)
        have HLN : Hid ((trm l f).length = N) := by show _ = _; rw [trm_len]; exact HNN.out.symm
        obtain ⟨cs, HCS⟩ : ∃ cs, Hid (cs = (l.take N).map (Value.int .i64)) := ⟨_, rfl⟩
        have C1 : Hid (cs.length = Nat.min l.length N) := by show _ = _; rw [HCS.out, List.length_map, List.length_take]; exact Nat.min_comm _ _
        go_wp2_with (at_make; refine wpList_mkI rfl _ _ rfl _ _ _ _ N N rfl rfl (by omega) (by omega) (Nat.le_refl _) (by omega) ?_)
        intro w2 hg2 hb2
        have HG2 := hide hg2
        have HB2 := hide hb2
        have C2 : Hid (0 < cs.length → (some (⟨wr.heap.size, 0, none⟩ : Addr)) = some ⟨wr.heap.size, 0, none⟩ ∧ ∃ ad, ao = some ad ∧ ∀ j v, cs[j]? = some v → w2.cell? (ad.add j) = some v) := by
          intro hp
          refine ⟨rfl, ?_⟩
          rw [C1.out] at hp
          obtain ⟨ao', cap', he, _, _, hnil, hcell⟩ := HS.out
          simp only [Value.slice.injEq] at he
          obtain ⟨rfl, -, rfl⟩ := he
          cases hq : ao with
          | none => exact absurd (hnil hq) (by have : Nat.min l.length N ≤ l.length := Nat.min_le_left _ _; omega)
          | some x =>
            refine ⟨x, rfl, fun j u hj => ?_⟩
            rw [HCS.out] at hj
            obtain ⟨hjl, rfl⟩ := List.getElem?_eq_some_iff.1 hj
            have hjl' : j < l.length := by simp at hjl; omega
            have hc := hcell x hq j hjl'
            rw [HB2.out.cell (World.block_lt_of_cell? _ _ hc), hc]
            simp [hjl']
        have C3 : Hid (0 + cs.length ≤ (List.replicate N (Value.int .i64 0)).length) := by show _ ≤ _; rw [C1.out, List.length_replicate, Nat.zero_add]; exact Nat.min_le_right _ _
        have C4 : Hid (∀ v ∈ cs, v.oneCell' = true) := by rw [HCS.out]; intro u hu; obtain ⟨n, _, rfl⟩ := List.mem_map.1 hu; rfl
        clear hg2 hb2
        go_wp2_with (refine wpList_copy_splice rfl _ _ 65 65 rfl 3 Tryz.underlying65 sizeInt _ _ _ _ _ _ rfl rfl wr.heap.size 0 (List.replicate N (Value.int .i64 0)) 3 HG2.out cs C1.out C2.out C3.out C4.out wr.heap.size wr HB2.out (Nat.le_refl _) ?_)
        intro w3 HG3 hb3
        have HF : Hid (OI w3 wr.heap.size (.slice (some ⟨wr.heap.size, 0, none⟩) N N) (trm l f)) := by
          have e : splice (List.replicate N (Value.int .i64 0)) 0 cs = (trm l f).map (Value.int .i64) := by
            have hc1 := C1.out
            rw [HTR.out, List.map_append, List.map_replicate, ← HCS.out]
            simp only [splice, List.take_zero, List.nil_append, Nat.zero_add, List.drop_replicate]
            rw [hc1]
            congr 2
            have : Nat.min l.length N = min N l.length := Nat.min_comm _ _
            omega
          have h := HG3.out
          rw [e] at h
          have := OI.of_full h (Nat.le_refl _) (by rw [HLN.out]; unfold maxLen; omega)
          rwa [HLN.out] at this
        have HB3 := hide hb3
        clear hb3 HG3
        go_wp2
        go_ret
        rw [HLN.out]
        exact ⟨_, rfl, HF.out, HB3.out⟩
      · obtain rfl : k = f := by omega
        have HTR := hide (trm_cut (l := l) (f := k) (N := N) HNN.out HTC.out)
        have HLN : Hid ((trm l k).length = N) := by show _ = _; rw [trm_len]; exact HNN.out.symm
        obtain ⟨cs, HCS⟩ : ∃ cs, Hid (cs = (l.take N).map (Value.int .i64)) := ⟨_, rfl⟩
        have C1 : Hid (cs.length = Nat.min l.length N) := by show _ = _; rw [HCS.out, List.length_map, List.length_take]; exact Nat.min_comm _ _
        go_wp2_with (at_make; refine wpList_mkI rfl _ _ rfl _ _ _ _ N N rfl rfl (by omega) (by omega) (Nat.le_refl _) (by omega) ?_)
        intro w2 hg2 hb2
        have HG2 := hide hg2
        have HB2 := hide hb2
        have C2 : Hid (0 < cs.length → (some (⟨wr.heap.size, 0, none⟩ : Addr)) = some ⟨wr.heap.size, 0, none⟩ ∧ ∃ ad, ao = some ad ∧ ∀ j v, cs[j]? = some v → w2.cell? (ad.add j) = some v) := by
          intro hp
          refine ⟨rfl, ?_⟩
          rw [C1.out] at hp
          obtain ⟨ao', cap', he, _, _, hnil, hcell⟩ := HS.out
          simp only [Value.slice.injEq] at he
          obtain ⟨rfl, -, rfl⟩ := he
          cases hq : ao with
          | none => exact absurd (hnil hq) (by have : Nat.min l.length N ≤ l.length := Nat.min_le_left _ _; omega)
          | some x =>
            refine ⟨x, rfl, fun j u hj => ?_⟩
            rw [HCS.out] at hj
            obtain ⟨hjl, rfl⟩ := List.getElem?_eq_some_iff.1 hj
            have hjl' : j < l.length := by simp at hjl; omega
            have hc := hcell x hq j hjl'
            rw [HB2.out.cell (World.block_lt_of_cell? _ _ hc), hc]
            simp [hjl']
        have C3 : Hid (0 + cs.length ≤ (List.replicate N (Value.int .i64 0)).length) := by show _ ≤ _; rw [C1.out, List.length_replicate, Nat.zero_add]; exact Nat.min_le_right _ _
        have C4 : Hid (∀ v ∈ cs, v.oneCell' = true) := by rw [HCS.out]; intro u hu; obtain ⟨n, _, rfl⟩ := List.mem_map.1 hu; rfl
        clear hg2 hb2
        go_wp2_with (refine wpList_copy_splice rfl _ _ 65 65 rfl 3 Tryz.underlying65 sizeInt _ _ _ _ _ _ rfl rfl wr.heap.size 0 (List.replicate N (Value.int .i64 0)) 3 HG2.out cs C1.out C2.out C3.out C4.out wr.heap.size wr HB2.out (Nat.le_refl _) ?_)
        intro w3 HG3 hb3
        have HF : Hid (OI w3 wr.heap.size (.slice (some ⟨wr.heap.size, 0, none⟩) N N) (trm l k)) := by
          have e : splice (List.replicate N (Value.int .i64 0)) 0 cs = (trm l k).map (Value.int .i64) := by
            have hc1 := C1.out
            rw [HTR.out, List.map_append, List.map_replicate, ← HCS.out]
            simp only [splice, List.take_zero, List.nil_append, Nat.zero_add, List.drop_replicate]
            rw [hc1]
            congr 2
            have : Nat.min l.length N = min N l.length := Nat.min_comm _ _
            omega
          have h := HG3.out
          rw [e] at h
          have := OI.of_full h (Nat.le_refl _) (by rw [HLN.out]; unfold maxLen; omega)
          rwa [HLN.out] at this
        have HB3 := hide hb3
        clear hb3 HG3
        go_wp2
        go_ret
        rw [HLN.out]
        exact ⟨_, rfl, HF.out, HB3.out⟩
end Go.Proofs.YtfoglaajnlbnbaaGreatDoor

namespace Go.Proofs.YtfoglaajnlbnbaaGreatDoor
open Go.RowKit Go.Maps
set_option maxRecDepth 20000
set_option linter.unusedVariables false

theorem tab_cases (s : Nat) (h : s < 19) : (lst s = 1 ∧ frt s = 0 ∧ mst s = 1) ∨ (lst s = 3 ∧ frt s = 2 ∧ mst s = 6) ∨ (lst s = 3 ∧ frt s = 3 ∧ mst s = 10) ∨ (lst s = 11 ∧ frt s = 7 ∧ mst s = 138) := by
  unfold lst frt mst
  by_cases h1 : (s : Int) < 16
  · left; rw [if_pos h1, if_pos h1, if_pos h1]; exact ⟨rfl, rfl, rfl⟩
  · by_cases h2 : (s : Int) = 16
    · right; left; rw [h2]; exact ⟨rfl, rfl, rfl⟩
    · by_cases h3 : (s : Int) = 17
      · right; right; left; rw [h3]; exact ⟨rfl, rfl, rfl⟩
      · right; right; right; rw [show (s : Int) = 18 by omega]; exact ⟨rfl, rfl, rfl⟩

theorem most_any (s : Nat) (w : World) (hs : s < 19) (T : Tab w) : Calls Tryz.prog 188 #[.int .i64 s] w fun e w' => e = .returned (.int .i64 (mst s)) ∧ ∃ q, w' = w.drewN q := by
  have c1 := T.least s hs
  have c2 := T.further s hs
  have hs' : (s : Int) < 19 := by omega
  have C := tab_cases s hs
  clear T
  rcases C with ⟨a, b, c⟩ | ⟨a, b, c⟩ | ⟨a, b, c⟩ | ⟨a, b, c⟩ <;>
  · rw [a] at c1
    rw [b] at c2
    rw [c]
    clear a b c
    go_enter Tryz.func188, Tryz.ntmps188
    go_wp2
    go_quiet (fail)
    go_wp2
    go_ret
    exact ⟨rfl, _, rfl⟩

theorem all_snoc {l : List Int} {k : Nat} (hk : k < l.length) (h : ∀ x ∈ l.take k, 0 ≤ x ∧ x ≤ 15) (h1 : 0 ≤ l.getD k 0 ∧ l.getD k 0 ≤ 15) : ∀ x ∈ l.take (k + 1), 0 ≤ x ∧ x ≤ 15 := by
  intro x hx
  rw [List.take_succ_eq_append_getElem hk] at hx
  rcases List.mem_append.1 hx with e | e
  · exact h x e
  · rw [List.mem_singleton.1 e]
    have : l.getD k 0 = l[k] := by simp [hk]
    rw [← this]; exact h1

theorem wth_bad {l : List Int} {k : Nat} (hk : k < l.length) (h : ¬ (0 ≤ l.getD k 0 ∧ l.getD k 0 ≤ 15)) : wthb l = false := by
  rw [Bool.eq_false_iff]
  intro e
  exact h (wth_iff.1 e _ (by rw [show l.getD k 0 = l[k] by simp [hk]]; exact List.getElem_mem hk))

theorem codeLengths_any (v : Value) (l : List Int) (w : World) (h : SI w v l) :
    Calls Tryz.prog 141 #[v] w fun e w' => e = .returned (.bool (wthb l)) ∧ w' = w := by
  have HS := hide h
  obtain ⟨ao, cap, rfl, hlc, hcm⟩ := h.open
  clear h
  go_enter Tryz.func141, Tryz.ntmps141
  go_wp2
  go_loopw [7] (fun i wr => ∃ k : Nat, k ≤ l.length ∧ i = .int .i64 k ∧ wr = w ∧ Hid (∀ x ∈ l.take k, 0 ≤ x ∧ x ≤ 15)) (fun i _ => l.length - (intOf i).toNat)
  case atStart => exact ⟨0, Nat.zero_le _, rfl, rfl, fun x hx => by simp at hx⟩
  case round =>
    obtain ⟨k, hk, rfl, hw, HA⟩ := hrel
    subst hw
    by_cases hlt : k < l.length
    · have hlt' : (k : Int) < (l.length : Int) := by omega
      obtain ⟨b, o, rfl, hc⟩ := HS.out.get (Below.refl _ _) hlt
      have HN := hide (fun q => all_snoc hlt HA.out q)
      have HB := hide (fun q => wth_bad hlt q)
      obtain ⟨y, HY⟩ : ∃ y, Hid (y = l.getD k 0) := ⟨_, rfl⟩
      rw [← HY.out] at hc HN HB
      by_cases h0 : y < 0
      · have HF : Hid (wthb l = false) := HB.out (by omega)
        go_wp2
        go_ret
        rw [HF.out]
        exact ⟨rfl, rfl⟩
      · by_cases h15 : 15 < y
        · have HF : Hid (wthb l = false) := HB.out (by omega)
          go_wp2
          go_ret
          rw [HF.out]
          exact ⟨rfl, rfl⟩
        · have HN2 := hide (HN.out ⟨by omega, by omega⟩)
          go_wp2
          go_roundw
          case rel => exact ⟨k + 1, by omega, by go_num, trivial, HN2⟩
          case measure => simp [intOf]; omega
    · obtain rfl : k = l.length := by omega
      have hlt' : ¬ (l.length : Int) < (l.length : Int) := by omega
      have HF : Hid (wthb l = true) := wth_iff.2 (by have := HA.out; rwa [List.take_of_length_le (Nat.le_refl _)] at this)
      go_wp2
      go_ret
      rw [HF.out]
      exact ⟨rfl, rfl⟩

theorem meant_any (s : Int) (v : Value) (l : List Int) (w : World) (h : SI w v l) (h16 : s = 16 → 0 < l.length) :
    Calls Tryz.prog 187 #[.int .i64 s, v] w fun e w' => e = .returned (.int .i64 (mnt s l)) ∧ w' = w := by
  have HS := hide h
  obtain ⟨ao, cap, rfl, hlc, hcm⟩ := h.open
  clear h
  by_cases c1 : s < 16
  · have HM : Hid (mnt s l = s) := by show _ = _; unfold mnt; rw [if_pos c1]
    clear h16
    go_enter Tryz.func187, Tryz.ntmps187
    go_wp2
    go_ret
    rw [HM.out]
    exact ⟨rfl, rfl⟩
  · by_cases c2 : s = 16
    · subst c2
      have hl := h16 rfl
      obtain ⟨b, o, rfl, hc⟩ := HS.out.get (Below.refl _ _) (k := l.length - 1) (by omega)
      have HM : Hid (mnt 16 l = l.getD (l.length - 1) 0) := rfl
      obtain ⟨y, HY⟩ : ∃ y, Hid (y = l.getD (l.length - 1) 0) := ⟨_, rfl⟩
      rw [← HY.out] at hc HM
      obtain ⟨n, hn⟩ : ∃ n, l.length = n + 1 := ⟨l.length - 1, by omega⟩
      rw [hn] at hc hlc ⊢
      rw [Nat.add_sub_cancel] at hc
      clear HS hl hn h16 c1
      go_enter Tryz.func187, Tryz.ntmps187
      go_wp2
      go_ret
      rw [HM.out]
      exact ⟨rfl, rfl⟩
    · have HM : Hid (mnt s l = 0) := by show _ = _; unfold mnt; rw [if_neg c1, if_neg c2]
      have c3 : (s == 16) = false := by simpa using c2
      clear h16
      go_enter Tryz.func187, Tryz.ntmps187
      go_wp2
      go_ret
      rw [HM.out]
      exact ⟨rfl, rfl⟩
end Go.Proofs.YtfoglaajnlbnbaaGreatDoor

namespace Go.Proofs.YtfoglaajnlbnbaaGreatDoor
open Go.RowKit Go.Maps
set_option maxRecDepth 20000

instance (l : List Int) : Decidable (Lens l) := by unfold Lens; exact inferInstance

def chkE (l : List Int) : Int := if 288 < l.length then 1 else if Lens l then 0 else 50
def chkS (l : List Int) : Int := if Lens l then shp l else 0

def okTo (l : List Int) (k : Nat) : Prop := ∀ i, i < k → 0 ≤ l.getD i 0 ∧ l.getD i 0 ≤ 15

theorem okTo_lens {l : List Int} (h : okTo l l.length) (h2 : l.length ≤ 288) : Lens l := by
  refine ⟨h2, fun x hx => ?_⟩
  obtain ⟨i, hi, rfl⟩ := List.getElem_of_mem hx
  have := h i hi
  rwa [show l.getD i 0 = l[i] by simp [hi]] at this

theorem okTo_succ {l : List Int} {k : Nat} (h : okTo l k) (hk : 0 ≤ l.getD k 0 ∧ l.getD k 0 ≤ 15) : okTo l (k + 1) := fun i hi => by
  by_cases e : i = k
  · subst e; exact hk
  · exact h i (by omega)

theorem not_lens {l : List Int} {k : Nat} (h : ¬ (0 ≤ l.getD k 0 ∧ l.getD k 0 ≤ 15)) : ¬ Lens l := fun hl => h (hl.at k)

theorem check_any (v : Value) (l : List Int) (w : World) (h : SI w v l) :
    Calls Tryz.prog 128 #[v] w fun e w' => e = .returned (.tuple #[.int .i64 (chkS l), .int .i64 (chkE l)]) ∧ Below w.heap.size w w' := by
  have HS := hide h
  obtain ⟨ao, cap, rfl, hlc, hcm⟩ := h.open
  clear h
  by_cases hlen : 288 < l.length
  · have hlen' : (288 : Int) < l.length := by omega
    have hn : ¬ Lens l := fun h => by have := h.1; omega
    have HE : Hid (chkE l = 1 ∧ chkS l = 0) := ⟨if_pos hlen, if_neg hn⟩
    clear hn
    go_enter Tryz.func128, Tryz.ntmps128
    go_wp2
    go_ret2
    rw [HE.out.1, HE.out.2]
    exact ⟨rfl, Below.refl _ _⟩
  have hlen' : ¬ (288 : Int) < l.length := by omega
  have HNL := hide hlen
  clear hlen
  go_enter Tryz.func128, Tryz.ntmps128
  go_wp2
  go_loopw [11] (fun i wr => ∃ k : Nat, k ≤ l.length ∧ i = .int .i64 k ∧ wr = w ∧ Hid (okTo l k)) (fun i _ => l.length - (intOf i).toNat)
  case atStart => exact ⟨0, Nat.zero_le _, rfl, rfl, fun i hi => by omega⟩
  case round =>
    obtain ⟨k, hk, rfl, rfl, HT⟩ := hrel
    by_cases hlt : k < l.length
    · have hlt' : (k : Int) < (l.length : Int) := by omega
      obtain ⟨b, o, rfl, hc⟩ := HS.out.get (Below.refl _ _) hlt
      obtain ⟨x, HX⟩ : ∃ x, Hid (x = l.getD k 0) := ⟨_, rfl⟩
      rw [← HX.out] at hc
      by_cases hb : 0 ≤ x ∧ x ≤ 15
      · have HN : Hid (okTo l (k + 1)) := okTo_succ HT.out (by rw [← HX.out]; exact hb)
        obtain ⟨b0, b1⟩ := hb
        have b0' : ¬ x < 0 := by omega
        have b1' : ¬ 15 < x := by omega
        clear HT
        go_wp2
        go_roundw
        case rel => exact ⟨k + 1, by omega, by go_num, by trivial, HN⟩
        case measure => simp [intOf]; omega
      · have hn : ¬ Lens l := not_lens (k := k) (by rw [← HX.out]; exact hb)
        have HE : Hid (chkE l = 50 ∧ chkS l = 0) := ⟨by unfold chkE; rw [if_neg HNL.out, if_neg hn], if_neg hn⟩
        clear hn
        by_cases b0 : x < 0
        · clear hb
          go_wp2
          go_ret2
          rw [HE.out.1, HE.out.2]
          exact ⟨rfl, Below.refl _ _⟩
        · have b1 : 15 < x := by omega
          clear hb
          go_wp2
          go_ret2
          rw [HE.out.1, HE.out.2]
          exact ⟨rfl, Below.refl _ _⟩
    · obtain rfl : k = l.length := by omega
      have hl : Lens l := okTo_lens HT.out (by have := HNL.out; omega)
      have HL := hide hl
      have HE : Hid (chkE l = 0 ∧ chkS l = shp l) := ⟨by unfold chkE; rw [if_neg HNL.out, if_pos hl], if_pos hl⟩
      have hlt' : ¬ (l.length : Int) < (l.length : Int) := by omega
      clear hl HT
      go_wp2_with fail
      refine (count_any _ l _ HS.out HL.out).mono ?_
      rintro e w1 ⟨rfl, hb1⟩
      have HB1 := hide hb1
      clear hb1
      go_wp2_with fail
      refine (shape_any l _ HL.out).mono ?_
      rintro e w2 ⟨rfl, hb2⟩
      have HB2 : Hid (Below wr.heap.size wr w2) := HB1.out.trans (hb2.mono HB1.out.size)
      clear hb2
      go_wp2
      go_ret2
      rw [HE.out.1, HE.out.2]
      exact ⟨rfl, HB2.out⟩

theorem chkE_zero {l : List Int} (h : chkE l = 0) : Lens l ∧ chkS l = shp l := by
  unfold chkE at h
  by_cases h1 : 288 < l.length
  · rw [if_pos h1] at h; omega
  · rw [if_neg h1] at h
    by_cases h2 : Lens l
    · exact ⟨h2, if_pos h2⟩
    · rw [if_neg h2] at h; omega

end Go.Proofs.YtfoglaajnlbnbaaGreatDoor

