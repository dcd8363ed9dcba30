import Derived.Test.YtegoienjikjhkaaDoorGA02
import Derived.WalkKit
import Derived.ProofKit
import Derived.OpenShut
import Derived.ShutString
import Derived.ChangeOld
import Derived.Below
import Derived.WalkLawsBesides
import Derived.WalkSpells
import Derived.Deep.QuietTactic
import Derived.BigQuiet
import Derived.Laws.CopyOwn
import Derived.SizedLaws
import Derived.Maps.Own
import Derived.Laws.BytesArg
import Derived.Laws.BitsLemmas
import Derived.Maps.AppendAt
import Derived.Deep.AppendSrc
import Derived.Deep.AppendLies
import Derived.Deep.RegionLaw
import Derived.Handy
import Derived.Laws.Rows
import Derived.Laws.Tables
import Derived.BigRegion
namespace Go.Proofs.YtegoienjikjhkaaDoor
open Go.RowKit Go.Maps
set_option maxRecDepth 20000
end Go.Proofs.YtegoienjikjhkaaDoor

namespace Go.Proofs.YtegoienjikjhkaaDoor
open Go.RowKit Go.Maps
set_option maxRecDepth 20000

theorem take_snoc6 {l : List Int} {k : Nat} (h : k < l.length) : l.take (k + 1) = l.take k ++ [l.getD k 0] := by
  rw [List.take_succ_eq_append_getElem h]
  simp [h]

/-- One more behind an owned row. -/
theorem grow_one {w wr w3 : World} {u v3 : Value} {D : List Int} {o : Obj} (hB : Below w.heap.size w wr) (hO : OI wr w.heap.size u D) (hg : Grew (wr.alloc o) w3 u v3) : Below w.heap.size w w3 :=
  (hB.alloc hB.size _).grown hg.by (by have := hB.size; simp; omega) (fun j hj => by have := hO.lt j hj; omega)

def mk8 : List Int := List.replicate 8 (-77)

/-- A list with eight marks behind it. -/
def Lent6 (w : World) (base g c : Nat) (l : List Int) : Prop := OI w base (.slice (some ⟨g, 0, none⟩) (l.length + 8) c) (l ++ mk8)

theorem length_l8 (l : List Int) : (l ++ mk8).length = l.length + 8 := by rw [List.length_append]; rfl

theorem Lent6.cap {w : World} {base g c : Nat} {l : List Int} (h : Lent6 w base g c l) : l.length + 8 ≤ c ∧ c ≤ 9223372036854775807 := by
  obtain ⟨g', c', hv, h1, h2, h3, h4⟩ := OI.form h (by rw [length_l8]; omega)
  simp only [Value.slice.injEq] at hv
  obtain ⟨-, -, rfl⟩ := hv
  rw [length_l8] at h3
  exact ⟨h3, h4⟩

theorem Lent6.si {w : World} {base g c : Nat} {l : List Int} (h : Lent6 w base g c l) : SI w (.slice (some ⟨g, 0, none⟩) l.length c) l := OI.front (r := mk8) (by rw [length_l8]; exact h)

theorem Lent6.below {w w' : World} {base g c B : Nat} {l : List Int} (h : Lent6 w base g c l) (hb : Below B w w') (hB : w.heap.size ≤ B) : Lent6 w' base g c l := OI.below h hb hB

theorem rep_snoc (l : List Int) (k : Nat) : l ++ List.replicate (k + 1) (-77 : Int) = (l ++ List.replicate k (-77)) ++ [-77] := by
  rw [List.replicate_succ', List.append_assoc]

end Go.Proofs.YtegoienjikjhkaaDoor

namespace Go.Proofs.YtegoienjikjhkaaDoor
open Go.RowKit Go.Maps
set_option maxRecDepth 20000

/-- The first so many lie within 0 and hi. -/
def bnd (l : List Int) (hi : Int) (k : Nat) : Prop := ∀ i, i < k → 0 ≤ l.getD i 0 ∧ l.getD i 0 ≤ hi

def bnb (l : List Int) (hi : Int) : Bool := l.all fun x => decide (0 ≤ x) && decide (x ≤ hi)

theorem bnb_iff {l : List Int} {hi : Int} : bnb l hi = true ↔ bnd l hi l.length := by
  unfold bnb bnd
  simp only [List.all_eq_true, Bool.and_eq_true, decide_eq_true_eq]
  constructor
  · intro h i hi
    rw [show l.getD i 0 = l[i] by simp [hi]]
    exact h _ (List.getElem_mem hi)
  · intro h x hx
    obtain ⟨i, hi, rfl⟩ := List.getElem_of_mem hx
    have := h i hi
    rwa [show l.getD i 0 = l[i] by simp [hi]] at this

theorem bnd_succ {l : List Int} {hi : Int} {k : Nat} (h : bnd l hi k) (hk : 0 ≤ l.getD k 0 ∧ l.getD k 0 ≤ hi) : bnd l hi (k + 1) := fun i hi => by
  by_cases e : i = k
  · subst e; exact hk
  · exact h i (by omega)

theorem bnb_no {l : List Int} {hi : Int} {k : Nat} (hk : k < l.length) (h : ¬ (0 ≤ l.getD k 0 ∧ l.getD k 0 ≤ hi)) : bnb l hi = false := by
  cases e : bnb l hi with
  | false => rfl
  | true => exact absurd (bnb_iff.1 e k hk) h

theorem weighable_any (v : Value) (l : List Int) (w : World) (h : SI w v l) :
    Calls Tryd.prog 42 #[v] w fun e w' => e = .returned (.bool (bnb l 4294967296)) ∧ w' = w := by
  have HS := hide h
  obtain ⟨ao, cap, rfl, hlc, hcm⟩ := h.open
  clear h
  go_enter Tryd.func42, Tryd.ntmps42
  go_wp2
  go_loopw [7] (fun i wr => ∃ k : Nat, k ≤ l.length ∧ i = .int .i64 k ∧ wr = w ∧ Hid (bnd l 4294967296 k)) (fun i _ => l.length - (intOf i).toNat)
  case atStart => exact ⟨0, Nat.zero_le _, rfl, rfl, fun i hi => by omega⟩
  case round =>
    obtain ⟨k, hk, rfl, rfl, HT⟩ := hrel
    by_cases hlt : k < l.length
    · have hlt' : (k : Int) < (l.length : Int) := by omega
      obtain ⟨b, o, rfl, hc⟩ := HS.out.get (Below.refl _ _) hlt
      obtain ⟨x, HX⟩ : ∃ x, Hid (x = l.getD k 0) := ⟨_, rfl⟩
      rw [← HX.out] at hc
      by_cases hb : 0 ≤ x ∧ x ≤ 4294967296
      · have HN : Hid (bnd l 4294967296 (k + 1)) := bnd_succ HT.out (by rw [← HX.out]; exact hb)
        obtain ⟨b0, b1⟩ := hb
        have b0' : ¬ x < 0 := by omega
        have b1' : ¬ 4294967296 < x := by omega
        clear HT
        go_wp2
        go_roundw
        case rel => exact ⟨k + 1, by omega, by go_num, by trivial, HN⟩
        case measure => simp [intOf]; omega
      · have HE : Hid (bnb l 4294967296 = false) := bnb_no hlt (by rw [← HX.out]; exact hb)
        by_cases b0 : x < 0
        · clear hb
          go_wp2
          go_ret
          rw [HE.out]
          exact ⟨rfl, rfl⟩
        · have b1 : 4294967296 < x := by omega
          clear hb
          go_wp2
          go_ret
          rw [HE.out]
          exact ⟨rfl, rfl⟩
    · obtain rfl : k = l.length := by omega
      have hlt' : ¬ (l.length : Int) < (l.length : Int) := by omega
      have HE : Hid (bnb l 4294967296 = true) := bnb_iff.2 HT.out
      clear HT
      go_wp2
      go_ret
      rw [HE.out]
      exact ⟨rfl, rfl⟩

def cs (f n : List Int) : Nat → Int
  | 0 => 0
  | k + 1 => cs f n k + f.getD k 0 * n.getD k 0

def cstE (f n : List Int) : Int := if 288 < f.length ∨ n.length ≠ f.length ∨ bnb n 288 = false then 1 else if bnb f 4294967296 = false then 61 else 0
def cstV (f n : List Int) : Int := if cstE f n = 0 then cs f n f.length else 0

theorem cs_bound {f n : List Int} {k : Nat} (hf : bnd f 4294967296 k) (hn : bnd n 288 k) : 0 ≤ cs f n k ∧ cs f n k ≤ 1236950581248 * k := by
  induction k with
  | zero => simp [cs]
  | succ k ih =>
    obtain ⟨a, b⟩ := ih (fun i hi => hf i (by omega)) (fun i hi => hn i (by omega))
    obtain ⟨c, d⟩ := hf k (by omega)
    obtain ⟨p, q⟩ := hn k (by omega)
    simp only [cs]
    have h1 : 0 ≤ f.getD k 0 * n.getD k 0 := Int.mul_nonneg c p
    have h2 : f.getD k 0 * n.getD k 0 ≤ 4294967296 * 288 := Int.mul_le_mul d q p (by omega)
    omega

end Go.Proofs.YtegoienjikjhkaaDoor

