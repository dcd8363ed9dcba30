import Derived.Test.YtfoglaajnlbnbaaGreatDoorG33Xck
import Derived.Test.YtfoglaajnlbnbaaGreatDoorG27Vd2
import Derived.Test.YtfoglaajnlbnbaaGreatDoorG30HerdJ
namespace Go.Proofs.YtfoglaajnlbnbaaGreatDoor
open Go.RowKit Go.Maps
set_option maxRecDepth 20000

end Go.Proofs.YtfoglaajnlbnbaaGreatDoor

namespace Go.Proofs.YtfoglaajnlbnbaaGreatDoor
open Go.RowKit Go.Maps
set_option maxRecDepth 20000

end Go.Proofs.YtfoglaajnlbnbaaGreatDoor

namespace Go.Proofs.YtfoglaajnlbnbaaGreatDoor
open Go.RowKit Go.Maps
set_option maxRecDepth 20000

end Go.Proofs.YtfoglaajnlbnbaaGreatDoor

namespace Go.Proofs.YtfoglaajnlbnbaaGreatDoor
open Go.RowKit Go.Maps
set_option maxRecDepth 20000

structure It where
  kind : Int
  v : Int
  n : Int
  d : Value
  l : List Int

def ISc (w : World) (v : Value) (ops : List It) : Prop :=
  ∃ ao cap, v = .slice ao ops.length cap ∧ ops.length ≤ cap ∧ cap ≤ maxLen ∧ ∀ (i : Nat) (o : It), ops[i]? = some o → ∃ b of, ao = some ⟨b, of, none⟩ ∧ w.cell? ⟨b, of + i * 4, none⟩ = some (.int .i64 o.kind) ∧ w.cell? ⟨b, of + i * 4 + 1, none⟩ = some (.int .u32 o.v) ∧ w.cell? ⟨b, of + i * 4 + 2, none⟩ = some (.int .i64 o.n) ∧ w.cell? ⟨b, of + i * 4 + 3, none⟩ = some o.d

def IOk (w : World) (ops : List It) : Prop := ∀ o ∈ ops, (0 ≤ o.v ∧ o.v < 4294967296) ∧ SB w o.d o.l ∧ Byt o.l ∧ o.l.length ≤ 1048576

def wid (o : It) : Nat := (o.n % 33).toNat
def low (o : It) : Int := o.v % 2 ^ wid o

theorem IOk.take {w : World} {ops : List It} (h : IOk w ops) (k : Nat) : IOk w (ops.take k) := fun o ho => h o (List.mem_of_mem_take ho)

theorem Herd.box {W w : World} {xs : List ((Nat → Nat) × Thing)} (H : Herd W w xs) (i : Nat) {K : Nat → Nat} {B T : Nat} {cs : Array Value} (hi : xs[i]? = some (K, tb B (.cells cs T (0, 0)))) (j : Nat) : w.cell? ⟨B, j, none⟩ = cs[j]? := by
  have h : (tb B (.cells cs T (0, 0))).P w K := H.rep i _ hi
  have h1 : w.heap[B]? = some (.cells cs T (0, 0)) := h.1
  simp [World.cell?, h1]

theorem Herd.alloc {W w : World} {xs : List ((Nat → Nat) × Thing)} (h : Herd W w xs) (o : Obj) : ∃ K, Herd W (w.alloc o) (xs ++ [(K, tb w.heap.size o)]) := by
  refine ⟨fun k => if k = w.heap.size then 1 else 0, h.push ((Below.refl _ _).alloc (Nat.le_refl _) _) ⟨heap_alloc_new w o, by simp, fun k hk => ?_⟩ fun k hk => ?_⟩
  · by_cases e : k = w.heap.size
    · rw [e, size_alloc']; omega
    · simp [e] at hk
  · by_cases e : k = w.heap.size
    · omega
    · simp [e] at hk

theorem ISc.len {w : World} {v : Value} {ops : List It} (h : ISc w v ops) : ∃ a c, v = .slice a ops.length c ∧ ops.length ≤ c ∧ c ≤ 9223372036854775807 := by
  obtain ⟨a, c, h, h1, h2, _⟩ := h
  unfold maxLen at h2
  exact ⟨a, c, h, h1, h2⟩

end Go.Proofs.YtfoglaajnlbnbaaGreatDoor

namespace Go.Proofs.YtfoglaajnlbnbaaGreatDoor
open Go.RowKit Go.Maps
set_option maxRecDepth 20000

theorem Herd.only {W w : World} {xs : List ((Nat → Nat) × Thing)} (h : Herd W w xs) (i : Nat) {d : (Nat → Nat) × Thing} (hi : xs[i]? = some d) : Herd W w [d] := by
  have e : ∀ (j : Nat) (d' : (Nat → Nat) × Thing), [d][j]? = some d' → j = 0 ∧ d' = d := fun j d' h => by
    cases j with
    | zero => simp at h; exact ⟨rfl, h.symm⟩
    | succ j => simp at h
  refine ⟨h.bel, fun j d' hd => ?_, fun j d' hd => ?_, fun j j' d' e' hd he hne => ?_⟩
  · obtain ⟨_, rfl⟩ := e j d' hd; exact h.rep i _ hi
  · obtain ⟨_, rfl⟩ := e j d' hd; exact h.up i _ hi
  · have := (e j d' hd).1; have := (e j' e' he).1; omega

end Go.Proofs.YtfoglaajnlbnbaaGreatDoor

namespace Go.Proofs.YtfoglaajnlbnbaaGreatDoor
open Go.RowKit Go.Maps
set_option maxRecDepth 20000

end Go.Proofs.YtfoglaajnlbnbaaGreatDoor

