import Derived.Test.YtdpoggapenjjfaaGreatDoorG06Rhn
import Derived.Test.YtdpoggapenjjfaaGreatDoorG00Rev
import Derived.Test.YtdpoggapenjjfaaGreatDoorG01Rw1
import Derived.WalkMore
namespace Go.Proofs.YtdpoggapenjjfaaGreatDoor
open Go.RowKit Go.Maps
set_option maxRecDepth 20000
set_option linter.unusedVariables false

theorem rd_cases (row : List Int) (p : Nat) : ((rdA row p).1 ≠ 0 ∧ (rdA row p).2.1 = [] ∧ (rdA row p).2.2.1 = []) ∨ ((rdA row p).1 = 0 ∧ rcE row p = 0 ∧ smE row (p + 14) (rcN row p) = 0 ∧ ∃ x : List Int × Nat, rl (smC row (p + 14) (rcN row p)) row (rcL row p + rcD row p) (rcL row p + rcD row p) [] (p + 14 + 3 * rcN row p) = (0, x.1, x.2) ∧ hck (x.1.take (rcL row p)) (x.1.drop (rcL row p)) = 0 ∧ rdA row p = (0, x.1.take (rcL row p), x.1.drop (rcL row p), x.2)) := by
  by_cases h1 : rcE row p ≠ 0
  · rw [rd_c h1]; exact .inl ⟨h1, rfl, rfl⟩
  have h1' : rcE row p = 0 := by omega
  by_cases h2 : smE row (p + 14) (rcN row p) ≠ 0
  · rw [rd_s h1' h2]; exact .inl ⟨h2, rfl, rfl⟩
  have h2' : smE row (p + 14) (rcN row p) = 0 := by omega
  obtain ⟨x, hx⟩ : ∃ x, rl (smC row (p + 14) (rcN row p)) row (rcL row p + rcD row p) (rcL row p + rcD row p) [] (p + 14 + 3 * rcN row p) = x := ⟨_, rfl⟩
  obtain ⟨e, a, q⟩ := x
  have hr := rd_l h1' h2' hx
  simp only at hr
  by_cases h3 : e ≠ 0
  · rw [if_pos h3] at hr
    rw [hr]
    exact .inl ⟨h3, rfl, rfl⟩
  · rw [if_neg h3] at hr
    by_cases h4 : hck (a.take (rcL row p)) (a.drop (rcL row p)) ≠ 0
    · rw [if_pos h4] at hr
      rw [hr]
      exact .inl ⟨h4, rfl, rfl⟩
    · rw [if_neg h4] at hr
      have h3' : e = 0 := by omega
      subst h3'
      exact .inr ⟨by rw [hr], h1', h2', (a, q), hx, Classical.not_not.1 h4, hr⟩

end Go.Proofs.YtdpoggapenjjfaaGreatDoor

namespace Go.Proofs.YtdpoggapenjjfaaGreatDoor
open Go.RowKit Go.Maps
set_option maxRecDepth 20000
set_option linter.unusedVariables false

noncomputable def syE (l row : List Int) (p : Nat) : Int := if nxE l row p = 0 then 0 else if nxE l row p = 54 then 80 else 83

def lnF (s : Nat) : Nat := if s = 285 then 0 else if s < 265 then 0 else (s - 257) / 4 - 1
def lnB (s : Nat) : Nat := if s = 285 then 258 else if s < 265 then s - 254 else 3 + (4 + (s - 257) % 4) * 2 ^ lnF s
def dsF (s : Nat) : Nat := if s < 4 then 0 else s / 2 - 1
def dsB (s : Nat) : Nat := if s < 4 then 1 + s else 1 + (2 + s % 2) * 2 ^ dsF s

def lgE (s : Nat) (row : List Int) (q : Nat) : Int := if 285 < s then 83 else if row.length < q + lnF s then 80 else 0
def lgV (s : Nat) (row : List Int) (q : Nat) : Nat := lnB s + (ahead row q (lnF s)).toNat
def lgP (s q : Nat) : Nat := q + lnF s

noncomputable def dtE (d row : List Int) (q : Nat) : Int := if dcE d ≠ 0 then 83 else if syE d row q ≠ 0 then syE d row q else if 29 < nxS d row q then 83 else if row.length < nxP d row q + dsF (nxS d row q) then 80 else 0
noncomputable def dtV (d row : List Int) (q : Nat) : Nat := dsB (nxS d row q) + (ahead row (nxP d row q) (dsF (nxS d row q))).toNat
noncomputable def dtP (d row : List Int) (q : Nat) : Nat := nxP d row q + dsF (nxS d row q)

def cpy (d : Nat) : Nat → List Int → List Int
  | 0, out => out
  | n + 1, out => cpy d n (out ++ [out.getD (out.length - d) 0])
def agE (L : Nat) (out : List Int) (n d : Nat) : Int := if out.length < d then 84 else if L < out.length + n then 85 else 0

noncomputable def sy1 (l d row : List Int) (L p : Nat) (out : List Int) : Int × Bool × Nat × List Int :=
  if syE l row p ≠ 0 then (syE l row p, false, p, out)
  else if nxS l row p < 256 then (if L < out.length + 1 then (85, false, p, out) else (0, false, nxP l row p, out ++ [(nxS l row p : Int)]))
  else if nxS l row p = 256 then (0, true, nxP l row p, out)
  else if lgE (nxS l row p) row (nxP l row p) ≠ 0 then (lgE (nxS l row p) row (nxP l row p), false, p, out)
  else if dtE d row (lgP (nxS l row p) (nxP l row p)) ≠ 0 then (dtE d row (lgP (nxS l row p) (nxP l row p)), false, p, out)
  else if agE L out (lgV (nxS l row p) row (nxP l row p)) (dtV d row (lgP (nxS l row p) (nxP l row p))) ≠ 0 then (agE L out (lgV (nxS l row p) row (nxP l row p)) (dtV d row (lgP (nxS l row p) (nxP l row p))), false, p, out)
  else (0, false, dtP d row (lgP (nxS l row p) (nxP l row p)), cpy (dtV d row (lgP (nxS l row p) (nxP l row p))) (lgV (nxS l row p) row (nxP l row p)) out)

inductive Sys (l d row : List Int) (L : Nat) : Nat → List Int → Int → Nat → List Int → Prop
  | bad {p : Nat} {out : List Int} {e : Int} {q : Nat} {o : List Int} {b : Bool} : sy1 l d row L p out = (e, b, q, o) → e ≠ 0 → Sys l d row L p out e p out
  | fin {p : Nat} {out : List Int} {q : Nat} {o : List Int} : sy1 l d row L p out = (0, true, q, o) → Sys l d row L p out 0 q o
  | go {p : Nat} {out : List Int} {q : Nat} {o : List Int} {e : Int} {q' : Nat} {o' : List Int} : sy1 l d row L p out = (0, false, q, o) → Sys l d row L q o e q' o' → Sys l d row L p out e q' o'

theorem Sys.det {l d row : List Int} {L p : Nat} {out : List Int} {e : Int} {q : Nat} {o : List Int} (h : Sys l d row L p out e q o) : ∀ {e' : Int} {q' : Nat} {o' : List Int}, Sys l d row L p out e' q' o' → e = e' ∧ q = q' ∧ o = o' := by
  induction h with
  | bad h1 h2 =>
    intro e' q' o' k
    cases k with
    | bad k1 k2 => rw [h1] at k1; cases k1; exact ⟨rfl, rfl, rfl⟩
    | fin k1 => rw [h1] at k1; cases k1; exact absurd rfl h2
    | go k1 k2 => rw [h1] at k1; cases k1; exact absurd rfl h2
  | fin h1 =>
    intro e' q' o' k
    cases k with
    | bad k1 k2 => rw [h1] at k1; cases k1; exact absurd rfl k2
    | fin k1 => rw [h1] at k1; cases k1; exact ⟨rfl, rfl, rfl⟩
    | go k1 k2 => rw [h1] at k1; cases k1
  | go h1 h2 ih =>
    intro e' q' o' k
    cases k with
    | bad k1 k2 => rw [h1] at k1; cases k1; exact absurd rfl k2
    | fin k1 => rw [h1] at k1; cases k1
    | go k1 k2 => rw [h1] at k1; cases k1; exact ih k2

noncomputable def st1 (row : List Int) (L p : Nat) (out : List Int) : Int × Nat × List Int :=
  if row.length < algn p + 32 then (80, p, out)
  else if ahead row (algn p) 16 + ahead row (algn p + 16) 16 ≠ 65535 then (82, p, out)
  else if L < out.length + (ahead row (algn p) 16).toNat then (85, p, out)
  else if row.length < algn p + 32 + 8 * (ahead row (algn p) 16).toNat then (80, p, out)
  else (0, algn p + 32 + 8 * (ahead row (algn p) 16).toNat, out ++ pack ((row.drop (algn p + 32)).take (8 * (ahead row (algn p) 16).toNat)))

def FL : List Int := List.replicate 144 8 ++ List.replicate 112 9 ++ List.replicate 24 7 ++ List.replicate 8 8
def FD : List Int := List.replicate 32 5

inductive Blk (row : List Int) (L p : Nat) (out : List Int) : Int → Bool → Int → Nat → List Int → Prop
  | short {b : Bool} {k : Int} : row.length < p + 3 → Blk row L p out 80 b k p out
  | three {b : Bool} {k : Int} : p + 3 ≤ row.length → ahead row (p + 1) 2 = 3 → Blk row L p out 81 b k p out
  | stored {e : Int} {q : Nat} {o : List Int} : p + 3 ≤ row.length → ahead row (p + 1) 2 = 0 → st1 row L (p + 3) out = (e, q, o) → Blk row L p out e (ahead row p 1 == 1) 0 q o
  | fixed {e : Int} {q : Nat} {o : List Int} : p + 3 ≤ row.length → ahead row (p + 1) 2 = 1 → Sys FL FD row L (p + 3) out e q o → Blk row L p out e (ahead row p 1 == 1) 1 q o
  | head {b : Bool} {k : Int} : p + 3 ≤ row.length → ahead row (p + 1) 2 = 2 → (rdA row (p + 3)).1 ≠ 0 → Blk row L p out (rdA row (p + 3)).1 b k p out
  | dyn {e : Int} {q : Nat} {o : List Int} : p + 3 ≤ row.length → ahead row (p + 1) 2 = 2 → (rdA row (p + 3)).1 = 0 → Sys (rdA row (p + 3)).2.1 (rdA row (p + 3)).2.2.1 row L (rdA row (p + 3)).2.2.2 out e q o → Blk row L p out e (ahead row p 1 == 1) 2 q o

theorem Blk.det {row : List Int} {L p : Nat} {out : List Int} {e : Int} {b : Bool} {k : Int} {q : Nat} {o : List Int} (h : Blk row L p out e b k q o) {e' : Int} {b' : Bool} {k' : Int} {q' : Nat} {o' : List Int} (h' : Blk row L p out e' b' k' q' o') : e = e' ∧ (e = 0 → b = b' ∧ k = k' ∧ q = q' ∧ o = o') := by
  cases h <;> cases h' <;> first
    | (exfalso; omega)
    | exact ⟨rfl, fun h => absurd h (by decide)⟩
    | skip
  · rename_i h1 h2 h3 k1 k2 k3
    rw [h3] at k3; cases k3
    exact ⟨rfl, fun _ => ⟨rfl, rfl, rfl, rfl⟩⟩
  · rename_i h1 h2 h3 k1 k2 k3
    obtain ⟨rfl, rfl, rfl⟩ := h3.det k3
    exact ⟨rfl, fun _ => ⟨rfl, rfl, rfl, rfl⟩⟩
  · rename_i h1 h2 h3 k1 k2 k3
    exact ⟨rfl, fun h => absurd h h3⟩
  · rename_i h1 h2 h3 h4 k1 k2 k3 k4
    obtain ⟨rfl, rfl, rfl⟩ := h4.det k4
    exact ⟨rfl, fun _ => ⟨rfl, rfl, rfl, rfl⟩⟩

structure Pc where
  kind : Int
  fin : Bool
  at0 : Nat
  at1 : Nat
  to0 : Nat
  to1 : Nat

inductive Txt (row : List Int) (L : Nat) : Nat → List Int → List Pc → Int → Nat → List Int → Prop
  | bad {p : Nat} {out : List Int} {e : Int} {b : Bool} {k : Int} {q : Nat} {o : List Int} : Blk row L p out e b k q o → e ≠ 0 → Txt row L p out [] e p out
  | last {p : Nat} {out : List Int} {k : Int} {q : Nat} {o : List Int} : Blk row L p out 0 true k q o → Txt row L p out [⟨k, true, p, q, out.length, o.length⟩] 0 q o
  | go {p : Nat} {out : List Int} {k : Int} {q : Nat} {o : List Int} {ps : List Pc} {e : Int} {q' : Nat} {o' : List Int} : Blk row L p out 0 false k q o → Txt row L q o ps e q' o' → Txt row L p out (⟨k, false, p, q, out.length, o.length⟩ :: ps) e q' o'

end Go.Proofs.YtdpoggapenjjfaaGreatDoor

namespace Go.Proofs.YtdpoggapenjjfaaGreatDoor
open Go.RowKit Go.Maps
set_option maxRecDepth 20000
set_option linter.unusedVariables false

set_option maxHeartbeats 8000000 in
theorem vlenBits_any (s : Nat) (h0 : 257 ≤ s) (h1 : s ≤ 285) (w : World) : Calls Tryz.prog 74 #[.int .i64 s] w fun e w' => e = .returned (.int .i64 (lnF s)) ∧ w' = w := by
  have hs : s = 257 ∨ s = 258 ∨ s = 259 ∨ s = 260 ∨ s = 261 ∨ s = 262 ∨ s = 263 ∨ s = 264 ∨ s = 265 ∨ s = 266 ∨ s = 267 ∨ s = 268 ∨ s = 269 ∨ s = 270 ∨ s = 271 ∨ s = 272 ∨ s = 273 ∨ s = 274 ∨ s = 275 ∨ s = 276 ∨ s = 277 ∨ s = 278 ∨ s = 279 ∨ s = 280 ∨ s = 281 ∨ s = 282 ∨ s = 283 ∨ s = 284 ∨ s = 285 := by omega
  clear h1 h0
  go_enter Tryz.func74, Tryz.ntmps74
  rcases hs with rfl | rfl | rfl | rfl | rfl | rfl | rfl | rfl | rfl | rfl | rfl | rfl | rfl | rfl | rfl | rfl | rfl | rfl | rfl | rfl | rfl | rfl | rfl | rfl | rfl | rfl | rfl | rfl | rfl
  all_goals
    go_wp2
    go_ret
    exact ⟨rfl, rfl⟩

set_option maxHeartbeats 8000000 in
theorem vdistBits_any (s : Nat) (h1 : s ≤ 29) (w : World) : Calls Tryz.prog 76 #[.int .i64 s] w fun e w' => e = .returned (.int .i64 (dsF s)) ∧ w' = w := by
  have hs : s = 0 ∨ s = 1 ∨ s = 2 ∨ s = 3 ∨ s = 4 ∨ s = 5 ∨ s = 6 ∨ s = 7 ∨ s = 8 ∨ s = 9 ∨ s = 10 ∨ s = 11 ∨ s = 12 ∨ s = 13 ∨ s = 14 ∨ s = 15 ∨ s = 16 ∨ s = 17 ∨ s = 18 ∨ s = 19 ∨ s = 20 ∨ s = 21 ∨ s = 22 ∨ s = 23 ∨ s = 24 ∨ s = 25 ∨ s = 26 ∨ s = 27 ∨ s = 28 ∨ s = 29 := by omega
  clear h1
  go_enter Tryz.func76, Tryz.ntmps76
  rcases hs with rfl | rfl | rfl | rfl | rfl | rfl | rfl | rfl | rfl | rfl | rfl | rfl | rfl | rfl | rfl | rfl | rfl | rfl | rfl | rfl | rfl | rfl | rfl | rfl | rfl | rfl | rfl | rfl | rfl | rfl
  all_goals
    go_wp2
    go_ret
    exact ⟨rfl, rfl⟩

theorem vpower_any (n : Nat) (hn : n ≤ 20) (w : World) : Calls Tryz.prog 96 #[.int .i64 n] w fun e w' => e = .returned (.int .i64 ((2 ^ n : Nat) : Int)) ∧ w' = w := by
  have HP : Hid (∀ i : Fin 21, 2 ^ i.val ≤ 1048576) := by show ∀ i : Fin 21, _; decide
  go_enter Tryz.func96, Tryz.ntmps96
  go_wp2
  go_loopw [3, 4] (fun p i wr => ∃ k : Nat, k ≤ n ∧ i = .int .i64 k ∧ p = .int .i64 ((2 ^ k : Nat) : Int) ∧ wr = w) (fun _ i _ => n - (intOf i).toNat)
  case atStart => exact ⟨0, Nat.zero_le _, rfl, rfl, rfl⟩
  case round =>
    obtain ⟨k, hk, rfl, rfl, rfl⟩ := hrel
    have hb := HP.out ⟨k, by omega⟩
    obtain ⟨q, HQ⟩ : ∃ q : Nat, Hid (q = 2 ^ k) := ⟨_, rfl⟩
    simp only at hb
    rw [← HQ.out] at hb ⊢
    by_cases hlt : k < n
    · have hlt' : (k : Int) < (n : Int) := by omega
      go_wp2
      go_roundw
      case rel => exact ⟨k + 1, by omega, by simp, by rw [Nat.pow_succ, ← HQ.out]; simp; omega, by first | rfl | trivial⟩
      case measure => simp [intOf]; omega
    · obtain rfl : k = n := by omega
      go_wp2
      go_ret
      exact ⟨by rw [← HQ.out]; rfl, rfl⟩
end Go.Proofs.YtdpoggapenjjfaaGreatDoor

namespace Go.Proofs.YtdpoggapenjjfaaGreatDoor
open Go.RowKit Go.Maps
set_option maxRecDepth 20000
set_option linter.unusedVariables false

theorem SI.sub {w : World} {b o cap : Nat} {l : List Int} (h : SI w (.slice (some ⟨b, o, none⟩) l.length cap) l) {i j : Nat} (hij : i ≤ j) (hj : j ≤ l.length) : SI w (.slice (some ⟨b, o + i, none⟩) (j - i) (cap - i)) ((l.drop i).take (j - i)) := by
  obtain ⟨ao', cap', he, h1, h2, h3, h4⟩ := h
  simp only [Value.slice.injEq] at he
  obtain ⟨rfl, -, rfl⟩ := he
  have hl : ((l.drop i).take (j - i)).length = j - i := by rw [List.length_take, List.length_drop]; omega
  refine ⟨_, _, by rw [hl], by rw [hl]; omega, by omega, (fun e => by cases e), fun x hx n hn => ?_⟩
  cases hx
  rw [hl] at hn
  have := h4 _ rfl (i + n) (by omega)
  rw [Addr.add_lit] at this ⊢
  rw [Nat.add_assoc, this]
  simp only [List.getD_eq_getElem?_getD, List.getElem?_take, List.getElem?_drop]
  rw [if_pos hn]

end Go.Proofs.YtdpoggapenjjfaaGreatDoor

namespace Go.Proofs.YtdpoggapenjjfaaGreatDoor
open Go.RowKit Go.Maps
set_option maxRecDepth 20000
set_option linter.unusedVariables false

structure Rsr (w wr : World) (l : List Int) (ao : Option Addr) (cap : Nat) (u : Value) (R : List Rn) : Prop where
  si : SI wr (.slice ao l.length cap) l
  tab : Tab wr
  row : OR wr w.heap.size u R
  bel : Below w.heap.size w wr

theorem Rsr.cells {w wr : World} {l : List Int} {ao : Option Addr} {cap : Nat} {u : Value} {R : List Rn} (h : Rsr w wr l ao cap u R) : wr.cell? ⟨3, 18, none⟩ = some (.int .i64 11) ∧ wr.cell? ⟨3, 17, none⟩ = some (.int .i64 3) ∧ wr.cell? ⟨3, 16, none⟩ = some (.int .i64 3) :=
  ⟨h.tab.least 18 (by omega), h.tab.least 17 (by omega), h.tab.least 16 (by omega)⟩

end Go.Proofs.YtdpoggapenjjfaaGreatDoor

namespace Go.Proofs.YtdpoggapenjjfaaGreatDoor
open Go.RowKit Go.Maps
set_option maxRecDepth 20000
set_option linter.unusedVariables false

theorem lay_more (a : List Int) (k : Nat) (x : Int) : a ++ List.replicate (k + 1) x = (a ++ List.replicate k x) ++ [x] := by
  rw [List.replicate_succ', List.append_assoc]

set_option maxHeartbeats 1000000 in
theorem layr_any (u : Value) (acc : List Int) (s : Int) (c : Nat) (w : World) (B : Nat) (h : OI w B u acc) (hB : B ≤ w.heap.size) (h16 : s = 16 → 0 < acc.length) (hc : c ≤ 138) (hl : acc.length ≤ 1000000000) :
    Calls Tryz.prog 92 #[u, .agg #[.int .i64 s, .int .i64 c]] w fun e w' => ∃ u', e = .returned u' ∧ OI w' B u' (lay acc (s, (c : Int))) ∧ Below B w w' := by
  have HO := hide h
  obtain ⟨a, p, rfl⟩ := h.shape
  have HM := hide (meant_any s (.slice a acc.length p) acc (w.alloc (.cells #[.int .i64 s, .int .i64 c] 140)) (h.alloc _).sb h16)
  obtain ⟨V, HV⟩ : ∃ V, Hid (V = mnt s acc) := ⟨_, rfl⟩
  have HL : Hid (lay acc (s, (c : Int)) = acc ++ List.replicate c V) := by show _ = _; unfold lay; rw [HV.out]; rfl
  rw [← HV.out] at HM
  clear h h16
  go_enter Tryz.func92, Tryz.ntmps92
  go_wp2_with fail
  refine HM.out.mono ?_
  rintro e w1 ⟨rfl, hw1⟩
  subst hw1
  obtain ⟨w1, hw1⟩ : ∃ w1, w.alloc (.cells #[.int .i64 s, .int .i64 c] 140) = w1 := ⟨_, rfl⟩
  have HO1 : Hid (OI w1 B (.slice a acc.length p) acc) := by rw [← hw1]; exact hide (HO.out.alloc _)
  have HB1 : Hid (Below B w w1) := by rw [← hw1]; exact hide ((Below.refl _ _).alloc hB _)
  have cc : w1.cell? ⟨w.heap.size, 1, none⟩ = some (.int .i64 c) := by rw [← hw1]; unfold World.cell?; simp only [heap_alloc_new]; rfl
  rw [hw1]
  clear HM hw1
  go_wp2
  go_loopw [0, 12] (fun x i wr => ∃ k : Nat, k ≤ c ∧ i = .int .i64 k ∧ Hid (OI wr B x (acc ++ List.replicate k V)) ∧ Hid (Below B w wr)) (fun _ i _ => c - (intOf i).toNat)
  case atStart => exact ⟨0, Nat.zero_le _, rfl, by show OI _ _ _ _; simp only [List.replicate_zero, List.append_nil]; exact HO1.out, HB1.out⟩
  case round =>
    obtain ⟨k, hk, rfl, HX, HB⟩ := hrel
    by_cases hlt : k < c
    · have hlt' : (k : Int) < (c : Int) := by omega
      have HD := hide (lay_more acc k V)
      obtain ⟨D, HDD⟩ : ∃ D : List Int, Hid (D = acc ++ List.replicate k V) := ⟨_, hide rfl⟩
      have hDl : D.length ≤ 2000000000 := by rw [HDD.out, List.length_append, List.length_replicate]; omega
      rw [← HDD.out] at HX HD
      have hBw := HB.out.size
      obtain ⟨a2, p2, hu⟩ := HX.out.shape
      subst hu
      have HALC : Hid (OI (wr.alloc (.cells #[.int .i64 V] 3)) B (.slice a2 D.length p2) D) := HX.out.alloc _
      have HSR : Hid (Src Tryz.prog 1 70 (.slice (some ⟨wr.heap.size, 0, none⟩) 1 1) ([V] : List Int).length (([V] : List Int).map (Value.int .i64)) (wr.alloc (.cells #[.int .i64 V] 3))) := built_srcI wr [V]
      go_wp2_with (at_builtin; refine wpList_appI rfl _ _ 70 rfl B _ _ D [V] rfl HALC.out rfl HSR.out (by simp; omega) (by simp; omega) ?_)
      intro v3 w3 ho3 hgr3
      have HN : Hid (OI w3 B v3 (acc ++ List.replicate (k + 1) V) ∧ Below B w w3) := ⟨by rw [HD.out]; exact ho3, grow_one7 HB.out hB HX.out hgr3⟩
      clear ho3 hgr3
      go_wp2
      go_roundw
      case rel => exact ⟨k + 1, by omega, by go_num, HN.out.1, HN.out.2⟩
      case measure => simp [intOf]; omega
    · obtain rfl : k = c := by omega
      have hlt' : ¬ (k : Int) < (k : Int) := by omega
      have HF : Hid (OI wr B u0 (lay acc (s, (k : Int)))) := by show OI _ _ _ _; rw [HL.out]; exact HX.out
      clear HX
      obtain ⟨a2, p2, hu⟩ := HF.out.shape
      subst hu
      go_wp2
      go_ret
      exact ⟨_, rfl, HF.out, HB.out⟩

def tot (R : List Rn) : Nat := (lays [] R).length

theorem tot_snoc (R : List Rn) (p : Rn) : tot (R ++ [p]) = tot R + p.2.toNat := by unfold tot; rw [lays_snoc, lay_len]
theorem rn_snoc {R : List Rn} {k : Nat} (h : k < R.length) : R.take (k + 1) = R.take k ++ [R.getD k rn0] := by
  rw [List.take_succ_eq_append_getElem h]
  simp [h]

theorem xpE_snoc : ∀ (S : List Rn) (a : List Int) (r : Rn), xpE a S = 0 → xpE a (S ++ [r]) = if Okr r then if r.1 = 16 ∧ lays a S = [] then 73 else 0 else 77
  | [], a, r, _ => rfl
  | q :: S, a, r, h => by
    simp only [xpE] at h
    by_cases h1 : Okr q
    · rw [if_pos h1] at h
      by_cases h2 : q.1 = 16 ∧ a = []
      · rw [if_pos h2] at h; omega
      · rw [if_neg h2] at h
        have := xpE_snoc S (lay a q) r h
        simp only [List.cons_append, xpE]
        rw [if_pos h1, if_neg h2]
        exact this
    · rw [if_neg h1] at h; omega

theorem xpE_front : ∀ (S T : List Rn) (a : List Int), xpE a S ≠ 0 → xpE a (S ++ T) = xpE a S
  | [], T, a, h => absurd rfl h
  | q :: S, T, a, h => by
    simp only [List.cons_append, xpE] at h ⊢
    by_cases h1 : Okr q
    · rw [if_pos h1] at h ⊢
      by_cases h2 : q.1 = 16 ∧ a = []
      · rw [if_pos h2]; rw [if_pos h1, if_pos h2]
      · rw [if_neg h2] at h ⊢
        rw [if_pos h1, if_neg h2]
        exact xpE_front S T (lay a q) h
    · rw [if_neg h1, if_neg h1]

theorem xpE_at {R : List Rn} {k : Nat} (hk : k < R.length) (h0 : xpE [] (R.take k) = 0) :
    (¬ Okr (R.getD k rn0) → xpE [] R = 77) ∧ (Okr (R.getD k rn0) → (R.getD k rn0).1 = 16 → tot (R.take k) = 0 → xpE [] R = 73) ∧ (Okr (R.getD k rn0) → ((R.getD k rn0).1 = 16 → tot (R.take k) ≠ 0) → xpE [] (R.take (k + 1)) = 0) := by
  have e := xpE_snoc (R.take k) [] (R.getD k rn0) h0
  rw [← rn_snoc hk] at e
  have ez : lays [] (R.take k) = [] ↔ tot (R.take k) = 0 := by unfold tot; exact List.length_eq_zero_iff.symm
  have key : xpE [] (R.take (k + 1)) ≠ 0 → xpE [] R = xpE [] (R.take (k + 1)) := fun h => by
    have := xpE_front (R.take (k + 1)) (R.drop (k + 1)) [] h
    rwa [List.take_append_drop] at this
  refine ⟨fun h => ?_, fun h h1 h2 => ?_, fun h h1 => ?_⟩
  · rw [if_neg h] at e
    rw [key (by omega), e]
  · rw [if_pos h, if_pos ⟨h1, ez.2 h2⟩] at e
    rw [key (by omega), e]
  · rw [if_pos h, if_neg (fun q => h1 q.1 (ez.1 q.2))] at e
    exact e

theorem okr_parts {r : Rn} (h : Okr r) : ∃ s c : Nat, r = ((s : Int), (c : Int)) ∧ s < 19 ∧ lst s ≤ c ∧ (c : Int) ≤ mst s ∧ 1 ≤ c ∧ c ≤ 138 := by
  obtain ⟨a, b⟩ := r
  obtain ⟨h1, h2, h3, h4⟩ := h
  simp only at h1 h2 h3 h4
  obtain ⟨s, rfl⟩ := Int.eq_ofNat_of_zero_le h1
  have hs : s < 19 := by omega
  have hb : 1 ≤ b ∧ b ≤ 138 := by
    rcases tab_cases s hs with ⟨x, _, y⟩ | ⟨x, _, y⟩ | ⟨x, _, y⟩ | ⟨x, _, y⟩ <;> rw [x] at h3 <;> rw [y] at h4 <;> omega
  obtain ⟨c, rfl⟩ := Int.eq_ofNat_of_zero_le (show 0 ≤ b by omega)
  exact ⟨s, c, rfl, hs, h3, h4, by omega, by omega⟩

end Go.Proofs.YtdpoggapenjjfaaGreatDoor

namespace Go.Proofs.YtdpoggapenjjfaaGreatDoor
open Go.RowKit Go.Maps
set_option maxRecDepth 20000
set_option linter.unusedVariables false

theorem getset {α : Type} {xs : List α} {i : Nat} {a b : α} (h : xs[i]? = some a) : (xs.set i b)[i]? = some b := by
  rw [List.getElem?_set_self', h]
  rfl

theorem Herd.same {W w : World} {xs : List ((Nat → Nat) × Thing)} (H : Herd W w xs) {i : Nat} {a : (Nat → Nat) × Thing} (h : xs[i]? = some a) : Herd W w (xs.set i a) := by
  have e : xs.set i a = xs := by
    apply List.ext_getElem?
    intro n
    rw [List.getElem?_set]
    by_cases c : i = n
    · subst c
      rw [if_pos rfl, h, if_pos (List.getElem?_eq_some_iff.1 h).1]
    · rw [if_neg c]
  rw [e]
  exact H

theorem Herd.front {W w : World} {xs : List ((Nat → Nat) × Thing)} {x : (Nat → Nat) × Thing} (h : Herd W w (xs ++ [x])) : Herd W w xs := by
  have up : ∀ (i : Nat) d, xs[i]? = some d → (xs ++ [x])[i]? = some d := fun i d hd => by
    rw [List.getElem?_append_left (List.getElem?_eq_some_iff.1 hd).1]; exact hd
  exact ⟨h.bel, fun i d hd => h.rep i d (up i d hd), fun i d hd => h.up i d (up i d hd), fun i j d e hd he => h.sep i j d e (up i d hd) (up j e he)⟩

theorem setf {α : Type} {xs : List α} {i : Nat} {a b x : α} (h : xs[i]? = some a) : (xs ++ [x]).set i b = xs.set i b ++ [x] := List.set_append_left _ _ (List.getElem?_eq_some_iff.1 h).1

theorem get_front {α : Type} {xs : List α} {i : Nat} {a x : α} (h : xs[i]? = some a) : (xs ++ [x])[i]? = some a := by
  rw [List.getElem?_append_left (List.getElem?_eq_some_iff.1 h).1]; exact h

theorem get_last {α : Type} (xs : List α) (x : α) : (xs ++ [x])[xs.length]? = some x := by simp

def Low (N : Nat) (xs : List ((Nat → Nat) × Thing)) : Prop := ∀ (i : Nat) (d : (Nat → Nat) × Thing), xs[i]? = some d → ∀ k, d.1 k ≠ 0 → k < N

theorem Herd.low {W w : World} {xs : List ((Nat → Nat) × Thing)} (H : Herd W w xs) : Low w.heap.size xs := fun i d hd k hk => d.2.sup (H.rep i d hd) k hk

theorem Low.set {N : Nat} {xs : List ((Nat → Nat) × Thing)} (h : Low N xs) {i : Nat} {K : Nat → Nat} {x y : Thing} (hi : xs[i]? = some (K, x)) : Low N (xs.set i (K, y)) := fun j d hd k hk => by
  rcases get_set hd with ⟨_, hd⟩ | ⟨_, rfl⟩
  · exact h j d hd k hk
  · exact h i _ hi k hk

theorem Herd.keep {W w w' : World} {xs : List ((Nat → Nat) × Thing)} (H : Herd W w xs) {N : Nat} (hN : Low N xs) (hW : W.heap.size ≤ N) (hb : Below N w w') : Herd W w' xs :=
  ⟨H.bel.trans (hb.mono hW), fun i d hd => d.2.far (H.rep i d hd) hb.size fun k hk => hb.block k (hN i d hd k hk), H.up, H.sep⟩

def tib (B : Nat) (v : Value) (l : List Int) : Thing :=
  ⟨fun w K => OI w B v l ∧ (∀ k, v.ownBlock = some k → K k ≠ 0) ∧ ∀ k, K k ≠ 0 → k < w.heap.size,
   fun h a b => ⟨h.1.move fun k hk => b k (h.2.1 k hk), h.2.1, fun k hk => Nat.lt_of_lt_of_le (h.2.2 k hk) a⟩, fun h => h.2.2⟩

theorem Herd.tibs {W w : World} {xs : List ((Nat → Nat) × Thing)} (H : Herd W w xs) {B : Nat} (hN : Low B xs) (hW : W.heap.size ≤ B) {v : Value} {l : List Int} (ho : OI w B v l) : ∃ K, Herd W w (xs ++ [(K, tib B v l)]) := by
  refine ⟨fun k => if v.ownBlock = some k then 1 else 0, H.bel, fun i d hd => ?_, fun i d hd k hk => ?_, fun i j d e hd he hij k hk => ?_⟩
  · rcases get_snoc hd with hd | ⟨_, rfl⟩
    · exact H.rep i d hd
    · refine ⟨ho, fun k hk => by simp [hk], fun k hk => ?_⟩
      by_cases e : v.ownBlock = some k
      · exact (ho.lt k e).2
      · simp [e] at hk
  · rcases get_snoc hd with hd | ⟨_, rfl⟩
    · exact H.up i d hd k hk
    · by_cases e : v.ownBlock = some k
      · have := (ho.lt k e).1; omega
      · simp [e] at hk
  · rcases get_snoc hd with hd | ⟨e1, rfl⟩
    · rcases get_snoc he with he | ⟨e2, rfl⟩
      · exact H.sep i j d e hd he hij k hk
      · have h1 := hN i d hd k hk
        by_cases q : v.ownBlock = some k
        · have := (ho.lt k q).1; omega
        · simp [q]
    · rcases get_snoc he with he | ⟨e2, rfl⟩
      · by_cases q : v.ownBlock = some k
        · have h2 := (ho.lt k q).1
          by_cases z : e.1 k = 0
          · exact z
          · have := hN j e he k z; omega
        · simp [q] at hk
      · omega

theorem Herd.mid {W w : World} {xs : List ((Nat → Nat) × Thing)} {y z : (Nat → Nat) × Thing} (H : Herd W w (xs ++ [y] ++ [z])) : Herd W w (xs ++ [z]) := by
  have f1 : ∀ (i : Nat) d, (xs ++ [z])[i]? = some d → (xs ++ [y] ++ [z])[if i < xs.length then i else i + 1]? = some d := fun i d hd => by
    by_cases c : i < xs.length
    · rw [if_pos c, List.append_assoc, List.getElem?_append_left c]
      rwa [List.getElem?_append_left c] at hd
    · rw [if_neg c, List.getElem?_append_right (by simp; omega)]
      rw [List.getElem?_append_right (by omega)] at hd
      rw [← hd]
      congr 1
      simp
  exact ⟨H.bel, fun i d hd => H.rep _ d (f1 i d hd), fun i d hd => H.up _ d (f1 i d hd), fun i j d e hd he hij => H.sep _ _ d e (f1 i d hd) (f1 j e he) (by split <;> split <;> omega)⟩

theorem Herd.tibput {W w : World} {xs : List ((Nat → Nat) × Thing)} {B b n c : Nat} {K : Nat → Nat} {l : List Int} (H : Herd W w (xs ++ [(K, tib B (.slice (some ⟨b, 0, none⟩) n c) l)])) {k : Nat} (hk : k < l.length) (m : Int) :
    (∃ u, w.cell? ⟨b, k, none⟩ = some u) ∧ w.frozen? ⟨b, k, none⟩ = false ∧ Herd W (w.setCell ⟨b, k, none⟩ (.int .i64 m)) (xs ++ [(K, tib B (.slice (some ⟨b, 0, none⟩) n c) (l.set k m))]) := by
  have h : (tib B (.slice (some ⟨b, 0, none⟩) n c) l).P w K := H.rep xs.length _ (get_last _ _)
  obtain ⟨g, c', hv, h1, h2, h3⟩ := h.1.put hk m
  simp only [Value.slice.injEq, Option.some.injEq, Addr.mk.injEq, and_true] at hv
  obtain ⟨rfl, -, -⟩ := hv
  have hg : K b ≠ 0 := h.2.1 b rfl
  have h4 := H.op xs.length (get_last _ _) (x' := tib B (.slice (some ⟨b, 0, none⟩) n c) (l.set k m)) (K' := K) ⟨h3, h.2.1, fun k hk => by rw [size_setCell]; exact h.2.2 k hk⟩ ⟨rfl, rfl, rfl, by rw [size_setCell]; exact Nat.le_refl _, fun q _ h0 => setCell_others _ _ _ _ _ (fun e => hg (by rw [← e]; exact h0)), fun _ _ => rfl⟩
  rw [show (xs ++ [(K, tib B (.slice (some ⟨b, 0, none⟩) n c) l)]).set xs.length (K, tib B (.slice (some ⟨b, 0, none⟩) n c) (l.set k m)) = xs ++ [(K, tib B (.slice (some ⟨b, 0, none⟩) n c) (l.set k m))] by simp] at h4
  exact ⟨h1, h2, h4⟩

theorem Herd.tibo {W w : World} {xs : List ((Nat → Nat) × Thing)} (H : Herd W w xs) (i : Nat) {B : Nat} {K : Nat → Nat} {v : Value} {l : List Int} (hi : xs[i]? = some (K, tib B v l)) : OI w B v l := by
  have h : (tib B v l).P w K := H.rep i _ hi
  exact h.1

theorem Herd.tibi {W w : World} {xs : List ((Nat → Nat) × Thing)} {B : Nat} {K : Nat → Nat} {v : Value} {l : List Int} (H : Herd W w (xs ++ [(K, tib B v l)])) : Herd W w (xs ++ [(K, ti v l)]) := by
  have hp : (tib B v l).P w K := H.rep xs.length _ (get_last _ _)
  refine ⟨H.bel, fun i d hd => ?_, fun i d hd => ?_, fun i j d e hd he hij => ?_⟩
  · rcases get_snoc hd with q | ⟨_, rfl⟩
    · exact H.rep i d (get_front q)
    · exact ⟨hp.1.base (Nat.zero_le _), hp.2⟩
  · rcases get_snoc hd with q | ⟨e, rfl⟩
    · exact H.up i d (get_front q)
    · exact H.up i (K, tib B v l) (by rw [e]; exact get_last _ _)
  · rcases get_snoc hd with q | ⟨e1, rfl⟩
    · rcases get_snoc he with q2 | ⟨e2, rfl⟩
      · exact H.sep i j d e (get_front q) (get_front q2) hij
      · exact H.sep i j d (K, tib B v l) (get_front q) (by rw [e2]; exact get_last _ _) hij
    · rcases get_snoc he with q2 | ⟨e2, rfl⟩
      · exact H.sep i j (K, tib B v l) e (by rw [e1]; exact get_last _ _) (get_front q2) hij
      · omega

theorem Herd.box1 {W w : World} {xs : List ((Nat → Nat) × Thing)} (h : Herd W w xs) (o : Obj) : ∃ K, Herd W (w.alloc o) (xs ++ [(K, tb w.heap.size o)]) := by
  refine ⟨fun k => if k = w.heap.size then 1 else 0, h.push ((Below.refl _ _).alloc (Nat.le_refl _) _) ⟨heap_alloc_new w _, by simp, fun k hk => ?_⟩ fun k hk => ?_⟩
  · by_cases e : k = w.heap.size
    · subst e; simp
    · simp [e] at hk
  · by_cases e : k = w.heap.size
    · omega
    · simp [e] at hk

theorem Herd.tbs {W w : World} {xs : List ((Nat → Nat) × Thing)} {K : Nat → Nat} {g : Nat} {o : Obj} (h : Herd W w (xs ++ [(K, tb g o)])) : w.heap[g]? = some o := by
  have hp : (tb g o).P w K := h.rep xs.length _ (get_last _ _)
  exact hp.1

theorem u32_31 {v : Int} (h0 : 0 ≤ v) (h1 : v < 4294967296) : bits .and .u32 v 31 = v % 32 := by
  have := bits_mask .u32 32 (by decide) (fun n a b => by rw [IntKind.wrap_u32]; omega) 5 (by decide) v h0 (by omega)
  simpa using this

def Cbox (w : World) (g : Nat) (a b c : Int) : Prop := w.heap[g]? = some (.cells #[.int .i64 a, .int .i64 b, .int .i64 c] 103 (0, 0))
theorem Cbox.cells {w : World} {g : Nat} {a b c : Int} (h : Cbox w g a b c) : w.cell? ⟨g, 0, none⟩ = some (.int .i64 a) ∧ w.cell? ⟨g, 1, none⟩ = some (.int .i64 b) ∧ w.cell? ⟨g, 2, none⟩ = some (.int .i64 c) := by
  unfold Cbox at h
  refine ⟨?_, ?_, ?_⟩ <;> (unfold World.cell?; rw [h]; rfl)
theorem Cbox.frozen {w : World} {g : Nat} {a b c : Int} (h : Cbox w g a b c) : w.frozen? ⟨g, 0, none⟩ = false ∧ w.frozen? ⟨g, 1, none⟩ = false ∧ w.frozen? ⟨g, 2, none⟩ = false := by
  unfold Cbox at h
  refine ⟨?_, ?_, ?_⟩ <;> (unfold World.frozen?; rw [h]; rfl)
theorem Cbox.lt {w : World} {g : Nat} {a b c : Int} (h : Cbox w g a b c) : g < w.heap.size := by
  rcases Nat.lt_or_ge g w.heap.size with q | q
  · exact q
  · unfold Cbox at h; rw [Array.getElem?_eq_none q] at h; cases h
theorem Cbox.below {w w' : World} {g : Nat} {a b c : Int} (h : Cbox w g a b c) (hb : Below w.heap.size w w') : Cbox w' g a b c := (hb.block g h.lt).trans h
theorem Cbox.put {w : World} {g : Nat} {a b c a' b' c' : Int} (h : Cbox w g a b c) : Cbox (((w.setCell ⟨g, 0, none⟩ (.int .i64 a')).setCell ⟨g, 1, none⟩ (.int .i64 b')).setCell ⟨g, 2, none⟩ (.int .i64 c')) g a' b' c' := by
  have h0 := heap_setCell_at (k := 0) (.int .i64 a') h
  have h1 := heap_setCell_at (k := 1) (.int .i64 b') h0
  exact (heap_setCell_at (k := 2) (.int .i64 c') h1).trans rfl
theorem put3 {w w0 : World} {g B : Nat} {a' b' c' : Value} (h : Below B w0 w) (hB : B ≤ g) : Below B w0 (((w.setCell ⟨g, 0, none⟩ a').setCell ⟨g, 1, none⟩ b').setCell ⟨g, 2, none⟩ c') :=
  ((h.setCell (p := ⟨g, 0, none⟩) hB _).setCell (p := ⟨g, 1, none⟩) hB _).setCell (p := ⟨g, 2, none⟩) hB _

def Rbox (w : World) (g : Nat) (a b : Int) : Prop := w.heap[g]? = some (.cells #[.int .i64 a, .int .i64 b] 140 (0, 0))
theorem Rbox.cells {w : World} {g : Nat} {a b : Int} (h : Rbox w g a b) : w.cell? ⟨g, 0, none⟩ = some (.int .i64 a) ∧ w.cell? ⟨g, 1, none⟩ = some (.int .i64 b) := by
  unfold Rbox at h
  refine ⟨?_, ?_⟩ <;> (unfold World.cell?; rw [h]; rfl)
theorem Rbox.frozen {w : World} {g : Nat} {a b : Int} (h : Rbox w g a b) : w.frozen? ⟨g, 0, none⟩ = false ∧ w.frozen? ⟨g, 1, none⟩ = false := by
  unfold Rbox at h
  refine ⟨?_, ?_⟩ <;> (unfold World.frozen?; rw [h]; rfl)
theorem Rbox.lt {w : World} {g : Nat} {a b : Int} (h : Rbox w g a b) : g < w.heap.size := by
  rcases Nat.lt_or_ge g w.heap.size with q | q
  · exact q
  · unfold Rbox at h; rw [Array.getElem?_eq_none q] at h; cases h
theorem Rbox.below {w w' : World} {g : Nat} {a b : Int} (h : Rbox w g a b) (hb : Below w.heap.size w w') : Rbox w' g a b := (hb.block g h.lt).trans h
theorem Rbox.put {w : World} {g : Nat} {a b a' b' : Int} (h : Rbox w g a b) : Rbox ((w.setCell ⟨g, 0, none⟩ (.int .i64 a')).setCell ⟨g, 1, none⟩ (.int .i64 b')) g a' b' := by
  have h0 := heap_setCell_at (k := 0) (.int .i64 a') h
  exact (heap_setCell_at (k := 1) (.int .i64 b') h0).trans rfl
theorem put2 {w w0 : World} {g B : Nat} {a' b' : Value} (h : Below B w0 w) (hB : B ≤ g) : Below B w0 ((w.setCell ⟨g, 0, none⟩ a').setCell ⟨g, 1, none⟩ b') :=
  (h.setCell (p := ⟨g, 0, none⟩) hB _).setCell (p := ⟨g, 1, none⟩) hB _
end Go.Proofs.YtdpoggapenjjfaaGreatDoor

