import Derived.Test.YtpmgnpfpnkmmbaaGreatDoorG10Ifn
import Derived.Test.YtpmgnpfpnkmmbaaGreatDoorG00App
import Derived.Test.YtpmgnpfpnkmmbaaGreatDoorG03Arr3
import Derived.WalkMore
namespace Go.Proofs.YtpmgnpfpnkmmbaaGreatDoor
open Go.RowKit Go.Maps
set_option maxRecDepth 20000
set_option linter.unusedVariables false

set_option maxHeartbeats 8000000 in
theorem vlenBits_any (s : Nat) (h0 : 257 ≤ s) (h1 : s ≤ 285) (w : World) : Calls Tryz.prog 96 #[.int .i64 s] w fun e w' => e = .returned (.int .i64 (lnF s)) ∧ w' = w := by
  have hs : s = 257 ∨ s = 258 ∨ s = 259 ∨ s = 260 ∨ s = 261 ∨ s = 262 ∨ s = 263 ∨ s = 264 ∨ s = 265 ∨ s = 266 ∨ s = 267 ∨ s = 268 ∨ s = 269 ∨ s = 270 ∨ s = 271 ∨ s = 272 ∨ s = 273 ∨ s = 274 ∨ s = 275 ∨ s = 276 ∨ s = 277 ∨ s = 278 ∨ s = 279 ∨ s = 280 ∨ s = 281 ∨ s = 282 ∨ s = 283 ∨ s = 284 ∨ s = 285 := by omega
  clear h1 h0
  go_enter Tryz.func96, Tryz.ntmps96
  rcases hs with rfl | rfl | rfl | rfl | rfl | rfl | rfl | rfl | rfl | rfl | rfl | rfl | rfl | rfl | rfl | rfl | rfl | rfl | rfl | rfl | rfl | rfl | rfl | rfl | rfl | rfl | rfl | rfl | rfl
  all_goals
    go_wp2
    go_ret
    exact ⟨rfl, rfl⟩

set_option maxHeartbeats 8000000 in
theorem vdistBits_any (s : Nat) (h1 : s ≤ 29) (w : World) : Calls Tryz.prog 98 #[.int .i64 s] w fun e w' => e = .returned (.int .i64 (dsF s)) ∧ w' = w := by
  have hs : s = 0 ∨ s = 1 ∨ s = 2 ∨ s = 3 ∨ s = 4 ∨ s = 5 ∨ s = 6 ∨ s = 7 ∨ s = 8 ∨ s = 9 ∨ s = 10 ∨ s = 11 ∨ s = 12 ∨ s = 13 ∨ s = 14 ∨ s = 15 ∨ s = 16 ∨ s = 17 ∨ s = 18 ∨ s = 19 ∨ s = 20 ∨ s = 21 ∨ s = 22 ∨ s = 23 ∨ s = 24 ∨ s = 25 ∨ s = 26 ∨ s = 27 ∨ s = 28 ∨ s = 29 := by omega
  clear h1
  go_enter Tryz.func98, Tryz.ntmps98
  rcases hs with rfl | rfl | rfl | rfl | rfl | rfl | rfl | rfl | rfl | rfl | rfl | rfl | rfl | rfl | rfl | rfl | rfl | rfl | rfl | rfl | rfl | rfl | rfl | rfl | rfl | rfl | rfl | rfl | rfl | rfl
  all_goals
    go_wp2
    go_ret
    exact ⟨rfl, rfl⟩

theorem vpower_any (n : Nat) (hn : n ≤ 20) (w : World) : Calls Tryz.prog 111 #[.int .i64 n] w fun e w' => e = .returned (.int .i64 ((2 ^ n : Nat) : Int)) ∧ w' = w := by
  have HP : Hid (∀ i : Fin 21, 2 ^ i.val ≤ 1048576) := by show ∀ i : Fin 21, _; decide
  go_enter Tryz.func111, Tryz.ntmps111
  go_wp2
  go_loopw [3, 4] (fun p i wr => ∃ k : Nat, k ≤ n ∧ i = .int .i64 k ∧ p = .int .i64 ((2 ^ k : Nat) : Int) ∧ wr = w) (fun _ i _ => n - (intOf i).toNat)
  case atStart => exact ⟨0, Nat.zero_le _, rfl, rfl, rfl⟩
  case round =>
    obtain ⟨k, hk, rfl, rfl, rfl⟩ := hrel
    have hb := HP.out ⟨k, by omega⟩
    obtain ⟨q, HQ⟩ : ∃ q : Nat, Hid (q = 2 ^ k) := ⟨_, rfl⟩
    simp only at hb
    rw [← HQ.out] at hb ⊢
    by_cases hlt : k < n
    · have hlt' : (k : Int) < (n : Int) := by omega
      go_wp2
      go_roundw
      case rel => exact ⟨k + 1, by omega, by simp, by rw [Nat.pow_succ, ← HQ.out]; simp; omega, by first | rfl | trivial⟩
      case measure => simp [intOf]; omega
    · obtain rfl : k = n := by omega
      go_wp2
      go_ret
      exact ⟨by rw [← HQ.out]; rfl, rfl⟩
end Go.Proofs.YtpmgnpfpnkmmbaaGreatDoor

namespace Go.Proofs.YtpmgnpfpnkmmbaaGreatDoor
open Go.RowKit Go.Maps
set_option maxRecDepth 20000
set_option linter.unusedVariables false

/-- For how many lengths one run of the Sym could stand. -/
def rch (s : Nat) (l : List Int) (k : Nat) : Nat := if s = 16 ∧ k = 0 then 0 else min (eqn (mnt s (l.take k)) (l.drop k)) (mst s).toNat

theorem rch_18 (l : List Int) (k : Nat) : rch 18 l k = n18 l k := by unfold rch n18; rw [if_neg (by omega)]; rfl
theorem rch_17 (l : List Int) (k : Nat) : rch 17 l k = n17 l k := by unfold rch n17; rw [if_neg (by omega)]; rfl
theorem rch_16 {l : List Int} {k : Nat} (hk : k < l.length) : rch 16 l k = n16 l k := by
  unfold rch n16
  by_cases h : k = 0
  · rw [if_pos ⟨rfl, h⟩, if_pos h]
  · rw [if_neg (by omega), if_neg h]
    have e : mnt (16 : Nat) (l.take k) = l.getD (k - 1) 0 := by
      show mnt 16 (l.take k) = _
      unfold mnt
      rw [if_neg (by decide), if_pos rfl, List.length_take, show min k l.length - 1 = k - 1 by omega]
      simp only [List.getD_eq_getElem?_getD, List.getElem?_take]
      rw [if_pos (by omega)]
    rw [e]; rfl

theorem SI.sub {w : World} {b o cap : Nat} {l : List Int} (h : SI w (.slice (some ⟨b, o, none⟩) l.length cap) l) {i j : Nat} (hij : i ≤ j) (hj : j ≤ l.length) : SI w (.slice (some ⟨b, o + i, none⟩) (j - i) (cap - i)) ((l.drop i).take (j - i)) := by
  obtain ⟨ao', cap', he, h1, h2, h3, h4⟩ := h
  simp only [Value.slice.injEq] at he
  obtain ⟨rfl, -, rfl⟩ := he
  have hl : ((l.drop i).take (j - i)).length = j - i := by rw [List.length_take, List.length_drop]; omega
  refine ⟨_, _, by rw [hl], by rw [hl]; omega, by omega, (fun e => by cases e), fun x hx n hn => ?_⟩
  cases hx
  rw [hl] at hn
  have := h4 _ rfl (i + n) (by omega)
  rw [Addr.add_lit] at this ⊢
  rw [Nat.add_assoc, this]
  simp only [List.getD_eq_getElem?_getD, List.getElem?_take, List.getElem?_drop]
  rw [if_pos hn]

end Go.Proofs.YtpmgnpfpnkmmbaaGreatDoor

namespace Go.Proofs.YtpmgnpfpnkmmbaaGreatDoor
open Go.RowKit Go.Maps
set_option maxRecDepth 20000
set_option linter.unusedVariables false

/-- What a round of Runs stands on. -/
structure Rsr (w wr : World) (l : List Int) (ao : Option Addr) (cap : Nat) (u : Value) (R : List Rn) : Prop where
  si : SI wr (.slice ao l.length cap) l
  tab : Tab wr
  row : OR wr w.heap.size u R
  bel : Below w.heap.size w wr

theorem Rsr.draw {w wr : World} {l : List Int} {ao : Option Addr} {cap : Nat} {u : Value} {R : List Rn} (h : Rsr w wr l ao cap u R) (q : Nat) : Rsr w (wr.drewN q) l ao cap u R :=
  ⟨h.si, h.tab.drewN q, h.row.drewN q, below_drewN h.bel q⟩

theorem Rsr.cells {w wr : World} {l : List Int} {ao : Option Addr} {cap : Nat} {u : Value} {R : List Rn} (h : Rsr w wr l ao cap u R) : wr.cell? ⟨2, 18, none⟩ = some (.int .i64 11) ∧ wr.cell? ⟨2, 17, none⟩ = some (.int .i64 3) ∧ wr.cell? ⟨2, 16, none⟩ = some (.int .i64 3) :=
  ⟨h.tab.least 18 (by omega), h.tab.least 17 (by omega), h.tab.least 16 (by omega)⟩

theorem Rsr.more {w wr w3 : World} {l : List Int} {ao : Option Addr} {cap : Nat} {u u3 : Value} {R : List Rn} {p : Rn} {o : Obj} (h : Rsr w wr l ao cap u R) (h0 : SI w (.slice ao l.length cap) l) (t0 : Tab w) (ho : OR w3 w.heap.size u3 (R ++ [p])) (hg : (wr.alloc o).grownBy w3 u.ownBlock) : Rsr w w3 l ao cap u3 (R ++ [p]) := by
  have hb := grow_run h.bel (Nat.le_refl _) h.row hg
  exact ⟨h0.below hb, t0.mono hb, ho, hb⟩

theorem n18_le {l : List Int} {k : Nat} : n18 l k ≤ 138 := by unfold n18; omega
theorem n17_le {l : List Int} {k : Nat} : n17 l k ≤ 10 := by unfold n17; omega
theorem n16_le {l : List Int} {k : Nat} : n16 l k ≤ 6 := by unfold n16; split <;> omega

/-- What one run more means. -/
theorem rns_more {l : List Int} {k c : Nat} {R : List Rn} {p1 : Int} (hk : k < l.length) (hR : rns l = R ++ rnK l k) (hl : R.length ≤ k) (hp : run1 l k = (p1, (c : Int))) : k + c ≤ l.length ∧ 1 ≤ c ∧ c ≤ 138 ∧ rns l = (R ++ [(p1, (c : Int))]) ++ rnK l (k + c) ∧ (R ++ [(p1, (c : Int))]).length ≤ k + c := by
  obtain ⟨c', e, c1, c2, c3⟩ := run1_cnt hk
  rw [hp] at e
  have : c = c' := by simp only at e; omega
  subst this
  refine ⟨c2, c1, c3, ?_, by rw [List.length_append]; simp; omega⟩
  rw [hR, rnK_step hk (by rw [hp]), hp, List.append_assoc]
  rfl

end Go.Proofs.YtpmgnpfpnkmmbaaGreatDoor

namespace Go.Proofs.YtpmgnpfpnkmmbaaGreatDoor
open Go.RowKit Go.Maps
set_option maxRecDepth 20000
set_option linter.unusedVariables false

theorem lay_more (a : List Int) (k : Nat) (x : Int) : a ++ List.replicate (k + 1) x = (a ++ List.replicate k x) ++ [x] := by
  rw [List.replicate_succ', List.append_assoc]

set_option maxHeartbeats 1000000 in
theorem layr_any (u : Value) (acc : List Int) (s : Int) (c : Nat) (w : World) (B : Nat) (h : OI w B u acc) (hB : B ≤ w.heap.size) (h16 : s = 16 → 0 < acc.length) (hc : c ≤ 138) (hl : acc.length ≤ 1000000000) :
    Calls Tryz.prog 92 #[u, .agg #[.int .i64 s, .int .i64 c]] w fun e w' => ∃ u', e = .returned u' ∧ OI w' B u' (lay acc (s, (c : Int))) ∧ Below B w w' := by
  have HO := hide h
  obtain ⟨a, p, rfl⟩ := h.shape
  have HM := hide (meant_any s (.slice a acc.length p) acc (w.alloc (.cells #[.int .i64 s, .int .i64 c] 139)) (h.alloc _).sb h16)
  obtain ⟨V, HV⟩ : ∃ V, Hid (V = mnt s acc) := ⟨_, rfl⟩
  have HL : Hid (lay acc (s, (c : Int)) = acc ++ List.replicate c V) := by show _ = _; unfold lay; rw [HV.out]; rfl
  rw [← HV.out] at HM
  clear h h16
  go_enter Tryz.func92, Tryz.ntmps92
  go_wp2_with fail
  refine HM.out.mono ?_
  rintro e w1 ⟨rfl, hw1⟩
  subst hw1
  obtain ⟨w1, hw1⟩ : ∃ w1, w.alloc (.cells #[.int .i64 s, .int .i64 c] 139) = w1 := ⟨_, rfl⟩
  have HO1 : Hid (OI w1 B (.slice a acc.length p) acc) := by rw [← hw1]; exact hide (HO.out.alloc _)
  have HB1 : Hid (Below B w w1) := by rw [← hw1]; exact hide ((Below.refl _ _).alloc hB _)
  have cc : w1.cell? ⟨w.heap.size, 1, none⟩ = some (.int .i64 c) := by rw [← hw1]; unfold World.cell?; simp only [heap_alloc_new]; rfl
  rw [hw1]
  clear HM hw1
  go_wp2
  go_loopw [0, 12] (fun x i wr => ∃ k : Nat, k ≤ c ∧ i = .int .i64 k ∧ Hid (OI wr B x (acc ++ List.replicate k V)) ∧ Hid (Below B w wr)) (fun _ i _ => c - (intOf i).toNat)
  case atStart => exact ⟨0, Nat.zero_le _, rfl, by show OI _ _ _ _; simp only [List.replicate_zero, List.append_nil]; exact HO1.out, HB1.out⟩
  case round =>
    obtain ⟨k, hk, rfl, HX, HB⟩ := hrel
    by_cases hlt : k < c
    · have hlt' : (k : Int) < (c : Int) := by omega
      have HD := hide (lay_more acc k V)
      obtain ⟨D, HDD⟩ : ∃ D : List Int, Hid (D = acc ++ List.replicate k V) := ⟨_, hide rfl⟩
      have hDl : D.length ≤ 2000000000 := by rw [HDD.out, List.length_append, List.length_replicate]; omega
      rw [← HDD.out] at HX HD
      have hBw := HB.out.size
      obtain ⟨a2, p2, hu⟩ := HX.out.shape
      subst hu
      have HALC : Hid (OI (wr.alloc (.cells #[.int .i64 V] 3)) B (.slice a2 D.length p2) D) := HX.out.alloc _
      have HSR : Hid (Src Tryz.prog 1 81 (.slice (some ⟨wr.heap.size, 0, none⟩) 1 1) ([V] : List Int).length (([V] : List Int).map (Value.int .i64)) (wr.alloc (.cells #[.int .i64 V] 3))) := built_srcI wr [V]
      go_wp2_with (at_builtin; refine wpList_appI rfl _ _ 81 rfl B _ _ D [V] rfl HALC.out rfl HSR.out (by simp; omega) (by simp; omega) ?_)
      intro v3 w3 ho3 hgr3
      have HN : Hid (OI w3 B v3 (acc ++ List.replicate (k + 1) V) ∧ Below B w w3) := ⟨by rw [HD.out]; exact ho3, grow_one7 HB.out hB HX.out hgr3⟩
      clear ho3 hgr3
      go_wp2
      go_roundw
      case rel => exact ⟨k + 1, by omega, by go_num, HN.out.1, HN.out.2⟩
      case measure => simp [intOf]; omega
    · obtain rfl : k = c := by omega
      have hlt' : ¬ (k : Int) < (k : Int) := by omega
      have HF : Hid (OI wr B u0 (lay acc (s, (k : Int)))) := by show OI _ _ _ _; rw [HL.out]; exact HX.out
      clear HX
      obtain ⟨a2, p2, hu⟩ := HF.out.shape
      subst hu
      go_wp2
      go_ret
      exact ⟨_, rfl, HF.out, HB.out⟩

/-- How many lengths runs stand for. -/
def tot (R : List Rn) : Nat := (lays [] R).length

theorem tot_snoc (R : List Rn) (p : Rn) : tot (R ++ [p]) = tot R + p.2.toNat := by unfold tot; rw [lays_snoc, lay_len]
theorem rn_snoc {R : List Rn} {k : Nat} (h : k < R.length) : R.take (k + 1) = R.take k ++ [R.getD k rn0] := by
  rw [List.take_succ_eq_append_getElem h]
  simp [h]

theorem xpE_snoc : ∀ (S : List Rn) (a : List Int) (r : Rn), xpE a S = 0 → xpE a (S ++ [r]) = if Okr r then if r.1 = 16 ∧ lays a S = [] then 73 else 0 else 77
  | [], a, r, _ => rfl
  | q :: S, a, r, h => by
    simp only [xpE] at h
    by_cases h1 : Okr q
    · rw [if_pos h1] at h
      by_cases h2 : q.1 = 16 ∧ a = []
      · rw [if_pos h2] at h; omega
      · rw [if_neg h2] at h
        have := xpE_snoc S (lay a q) r h
        simp only [List.cons_append, xpE]
        rw [if_pos h1, if_neg h2]
        exact this
    · rw [if_neg h1] at h; omega

theorem xpE_front : ∀ (S T : List Rn) (a : List Int), xpE a S ≠ 0 → xpE a (S ++ T) = xpE a S
  | [], T, a, h => absurd rfl h
  | q :: S, T, a, h => by
    simp only [List.cons_append, xpE] at h ⊢
    by_cases h1 : Okr q
    · rw [if_pos h1] at h ⊢
      by_cases h2 : q.1 = 16 ∧ a = []
      · rw [if_pos h2]; rw [if_pos h1, if_pos h2]
      · rw [if_neg h2] at h ⊢
        rw [if_pos h1, if_neg h2]
        exact xpE_front S T (lay a q) h
    · rw [if_neg h1, if_neg h1]

/-- The first run that has an error tells it. -/
theorem xpE_at {R : List Rn} {k : Nat} (hk : k < R.length) (h0 : xpE [] (R.take k) = 0) :
    (¬ Okr (R.getD k rn0) → xpE [] R = 77) ∧ (Okr (R.getD k rn0) → (R.getD k rn0).1 = 16 → tot (R.take k) = 0 → xpE [] R = 73) ∧ (Okr (R.getD k rn0) → ((R.getD k rn0).1 = 16 → tot (R.take k) ≠ 0) → xpE [] (R.take (k + 1)) = 0) := by
  have e := xpE_snoc (R.take k) [] (R.getD k rn0) h0
  rw [← rn_snoc hk] at e
  have ez : lays [] (R.take k) = [] ↔ tot (R.take k) = 0 := by unfold tot; exact List.length_eq_zero_iff.symm
  have key : xpE [] (R.take (k + 1)) ≠ 0 → xpE [] R = xpE [] (R.take (k + 1)) := fun h => by
    have := xpE_front (R.take (k + 1)) (R.drop (k + 1)) [] h
    rwa [List.take_append_drop] at this
  refine ⟨fun h => ?_, fun h h1 h2 => ?_, fun h h1 => ?_⟩
  · rw [if_neg h] at e
    rw [key (by omega), e]
  · rw [if_pos h, if_pos ⟨h1, ez.2 h2⟩] at e
    rw [key (by omega), e]
  · rw [if_pos h, if_neg (fun q => h1 q.1 (ez.1 q.2))] at e
    exact e

theorem okr_parts {r : Rn} (h : Okr r) : ∃ s c : Nat, r = ((s : Int), (c : Int)) ∧ s < 19 ∧ lst s ≤ c ∧ (c : Int) ≤ mst s ∧ 1 ≤ c ∧ c ≤ 138 := by
  obtain ⟨a, b⟩ := r
  obtain ⟨h1, h2, h3, h4⟩ := h
  simp only at h1 h2 h3 h4
  obtain ⟨s, rfl⟩ := Int.eq_ofNat_of_zero_le h1
  have hs : s < 19 := by omega
  have hb : 1 ≤ b ∧ b ≤ 138 := by
    rcases tab_cases s hs with ⟨x, _, y⟩ | ⟨x, _, y⟩ | ⟨x, _, y⟩ | ⟨x, _, y⟩ <;> rw [x] at h3 <;> rw [y] at h4 <;> omega
  obtain ⟨c, rfl⟩ := Int.eq_ofNat_of_zero_le (show 0 ≤ b by omega)
  exact ⟨s, c, rfl, hs, h3, h4, by omega, by omega⟩

theorem tot_lem {R : List Rn} (h : xpE [] R = 0) : ∀ k, k ≤ R.length → xpE [] (R.take k) = 0 ∧ tot (R.take k) ≤ 138 * k := by
  intro k
  induction k with
  | zero => intro _; exact ⟨rfl, by simp [tot, lays]⟩
  | succ k ih =>
    intro hk
    obtain ⟨i1, i2⟩ := ih (by omega)
    obtain ⟨x1, x2, x3⟩ := xpE_at (k := k) (by omega) i1
    by_cases ok : Okr (R.getD k rn0)
    · obtain ⟨s, c, e, _, _, _, _, hc⟩ := okr_parts ok
      by_cases z : (R.getD k rn0).1 = 16 ∧ tot (R.take k) = 0
      · have := x2 ok z.1 z.2; omega
      · refine ⟨x3 ok (fun q q2 => z ⟨q, q2⟩), ?_⟩
        rw [rn_snoc (by omega), tot_snoc, e]
        simp only [Int.toNat_natCast]
        omega
    · have := x1 ok; omega

end Go.Proofs.YtpmgnpfpnkmmbaaGreatDoor

