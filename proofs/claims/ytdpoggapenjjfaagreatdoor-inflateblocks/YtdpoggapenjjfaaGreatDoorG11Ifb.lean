import Derived.Test.YtdpoggapenjjfaaGreatDoorG10Rpt
import Derived.Test.YtdpoggapenjjfaaGreatDoorG07Rhs
import Derived.Test.YtdpoggapenjjfaaGreatDoorG09Rhr
import Derived.WalkLawsBesides
namespace Go.Proofs.YtdpoggapenjjfaaGreatDoor
open Go.RowKit Go.Maps
set_option maxRecDepth 20000

theorem hfresh {W w w' : World} {xs : List ((Nat → Nat) × Thing)} (H : Herd W w xs) {l : List Int} {e : Ending} (h : Fresh w l e w') : ∃ a c K, e = .returned (.slice a l.length c) ∧ Herd W w' (xs ++ [(K, ti (.slice a l.length c) l)]) := by
  obtain ⟨a, c, rfl, ho, hb⟩ := h
  obtain ⟨K, hh⟩ := H.ilist hb ho
  exact ⟨a, c, K, rfl, hh⟩

theorem hflit {W w : World} {xs : List ((Nat → Nat) × Thing)} (H : Herd W w xs) {L : List Int} (hL : L = fxL 288) :
    Calls Tryz.prog 48 #[] w fun e w' => ∃ a c K, e = .returned (.slice a L.length c) ∧ Herd W w' (xs ++ [(K, ti (.slice a L.length c) L)]) := by
  subst hL
  exact (fixedLit_any w).mono fun e w' h => hfresh H h

theorem hxflit {W w : World} {xs : List ((Nat → Nat) × Thing)} (H : Herd W w xs) {L : List Int} (hL : L = fxL 288) :
    Calls Tryz.prog 35 #[] w fun e w' => ∃ a c K, e = .returned (.slice a L.length c) ∧ Herd W w' (xs ++ [(K, ti (.slice a L.length c) L)]) := by
  subst hL
  exact (xfixedLit_any w).mono fun e w' h => hfresh H h

theorem hfdist {W w : World} {xs : List ((Nat → Nat) × Thing)} (H : Herd W w xs) {D : List Int} (hD : D = List.replicate 32 5) :
    Calls Tryz.prog 49 #[] w fun e w' => ∃ a c K, e = .returned (.slice a D.length c) ∧ Herd W w' (xs ++ [(K, ti (.slice a D.length c) D)]) := by
  subst hD
  exact (fixedDist_any w).mono fun e w' h => hfresh H h

theorem hxfdist {W w : World} {xs : List ((Nat → Nat) × Thing)} (H : Herd W w xs) {D : List Int} (hD : D = List.replicate 32 5) :
    Calls Tryz.prog 36 #[] w fun e w' => ∃ a c K, e = .returned (.slice a D.length c) ∧ Herd W w' (xs ++ [(K, ti (.slice a D.length c) D)]) := by
  subst hD
  exact (xfixedDist_any w).mono fun e w' h => hfresh H h

end Go.Proofs.YtdpoggapenjjfaaGreatDoor

namespace Go.Proofs.YtdpoggapenjjfaaGreatDoor
open Go.RowKit Go.Maps
set_option maxRecDepth 20000
set_option linter.unusedVariables false

abbrev flt (e : Int) : Ending := .panicked [{ v := .iface 59 (.agg #[.int .i64 e]), recovered := false }]
def Off (W : World) (e : Int) (en : Ending) (w' : World) : Prop := en = flt e ∧ Below W.heap.size W w'

def txO (r : Nat) (a : Option Addr) (n c : Nat) (L : Nat) (dn : Bool) (fl fd : Option Addr) : Obj := .cells #[.pointer (some ⟨r, 0, none⟩), .slice a n c, .int .i64 L, .bool dn, .pointer fl, .pointer fd] 50

def Fx (ys : List ((Nat → Nat) × Thing)) (fl fd : Option Addr) : Prop :=
  (fl = none ∧ fd = none) ∨ ∃ (gl gd i j : Nat) (Kl Kd : Nat → Nat), fl = some ⟨gl, 0, none⟩ ∧ fd = some ⟨gd, 0, none⟩ ∧ ys[i]? = some (Kl, td gl FL) ∧ ys[j]? = some (Kd, td gd FD)

def TX (W w : World) (g r : Nat) (row : List Int) (p L : Nat) (out : List Int) (dn : Bool) (ys : List ((Nat → Nat) × Thing)) : Prop :=
  ∃ Kt Kr Ko a c fl fd, Herd W w ((Kt, tb g (txO r a out.length c L dn fl fd)) :: (Kr, tr r row p) :: (Ko, tl (.slice a out.length c) out) :: ys) ∧ Fx ys fl fd ∧ out.length ≤ L ∧ L ≤ 16777216

def Bel (W : World) (ys : List ((Nat → Nat) × Thing)) (w' : World) : Prop := Below W.heap.size W w' ∧ ∀ d, d ∈ ys → d.2.P w' d.1
def Ofg (W : World) (ys : List ((Nat → Nat) × Thing)) (e : Int) (en : Ending) (w' : World) : Prop := en = flt e ∧ Bel W ys w'
theorem Ofg.off {W w' : World} {ys : List ((Nat → Nat) × Thing)} {e : Int} {en : Ending} (h : Ofg W ys e en w') : Off W e en w' := ⟨h.1, h.2.1⟩
theorem Bel.of {W w' : World} {xs ys : List ((Nat → Nat) × Thing)} (H : Herd W w' xs) (hs : ∀ d, d ∈ ys → d ∈ xs) : Bel W ys w' :=
  ⟨H.bel, fun d hd => by obtain ⟨i, hi⟩ := List.getElem?_of_mem (hs d hd); exact H.rep i d hi⟩
theorem Bel.sub {W w' : World} {xs ys : List ((Nat → Nat) × Thing)} (h : Bel W xs w') (hs : ∀ d, d ∈ ys → d ∈ xs) : Bel W ys w' := ⟨h.1, fun d hd => h.2 d (hs d hd)⟩
theorem Bel.low {W w w' : World} {ys : List ((Nat → Nat) × Thing)} (h : Bel W ys w) (hb : Below w.heap.size w w') : Bel W ys w' :=
  ⟨h.1.trans (hb.mono h.1.size), fun d hd => d.2.far (h.2 d hd) hb.size fun k hk => hb.block k (d.2.sup (h.2 d hd) k hk)⟩
theorem Ofg.of {W w' : World} {a b c : (Nat → Nat) × Thing} {ys : List ((Nat → Nat) × Thing)} {e : Int} {en : Ending} (h : en = flt e) (H : Herd W w' (a :: b :: c :: ys)) : Ofg W ys e en w' := ⟨h, Bel.of H fun d hd => by simp [hd]⟩
theorem TX.bel2 {W w : World} {g r : Nat} {row : List Int} {p L : Nat} {out : List Int} {dn : Bool} {ys : List ((Nat → Nat) × Thing)} (h : TX W w g r row p L out dn ys) : Bel W ys w := by
  obtain ⟨Kt, Kr, Ko, a, c, fl, fd, H, k⟩ := h
  exact Bel.of H fun d hd => by simp [hd]

theorem Off.of {W w' : World} {xs : List ((Nat → Nat) × Thing)} {e : Int} {en : Ending} (h : en = flt e) (H : Herd W w' xs) : Off W e en w' := ⟨h, H.bel⟩

theorem txO_cells {w : World} {g r : Nat} {a : Option Addr} {n c L : Nat} {dn : Bool} {fl fd : Option Addr} (h : w.heap[g]? = some (txO r a n c L dn fl fd)) :
    w.cell? ⟨g, 0, none⟩ = some (.pointer (some ⟨r, 0, none⟩)) ∧ w.cell? ⟨g, 1, none⟩ = some (.slice a n c) ∧ w.cell? ⟨g, 2, none⟩ = some (.int .i64 L) ∧ w.cell? ⟨g, 3, none⟩ = some (.bool dn) ∧ w.cell? ⟨g, 4, none⟩ = some (.pointer fl) ∧ w.cell? ⟨g, 5, none⟩ = some (.pointer fd) := by
  unfold txO at h
  refine ⟨?_, ?_, ?_, ?_, ?_, ?_⟩ <;> (unfold World.cell?; rw [h]; rfl)
theorem txO_free {w : World} {g r : Nat} {a : Option Addr} {n c L : Nat} {dn : Bool} {fl fd : Option Addr} (h : w.heap[g]? = some (txO r a n c L dn fl fd)) (k : Nat) : w.frozen? ⟨g, k, none⟩ = false := by
  unfold txO at h
  unfold World.frozen?; rw [h]; rfl

theorem TX.below {W w w' : World} {g r : Nat} {row : List Int} {p L : Nat} {out : List Int} {dn : Bool} {ys : List ((Nat → Nat) × Thing)} (h : TX W w g r row p L out dn ys) (hb : Below w.heap.size w w') : TX W w' g r row p L out dn ys := by
  obtain ⟨Kt, Kr, Ko, a, c, fl, fd, H, k⟩ := h
  exact ⟨Kt, Kr, Ko, a, c, fl, fd, H.below hb, k⟩

theorem TX.bel {W w : World} {g r : Nat} {row : List Int} {p L : Nat} {out : List Int} {dn : Bool} {ys : List ((Nat → Nat) × Thing)} (h : TX W w g r row p L out dn ys) : Below W.heap.size W w := by
  obtain ⟨Kt, Kr, Ko, a, c, fl, fd, H, k⟩ := h
  exact H.bel

theorem TX.rd {W w : World} {g r : Nat} {row : List Int} {p L : Nat} {out : List Int} {dn : Bool} {ys : List ((Nat → Nat) × Thing)} (h : TX W w g r row p L out dn ys) : Bit row ∧ p ≤ row.length ∧ row.length ≤ 268435456 ∧ row.length % 8 = 0 := by
  obtain ⟨Kt, Kr, Ko, a, c, fl, fd, H, k⟩ := h
  have hR : Rp w Kr r row p := H.rep 1 _ rfl
  exact ⟨hR.bit, hR.le⟩

theorem giveUp_any (e : Int) (w : World) : Calls Tryz.prog 21 #[.int .i64 e] w fun en w' => en = flt e ∧ w' = w := by
  go_enter Tryz.func21, Tryz.ntmps21
  go_wp2
  exact ⟨rfl, rfl, rfl⟩

theorem take_ok8 {row : List Int} {p n : Nat} (hn : n ≤ 32) : (p + n ≤ row.length → takeE row p n = 0 ∧ takeV row p n = ahead row p n ∧ takeP row p n = p + n) ∧ (row.length < p + n → takeE row p n ≠ 0 ) := by
  have hc : Cnt (n : Int) := ⟨by omega, by omega⟩
  constructor
  · intro h
    have h2 : takeOk row p n := ⟨hc, by omega⟩
    refine ⟨?_, ?_, ?_⟩
    · unfold takeE; rw [if_pos hc, if_pos (by omega)]
    · unfold takeV; rw [if_pos h2]; simp
    · unfold takeP; rw [if_pos h2]; simp
  · intro h
    unfold takeE; rw [if_pos hc, if_neg (by omega)]; decide

set_option maxHeartbeats 1000000 in
theorem htk {W w : World} {g r : Nat} {row : List Int} {p L : Nat} {out : List Int} {dn : Bool} {ys : List ((Nat → Nat) × Thing)} (H : TX W w g r row p L out dn ys) (n : Nat) (hn : n ≤ 32) :
    Calls Tryz.prog 25 #[.pointer (some ⟨g, 0, none⟩), .int .i64 n] w fun en w' => (p + n ≤ row.length ∧ en = .returned (.int .i64 (ahead row p n)) ∧ TX W w' g r row (p + n) L out dn ys) ∨ (row.length < p + n ∧ Ofg W ys 80 en w') := by
  have hbit := H.rd.1
  obtain ⟨Kt, Kr, Ko, a, c, fl, fd, HH, hk⟩ := H
  have ht : w.heap[g]? = some (txO r a out.length c L dn fl fd) := (HH.rep 0 _ rfl).1
  obtain ⟨c0, c1, c2, c3, c4, c5⟩ := txO_cells ht
  have HT := hide (htake HH 1 rfl n)
  have HK := hide hk
  have HTO := hide (take_ok8 (row := row) (p := p) hn)
  have HAB := hide (ahead_bound hbit p n)
  clear HH ht c1 c2 c3 c4 c5 hbit hk
  go_enter Tryz.func25, Tryz.ntmps25
  go_wp2_with fail
  refine HT.out.mono ?_
  rintro e w1 ⟨rfl, h1⟩
  simp only [List.set_cons_succ, List.set_cons_zero] at h1
  have HX := hide h1
  clear h1 c0
  by_cases hp : p + n ≤ row.length
  · obtain ⟨e1, e2, e3⟩ := HTO.out.1 hp
    rw [e1, e2]
    rw [e3] at HX
    obtain ⟨v, HV⟩ : ∃ v, Hid (v = ahead row p n) := ⟨_, rfl⟩
    have hb0 : 0 ≤ v := by rw [HV.out]; exact HAB.out.1
    have hb1 : v < 4294967296 := by rw [HV.out]; exact Int.lt_of_lt_of_le HAB.out.2 (pow_le (b := 32) hn)
    rw [← HV.out]
    clear e1 e2 e3
    go_wp2
    go_ret
    exact .inl ⟨hp, by rw [← HV.out]; rfl, Kt, Kr, Ko, a, c, fl, fd, HX.out, HK.out⟩
  · have hq : row.length < p + n := by omega
    have hne := HTO.out.2 hq
    have hne' : (takeE row p n != 0) = true := by simpa using hne
    obtain ⟨E, HE⟩ : ∃ E, Hid (E = takeE row p n) := ⟨_, rfl⟩
    rw [← HE.out] at hne' hne ⊢
    obtain ⟨V, HV⟩ : ∃ V, Hid (V = takeV row p n) := ⟨_, rfl⟩
    rw [← HV.out]
    go_wp2_with fail
    refine (giveUp_any 80 _).mono ?_
    rintro e w2 ⟨rfl, rfl⟩
    go_wp2
    exact ⟨rfl, .inr ⟨hq, Ofg.of rfl HX.out⟩⟩
end Go.Proofs.YtdpoggapenjjfaaGreatDoor

namespace Go.Proofs.YtdpoggapenjjfaaGreatDoor
open Go.RowKit Go.Maps
set_option maxRecDepth 20000
set_option linter.unusedVariables false

set_option maxHeartbeats 1000000 in
theorem hroom {W w : World} {g r : Nat} {row : List Int} {p L : Nat} {out : List Int} {dn : Bool} {ys : List ((Nat → Nat) × Thing)} (H : TX W w g r row p L out dn ys) (n : Nat) (hn : n ≤ 16777216) :
    Calls Tryz.prog 41 #[.pointer (some ⟨g, 0, none⟩), .int .i64 n] w fun en w' => (out.length + n ≤ L ∧ en = .returned (.tuple #[]) ∧ ∃ q, w' = w.drewN q) ∨ (L < out.length + n ∧ Ofg W ys 85 en w') := by
  have hbl := H.bel2
  obtain ⟨Kt, Kr, Ko, a, c, fl, fd, HH, hk⟩ := H
  have ht : w.heap[g]? = some (txO r a out.length c L dn fl fd) := (HH.rep 0 _ rfl).1
  obtain ⟨c0, c1, c2, c3, c4, c5⟩ := txO_cells ht
  obtain ⟨k1, k2⟩ := hk.2
  have d1 : ∀ q, (w.drewN q).cell? ⟨g, 1, none⟩ = some (.slice a out.length c) := fun q => c1
  have d2 : ∀ q, (w.drewN q).cell? ⟨g, 2, none⟩ = some (.int .i64 L) := fun q => c2
  have HB := hide hbl
  obtain ⟨m, HM⟩ : ∃ m, Hid (m = out.length) := ⟨_, rfl⟩
  rw [← HM.out] at d1 k1 ⊢
  clear HH ht c0 c1 c2 c3 c4 c5 hk hbl
  go_enter Tryz.func41, Tryz.ntmps41
  by_cases hl : m + n ≤ L
  · have h1 : ¬ ((n : Int) > (L : Int) - m) := by omega
    have h2 : decide ((n : Int) > (L : Int) - m) = false := by simpa using h1
    have h3 : decide ((L : Int) - m < n) = false := by simpa using h1
    go_wp2
    go_quiet (fail)
    go_wp2
    first | go_end0 | refine bodyPost_end (results_none rfl _ _ _) rfl ?_
    exact .inl ⟨hl, rfl, _, rfl⟩
  · have h1 : ((n : Int) > (L : Int) - m) := by omega
    have h2 : decide ((n : Int) > (L : Int) - m) = true := by simpa using h1
    have h3 : decide ((L : Int) - m < n) = true := by simpa using h1
    go_wp2
    go_quiet (fail)
    go_wp2_with fail
    refine (giveUp_any 85 _).mono ?_
    rintro e w2 ⟨rfl, rfl⟩
    go_wp2
    exact ⟨rfl, .inr ⟨by omega, rfl, HB.out.low (below_drewN (Below.refl _ _) _)⟩⟩

set_option maxHeartbeats 1000000 in
theorem hsym {W w : World} {g r : Nat} {row : List Int} {p L : Nat} {out : List Int} {dn : Bool} {ys : List ((Nat → Nat) × Thing)} (H : TX W w g r row p L out dn ys) (i : Nat) {K : Nat → Nat} {gd : Nat} {l : List Int} (hi : ys[i]? = some (K, td gd l)) :
    Calls Tryz.prog 43 #[.pointer (some ⟨g, 0, none⟩), .pointer (some ⟨gd, 0, none⟩)] w fun en w' => (syE l row p = 0 ∧ en = .returned (.int .i64 (nxS l row p)) ∧ TX W w' g r row (nxP l row p) L out dn ys) ∨ (syE l row p ≠ 0 ∧ Ofg W ys (syE l row p) en w') := by
  obtain ⟨Kt, Kr, Ko, a, c, fl, fd, HH, hk⟩ := H
  have ht : w.heap[g]? = some (txO r a out.length c L dn fl fd) := (HH.rep 0 _ rfl).1
  obtain ⟨c0, c1, c2, c3, c4, c5⟩ := txO_cells ht
  have HN := hide (hnext HH (i + 3) 1 (by simpa using hi) rfl)
  have HK := hide hk
  obtain ⟨E, HE⟩ : ∃ E, Hid (E = nxE l row p) := ⟨_, rfl⟩
  obtain ⟨S, HS⟩ : ∃ S : Nat, Hid (S = nxS l row p) := ⟨_, rfl⟩
  have HSY : Hid (syE l row p = if E = 0 then 0 else if E = 54 then 80 else 83) := by show _ = _; rw [HE.out]; rfl
  rw [← HE.out, ← HS.out] at HN
  rw [← HS.out]
  clear HH ht c1 c2 c3 c4 c5 hk
  go_enter Tryz.func43, Tryz.ntmps43
  go_wp2_with fail
  refine HN.out.mono ?_
  rintro e w1 ⟨rfl, h1⟩
  simp only [List.set_cons_succ, List.set_cons_zero] at h1
  have HX := hide h1
  clear h1 c0
  by_cases e0 : E = 0
  · subst e0
    have hs0 : syE l row p = 0 := by rw [HSY.out, if_pos rfl]
    have HS0 := hide hs0
    clear hs0
    go_wp2
    go_ret
    exact .inl ⟨HS0.out, rfl, Kt, Kr, Ko, a, c, fl, fd, HX.out, HK.out⟩
  · by_cases e1 : E = 54
    · subst e1
      have hs0 : syE l row p = 80 := by rw [HSY.out, if_neg e0, if_pos rfl]
      have HS0 := hide hs0
      clear hs0
      go_wp2_with fail
      refine (giveUp_any 80 _).mono ?_
      rintro e w2 ⟨rfl, rfl⟩
      go_wp2
      rw [HS0.out]
      exact ⟨rfl, .inr ⟨by decide, Ofg.of rfl HX.out⟩⟩
    · have hs0 : syE l row p = 83 := by rw [HSY.out, if_neg e0, if_neg e1]
      have HS0 := hide hs0
      have h1 : (E == 54) = false := by simpa using e1
      have h2 : (E != 0) = true := by simpa using e0
      clear hs0
      go_wp2_with fail
      refine (giveUp_any 83 _).mono ?_
      rintro e w2 ⟨rfl, rfl⟩
      go_wp2
      rw [HS0.out]
      exact ⟨rfl, .inr ⟨by decide, Ofg.of rfl HX.out⟩⟩

theorem lnFle {s : Nat} (h : s ≤ 285) : lnF s ≤ 5 := by unfold lnF; split <;> (try split) <;> omega
theorem dsFle {s : Nat} (h : s ≤ 29) : dsF s ≤ 13 := by unfold dsF; split <;> omega
end Go.Proofs.YtdpoggapenjjfaaGreatDoor

