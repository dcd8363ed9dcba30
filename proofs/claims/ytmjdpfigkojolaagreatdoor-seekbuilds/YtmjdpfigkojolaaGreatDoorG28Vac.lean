import Derived.Test.YtmjdpfigkojolaaGreatDoorG27Rql
import Derived.Test.YtmjdpfigkojolaaGreatDoorG15Qr
import Derived.Test.YtmjdpfigkojolaaGreatDoorG11Ifp
import Derived.Test.YtmjdpfigkojolaaGreatDoorG16Rdw
import Derived.Test.YtmjdpfigkojolaaGreatDoorG13Wkq
import Derived.Test.YtmjdpfigkojolaaGreatDoorG08Ifa
namespace Go.Proofs.YtmjdpfigkojolaaGreatDoor
open Go.RowKit Go.Maps
set_option maxRecDepth 20000
set_option linter.unusedVariables false

end Go.Proofs.YtmjdpfigkojolaaGreatDoor

namespace Go.Proofs.YtmjdpfigkojolaaGreatDoor
open Go.RowKit Go.Maps
set_option maxRecDepth 20000
set_option linter.unusedVariables false

def tor (v : Value) (R : List (Array Value)) : Thing :=
  ⟨fun w K => ORp 36 6 w 0 v R ∧ (∀ k, v.ownBlock = some k → K k ≠ 0) ∧ ∀ k, K k ≠ 0 → k < w.heap.size,
   fun h a b => ⟨h.1.move fun k hk => b k (h.2.1 k hk), h.2.1, fun k hk => Nat.lt_of_lt_of_le (h.2.2 k hk) a⟩, fun h => h.2.2⟩

def stO (r L : Nat) (a : Option Addr) (n c : Nat) (aw : Option Addr) (nw cw : Nat) (us : Int) (dn : Bool) (er : Int) : Obj := .cells #[.pointer (some ⟨r, 0, none⟩), .int .i64 L, .slice a n c, .slice aw nw cw, .int .i64 us, .bool dn, .int .i64 er] 75

def SX (W w : World) (g r : Nat) (row : List Int) (p L : Nat) (out : List Int) (wh : List (Array Value)) (us : Int) (dn : Bool) (er : Int) (ys : List ((Nat → Nat) × Thing)) : Prop :=
  ∃ Kt Kr Ko Kw a c aw cw, Herd W w ((Kt, tb g (stO r L a out.length c aw wh.length cw us dn er)) :: (Kr, tq r row p) :: (Ko, tl (.slice a out.length c) out) :: (Kw, tor (.slice aw wh.length cw) wh) :: ys) ∧ out.length ≤ L ∧ L ≤ 16777216 ∧ wh.length ≤ 268435456

structure SXe (out0 : List Int) (W w : World) (g r : Nat) (row : List Int) (p L : Nat) (out : List Int) (wh : List (Array Value)) (us : Int) (dn : Bool) (er : Int) (ys : List ((Nat → Nat) × Thing)) : Prop where
  sx : SX W w g r row p L out wh us dn er ys
  pre : ∃ t, out = out0 ++ t

theorem stO_cells {w : World} {g r L : Nat} {a : Option Addr} {n c : Nat} {aw : Option Addr} {nw cw : Nat} {us : Int} {dn : Bool} {er : Int} (h : w.heap[g]? = some (stO r L a n c aw nw cw us dn er)) :
    w.cell? ⟨g, 0, none⟩ = some (.pointer (some ⟨r, 0, none⟩)) ∧ w.cell? ⟨g, 1, none⟩ = some (.int .i64 L) ∧ w.cell? ⟨g, 2, none⟩ = some (.slice a n c) ∧ w.cell? ⟨g, 3, none⟩ = some (.slice aw nw cw) ∧ w.cell? ⟨g, 4, none⟩ = some (.int .i64 us) ∧ w.cell? ⟨g, 5, none⟩ = some (.bool dn) ∧ w.cell? ⟨g, 6, none⟩ = some (.int .i64 er) ∧ ∀ k, w.frozen? ⟨g, k, none⟩ = false := by
  unfold stO at h
  refine ⟨?_, ?_, ?_, ?_, ?_, ?_, ?_, fun k => ?_⟩
  all_goals first | (unfold World.cell?; rw [h]; rfl) | (unfold World.frozen?; rw [h]; rfl)

variable {W w : World} {g r : Nat} {row : List Int} {p L : Nat} {out : List Int} {wh : List (Array Value)} {us : Int} {dn : Bool} {er : Int} {ys : List ((Nat → Nat) × Thing)}

theorem SX.below {w' : World} (h : SX W w g r row p L out wh us dn er ys) (hb : Below w.heap.size w w') : SX W w' g r row p L out wh us dn er ys := by
  obtain ⟨Kt, Kr, Ko, Kw, a, c, aw, cw, H, k⟩ := h
  exact ⟨Kt, Kr, Ko, Kw, a, c, aw, cw, H.below hb, k⟩

theorem SX.bel (h : SX W w g r row p L out wh us dn er ys) : Below W.heap.size W w := by
  obtain ⟨Kt, Kr, Ko, Kw, a, c, aw, cw, H, k⟩ := h
  exact H.bel

theorem SX.rd (h : SX W w g r row p L out wh us dn er ys) : Bit row ∧ p ≤ row.length ∧ row.length ≤ 268435456 ∧ row.length % 8 = 0 := by
  obtain ⟨Kt, Kr, Ko, Kw, a, c, aw, cw, H, k⟩ := h
  have hR : Rq w Kr r row p := H.rep 1 _ rfl
  obtain ⟨v, -, h1, h2, h3, h4⟩ := hR
  exact ⟨h1, h2, h3, h4⟩

theorem SX.cells (h : SX W w g r row p L out wh us dn er ys) : ∃ a c aw cw, w.heap[g]? = some (stO r L a out.length c aw wh.length cw us dn er) ∧ OB w 0 (.slice a out.length c) out ∧ out.length ≤ L ∧ L ≤ 16777216 := by
  obtain ⟨Kt, Kr, Ko, Kw, a, c, aw, cw, H, k1, k2, -⟩ := h
  exact ⟨a, c, aw, cw, H.tbat 0 rfl, (H.rep 2 _ rfl).1, k1, k2⟩

theorem SX.used (h : SX W w g r row p L out wh us dn er ys) (u : Int) : SX W (w.setCell ⟨g, 4, none⟩ (.int .i64 u)) g r row p L out wh u dn er ys := by
  obtain ⟨Kt, Kr, Ko, Kw, a, c, aw, cw, H, k⟩ := h
  exact ⟨Kt, Kr, Ko, Kw, a, c, aw, cw, H.bput 0 rfl 4 (.int .i64 u), k⟩

theorem SX.lit (h : SX W w g r row p L out wh us dn er ys) : ∃ a c, w.cell? ⟨g, 2, none⟩ = some (.slice a out.length c) ∧ OB w 0 (.slice a out.length c) out ∧
    ∀ (w1 w6 : World) (v' : Value) (out' : List Int), Below w.heap.size w w1 → OB w6 0 v' out' → Grew w1 w6 (.slice a out.length c) v' → w6.cell? ⟨g, 2, none⟩ = some (.slice a out.length c) ∧ (∀ k, w6.frozen? ⟨g, k, none⟩ = false) ∧ (out'.length ≤ L → SX W (w6.setCell ⟨g, 2, none⟩ v') g r row p L out' wh us dn er ys) := by
  obtain ⟨Kt, Kr, Ko, Kw, a, c, aw, cw, HH, hoL, hL, hwp⟩ := h
  have h0 : (tb g (stO r L a out.length c aw wh.length cw us dn er)).P w Kt := HH.rep 0 _ rfl
  have h2 : (tl (.slice a out.length c) out).P w Ko := HH.rep 2 _ rfl
  refine ⟨a, c, (stO_cells h0.1).2.2.1, h2.1, fun w1 w6 v' out' hb ho hg => ?_⟩
  have hgs := h0.2.2 g h0.2.1
  have e1 : w6.heap[g]? = w1.heap[g]? := hg.by.block g (Nat.lt_of_lt_of_le hgs hb.size) (fun e => by
    have := HH.sep 0 2 _ _ rfl rfl (by decide) g h0.2.1
    exact h2.2.1 g e.symm this)
  have e2 : w6.heap[g]? = some (stO r L a out.length c aw wh.length cw us dn er) := e1.trans ((hb.block g hgs).trans h0.1)
  refine ⟨(stO_cells e2).2.2.1, (stO_cells e2).2.2.2.2.2.2.2, fun hL' => ?_⟩
  obtain ⟨a', c', rfl⟩ := ho.shape
  obtain ⟨K', h3⟩ := (HH.below hb).growB8 2 rfl ho hg
  simp only [List.set_cons_succ, List.set_cons_zero] at h3
  exact ⟨Kt, Kr, K', Kw, a', c', aw, cw, h3.bput 0 rfl 2 (.slice a' out'.length c'), hL', hL, hwp⟩

theorem lnB_next : ∀ j : Fin 27, lnB (257 + (j.val + 1)) = lnB (257 + j.val) + 2 ^ lnF (257 + j.val) := by decide
theorem dsB_next : ∀ j : Fin 29, dsB (j.val + 1) = dsB j.val + 2 ^ dsF j.val := by decide

set_option maxHeartbeats 1000000 in
theorem vlenBase_any (s : Nat) (h0 : 257 ≤ s) (h1 : s ≤ 285) (w : World) : Calls Tryz.prog 120 #[.int .i64 s] w fun e w' => e = .returned (.int .i64 (lnB s)) ∧ w' = w := by
  by_cases h2 : s = 285
  · subst h2
    go_enter Tryz.func120, Tryz.ntmps120
    go_wp2
    go_ret
    exact ⟨rfl, rfl⟩
  · have g2 : ((s : Int) == 285) = false := by simp; omega
    have HLN : Hid (∀ j : Fin 27, lnB (257 + (j.val + 1)) = lnB (257 + j.val) + 2 ^ lnF (257 + j.val)) := lnB_next
    go_enter Tryz.func120, Tryz.ntmps120
    go_wp2
    go_loopw [3, 4] (fun b t wr => ∃ j : Nat, 257 ≤ j ∧ j ≤ s ∧ b = .int .i64 (lnB j : Int) ∧ t = .int .i64 (j : Int) ∧ wr = w) (fun _ t _ => s - (intOf t).toNat)
    case atStart => exact ⟨257, Nat.le_refl _, h0, rfl, rfl, rfl⟩
    case round =>
      obtain ⟨j, hj0, hj, rfl, rfl, rfl⟩ := hrel
      obtain ⟨B, HBB⟩ : ∃ B : Nat, Hid (B = lnB j) := ⟨_, rfl⟩
      have hB : B ≤ 258 := by rw [HBB.out]; exact lnBle ⟨j, by omega⟩
      rw [← HBB.out]
      by_cases hlt : j < s
      · have hlt' : (j : Int) < (s : Int) := by omega
        have HBI := hide (vlenBits_any j hj0 (by omega) wr)
        obtain ⟨F, HF⟩ : ∃ F : Nat, Hid (F = lnF j) := ⟨_, rfl⟩
        have hF : F ≤ 5 := by rw [HF.out]; exact lnFle (by omega)
        have HPW := hide (vpower_any F (by omega) wr)
        have hq : 2 ^ F ≤ 32 := by have := Nat.pow_le_pow_right (n := 2) (by decide) hF; omega
        obtain ⟨q, HQ⟩ : ∃ q : Nat, Hid (q = 2 ^ F) := ⟨_, rfl⟩
        rw [← HF.out] at HBI
        rw [← HQ.out] at HPW hq
        have HNX : Hid (lnB (j + 1) = B + q) := by
          show _ = _
          have := HLN.out ⟨j - 257, by omega⟩
          simp only at this
          rw [show 257 + (j - 257 + 1) = j + 1 by omega, show 257 + (j - 257) = j by omega, ← HBB.out, ← HF.out, ← HQ.out] at this
          exact this
        go_wp2_with fail
        refine HBI.out.mono ?_
        rintro e w8 ⟨rfl, hw8⟩
        subst hw8
        go_wp2_with fail
        refine HPW.out.mono ?_
        rintro e w9 ⟨rfl, hw9⟩
        subst hw9
        go_wp2
        go_roundw
        case rel => exact ⟨j + 1, by omega, by omega, by rw [HNX.out]; simp, by simp, by first | rfl | trivial⟩
        case measure => simp [intOf]; omega
      · obtain rfl : j = s := by omega
        go_wp2
        go_ret
        exact ⟨by rw [← HBB.out]; rfl, rfl⟩

set_option maxHeartbeats 1000000 in
theorem vdistBase_any (s : Nat) (h1 : s ≤ 29) (w : World) : Calls Tryz.prog 122 #[.int .i64 s] w fun e w' => e = .returned (.int .i64 (dsB s)) ∧ w' = w := by
  have HLN : Hid (∀ j : Fin 29, dsB (j.val + 1) = dsB j.val + 2 ^ dsF j.val) := dsB_next
  go_enter Tryz.func122, Tryz.ntmps122
  go_wp2
  go_loopw [3, 4] (fun b t wr => ∃ j : Nat, j ≤ s ∧ b = .int .i64 (dsB j : Int) ∧ t = .int .i64 (j : Int) ∧ wr = w) (fun _ t _ => s - (intOf t).toNat)
  case atStart => exact ⟨0, Nat.zero_le _, rfl, rfl, rfl⟩
  case round =>
    obtain ⟨j, hj, rfl, rfl, rfl⟩ := hrel
    obtain ⟨B, HBB⟩ : ∃ B : Nat, Hid (B = dsB j) := ⟨_, rfl⟩
    have hB : B ≤ 24577 := by rw [HBB.out]; exact (dsBle ⟨j, by omega⟩).1
    rw [← HBB.out]
    by_cases hlt : j < s
    · have hlt' : (j : Int) < (s : Int) := by omega
      have HBI := hide (vdistBits_any j (by omega) wr)
      obtain ⟨F, HF⟩ : ∃ F : Nat, Hid (F = dsF j) := ⟨_, rfl⟩
      have hF : F ≤ 13 := by rw [HF.out]; exact dsFle (by omega)
      have HPW := hide (vpower_any F (by omega) wr)
      have hq : 2 ^ F ≤ 8192 := by have := Nat.pow_le_pow_right (n := 2) (by decide) hF; omega
      obtain ⟨q, HQ⟩ : ∃ q : Nat, Hid (q = 2 ^ F) := ⟨_, rfl⟩
      rw [← HF.out] at HBI
      rw [← HQ.out] at HPW hq
      have HNX : Hid (dsB (j + 1) = B + q) := by
        show _ = _
        have := HLN.out ⟨j, by omega⟩
        simp only at this
        rw [← HBB.out, ← HF.out, ← HQ.out] at this
        exact this
      go_wp2_with fail
      refine HBI.out.mono ?_
      rintro e w8 ⟨rfl, hw8⟩
      subst hw8
      go_wp2_with fail
      refine HPW.out.mono ?_
      rintro e w9 ⟨rfl, hw9⟩
      subst hw9
      go_wp2
      go_roundw
      case rel => exact ⟨j + 1, by omega, by rw [HNX.out]; simp, by simp, by first | rfl | trivial⟩
      case measure => simp [intOf]; omega
    · obtain rfl : j = s := by omega
      go_wp2
      go_ret
      exact ⟨by rw [← HBB.out]; rfl, rfl⟩

theorem vtake (h : SX W w g r row p L out wh us dn er ys) (n : Nat) (hn : n ≤ 32) :
    Calls Tryz.prog 72 #[.pointer (some ⟨r, 0, none⟩), .int .i64 n] w fun e w' => (p + n ≤ row.length ∧ e = .returned (.tuple #[.int .u32 (ahead row p n), .int .i64 0]) ∧ SX W w' g r row (p + n) L out wh us dn er ys) ∨ (row.length < p + n ∧ e = .returned (.tuple #[.int .u32 (takeV row p n), .int .i64 (takeE row p n)]) ∧ takeE row p n ≠ 0 ∧ SX W w' g r row p L out wh us dn er ys) := by
  obtain ⟨Kt, Kr, Ko, Kw, a, c, aw, cw, H, k1, k2, k3⟩ := h
  refine (hqtake H 1 rfl n).mono ?_
  rintro e w1 ⟨rfl, h1⟩
  simp only [List.set_cons_succ, List.set_cons_zero] at h1
  have ht := take_ok8 (row := row) (p := p) hn
  by_cases hp : p + n ≤ row.length
  · obtain ⟨e1, e2, e3⟩ := ht.1 hp
    rw [e3] at h1
    exact .inl ⟨hp, by rw [e1, e2], Kt, Kr, Ko, Kw, a, c, aw, cw, h1, k1, k2, k3⟩
  · have hne := ht.2 (by omega)
    have h3 : takeP row p n = p := by unfold takeP; rw [if_neg (fun q => hp (by have := q.2; omega))]
    rw [h3] at h1
    exact .inr ⟨by omega, rfl, hne, Kt, Kr, Ko, Kw, a, c, aw, cw, h1, k1, k2, k3⟩

theorem vtakeU (h : SX W w g r row p L out wh us dn er ys) (n : Nat) (hn : n ≤ 32) :
    Calls Tryz.prog 72 #[.pointer (some ⟨r, 0, none⟩), .int .i64 n] w fun e w' => e = .returned (.tuple #[.int .u32 (takeV row p n), .int .i64 (takeE row p n)]) ∧ SX W w' g r row (takeP row p n) L out wh us dn er ys := by
  obtain ⟨Kt, Kr, Ko, Kw, a, c, aw, cw, H, k1, k2, k3⟩ := h
  refine (hqtake H 1 rfl n).mono ?_
  rintro e w1 ⟨rfl, h1⟩
  simp only [List.set_cons_succ, List.set_cons_zero] at h1
  exact ⟨rfl, Kt, Kr, Ko, Kw, a, c, aw, cw, h1, k1, k2, k3⟩

theorem vnext (h : SX W w g r row p L out wh us dn er ys) (i : Nat) {K : Nat → Nat} {gd : Nat} {l : List Int} (hi : ys[i]? = some (K, tdx gd l)) :
    Calls Tryz.prog 97 #[.pointer (some ⟨gd, 0, none⟩), .pointer (some ⟨r, 0, none⟩)] w fun e w' => (syE l row p = 0 ∧ e = .returned (.tuple #[.int .i64 (nxS l row p : Nat), .int .i64 0]) ∧ SX W w' g r row (nxP l row p) L out wh us dn er ys) ∨ (syE l row p ≠ 0 ∧ e = .returned (.tuple #[.int .i64 0, .int .i64 (syE l row p)]) ∧ SX W w' g r row p L out wh us dn er ys) := by
  obtain ⟨Kt, Kr, Ko, Kw, a, c, aw, cw, H, k1, k2, k3⟩ := h
  have HN := hide (hxnext H (i + 4) 1 (by simpa using hi) rfl)
  have HK := hide (And.intro k1 (And.intro k2 k3))
  obtain ⟨E, HE⟩ : ∃ E, Hid (E = nxE l row p) := ⟨_, rfl⟩
  obtain ⟨S, HS⟩ : ∃ S : Nat, Hid (S = nxS l row p) := ⟨_, rfl⟩
  have HSY : Hid (syE l row p = if E = 0 then 0 else if E = 54 then 80 else 83) := by show _ = _; rw [HE.out]; rfl
  rw [← HE.out, ← HS.out] at HN
  rw [← HS.out]
  clear H k1 k2 k3
  go_enter Tryz.func97, Tryz.ntmps97
  go_wp2_with fail
  refine HN.out.mono ?_
  rintro e w1 ⟨rfl, h1⟩
  simp only [List.set_cons_succ, List.set_cons_zero] at h1
  have HX := hide h1
  clear h1
  by_cases e0 : E = 0
  · subst e0
    have HS0 : Hid (syE l row p = 0) := by show _ = _; rw [HSY.out, if_pos rfl]
    go_wp2
    go_ret2
    exact .inl ⟨HS0.out, rfl, Kt, Kr, Ko, Kw, a, c, aw, cw, HX.out, HK.out⟩
  · have hpe : nxP l row p = p := by unfold nxP; rw [if_neg (by rw [← HE.out]; exact e0)]
    rw [hpe] at HX
    have e0' : (E == 0) = false := by simpa using e0
    clear hpe
    by_cases e1 : E = 54
    · subst e1
      have HS0 : Hid (syE l row p = 80) := by show _ = _; rw [HSY.out, if_neg e0, if_pos rfl]
      go_wp2
      go_ret2
      rw [HS0.out]
      exact .inr ⟨by decide, rfl, Kt, Kr, Ko, Kw, a, c, aw, cw, HX.out, HK.out⟩
    · have e1' : (E == 54) = false := by simpa using e1
      have HS0 : Hid (syE l row p = 83) := by show _ = _; rw [HSY.out, if_neg e0, if_neg e1]
      go_wp2
      go_ret2
      rw [HS0.out]
      exact .inr ⟨by decide, rfl, Kt, Kr, Ko, Kw, a, c, aw, cw, HX.out, HK.out⟩
end Go.Proofs.YtmjdpfigkojolaaGreatDoor

