import Derived.Test.YtpmgnpfpnkmmbaaGreatDoorG42Smw
import Derived.Test.YtpmgnpfpnkmmbaaGreatDoorG40Mx1
import Derived.Test.YtpmgnpfpnkmmbaaGreatDoorG13Rhl
import Derived.Test.YtpmgnpfpnkmmbaaGreatDoorG23Rdw
import Derived.Test.YtpmgnpfpnkmmbaaGreatDoorG15Xck
namespace Go.Proofs.YtpmgnpfpnkmmbaaGreatDoor
open Go.RowKit Go.Maps
set_option maxRecDepth 20000
set_option linter.unusedVariables false

/-- What is laid by runs of one length alone. -/
theorem lays_const {v : Int} : ∀ (R : List Rn) (a : List Int), (∀ r ∈ R, ∀ b, mnt r.1 b = v) → ∃ n, lays a R = a ++ List.replicate n v
  | [], a, _ => ⟨0, by simp [lays]⟩
  | r :: R, a, h => by
    obtain ⟨n, e⟩ := lays_const R (lay a r) fun x hx => h x (List.mem_cons_of_mem _ hx)
    refine ⟨r.2.toNat + n, ?_⟩
    have : lays a (r :: R) = lays (lay a r) R := rfl
    rw [this, e]
    unfold lay
    rw [h r List.mem_cons_self a, List.append_assoc, List.replicate_append_replicate]

theorem eqn_rep (v : Int) (n : Nat) : eqn v (List.replicate n v) = n := by
  induction n with
  | zero => rfl
  | succ n ih => rw [List.replicate_succ]; simp only [eqn, if_true, ih]

/-- At least two symbols of the small code are used. -/
theorem two_syms {l : List Int} (hl : ∀ x ∈ l, 0 ≤ x ∧ x ≤ 15) (hn : 258 ≤ l.length) (h256 : l.getD 256 0 ≠ 0) : ∃ r ∈ rns l, ∃ q ∈ rns l, r.1 ≠ q.1 := by
  refine Classical.byContradiction fun hno => ?_
  have same : ∀ r ∈ rns l, ∀ q ∈ rns l, r.1 = q.1 := fun r hr q hq => Classical.byContradiction fun hne => hno ⟨r, hr, q, hq, hne⟩
  obtain ⟨c, hc, c1, c2, _⟩ := run1_cnt (l := l) (k := 0) (by omega)
  have e0 : rns l = run1 l 0 :: rnK l c := by
    rw [← rnK_zero, rnK_step (by omega) hc, Nat.zero_add]
  have m0 : run1 l 0 ∈ rns l := by rw [e0]; exact List.mem_cons_self
  obtain ⟨x1, x2⟩ := xp_rns hl
  have ok := rns_ok hl _ m0
  by_cases hs : 16 ≤ (run1 l 0).1
  · have hz : ∀ r ∈ rns l, ∀ b, mnt r.1 b = 0 := fun r hr b => by
      have := same r hr _ m0
      have h16 : (run1 l 0).1 ≠ 16 := fun q => by have := (run1_ok (l := l) (k := 0) (by omega) hl).2 q; omega
      unfold mnt
      rw [if_neg (by omega), if_neg (by omega)]
    obtain ⟨n, e⟩ := lays_const (rns l) [] hz
    rw [x2, List.nil_append] at e
    apply h256
    rw [e, List.getD_eq_getElem?_getD, List.getElem?_replicate]
    split <;> rfl
  · have hz : ∀ r ∈ rns l, ∀ b, mnt r.1 b = (run1 l 0).1 := fun r hr b => by
      have := same r hr _ m0
      unfold mnt
      rw [if_pos (by omega)]
      exact this
    obtain ⟨n, e⟩ := lays_const (rns l) [] hz
    rw [x2, List.nil_append] at e
    obtain ⟨v, hv⟩ : ∃ v, v = (run1 l 0).1 := ⟨_, rfl⟩
    rw [← hv] at e hz hs
    have hn' : n = l.length := by rw [e]; simp
    have v0 : v ≠ 0 := fun q => by
      apply h256
      rw [e, q, List.getD_eq_getElem?_getD, List.getElem?_replicate]
      split <;> rfl
    have g0 : l.getD 0 0 = v := by rw [e, List.getD_eq_getElem?_getD, List.getElem?_replicate, if_pos (by omega)]; rfl
    have g1 : l.getD 1 0 = v := by rw [e, List.getD_eq_getElem?_getD, List.getElem?_replicate, if_pos (by omega)]; rfl
    have r0 : run1 l 0 = (v, 1) := by
      unfold run1
      rw [g0, if_neg (fun q => v0 q.1), if_neg (fun q => v0 q.1), if_neg (fun q => by omega)]
    have c1' : c = 1 := by rw [r0] at hc; simp only at hc; omega
    have hd : eqn v (l.drop 1) = l.length - 1 := by rw [← hn', e, List.drop_replicate, eqn_rep]
    have r1 : (run1 l 1).1 = 16 := by
      unfold run1
      rw [g1, if_neg (fun q => v0 q.1), if_neg (fun q => v0 q.1), if_pos ⟨v0, by omega, g0, by rw [hd]; omega⟩]
    obtain ⟨c', hc', _⟩ := run1_cnt (l := l) (k := 1) (by omega)
    have m1 : run1 l 1 ∈ rns l := by
      rw [e0, c1', rnK_step (by omega) hc']
      exact List.mem_cons_of_mem _ List.mem_cons_self
    have := same _ m1 _ m0
    rw [r1, r0] at this
    simp only at this
    omega

theorem used_of {R : List Rn} {s : Nat} (hs : s < 19) (h : ∃ r ∈ R, r.1 = (s : Int)) : s ∈ us6 (usg R) := by
  obtain ⟨r, hr, e⟩ := h
  refine mem_us.2 ⟨by rw [usg_len]; exact hs, ?_⟩
  rw [usg_at R hs]
  have : 0 < (R.map (·.1)).count (s : Int) := List.count_pos_iff.2 (List.mem_map.2 ⟨r, hr, e⟩)
  omega

theorem two_used {l : List Int} (hl : ∀ x ∈ l, 0 ≤ x ∧ x ≤ 15) (hn : 258 ≤ l.length) (h256 : l.getD 256 0 ≠ 0) : 2 ≤ (us6 (usg (rns l))).length := by
  obtain ⟨r, hr, q, hq, hne⟩ := two_syms hl hn h256
  obtain ⟨s, c, e1, hs, _⟩ := okr_parts (rns_ok hl r hr)
  obtain ⟨t, c', e2, ht, _⟩ := okr_parts (rns_ok hl q hq)
  have m1 : s ∈ us6 (usg (rns l)) := used_of hs ⟨r, hr, by rw [e1]⟩
  have m2 : t ∈ us6 (usg (rns l)) := used_of ht ⟨q, hq, by rw [e2]⟩
  have hst : s ≠ t := fun z => hne (by rw [e1, e2, z])
  match h : us6 (usg (rns l)), m1, m2 with
  | [], m1, _ => cases m1
  | [x], m1, m2 =>
    rw [List.mem_singleton] at m1 m2
    exact absurd (m1.trans m2.symm) hst
  | x :: y :: z, _, _ => simp

/-- The small code is complete. -/
theorem small_full {l : List Int} (hl : ∀ x ∈ l, 0 ≤ x ∧ x ≤ 15) (hn : 258 ≤ l.length) (hm : l.length ≤ 316) (h256 : l.getD 256 0 ≠ 0) : usum (lmt (usg (rns l)) 7) = 32768 ∧ ∀ r ∈ rns l, (lmt (usg (rns l)) 7).getD r.1.toNat 0 ≠ 0 := by
  have hR : (rns l).length ≤ 1048576 := by have := rns_len l; omega
  have g := gd_lmt (usg_sound hR) (L := 7) (by omega) (usg_us (rns l))
  obtain ⟨t1, t2⟩ := lmt7 hR
  have h1 := g.all (two_used hl hn h256)
  refine ⟨?_, fun r hr => ?_⟩
  · have e1 : kr (nn (lmt (usg (rns l)) 7)) (us6 (usg (rns l))) = 2 ^ 45 * ((us6 (usg (rns l))).map fun s => wt ((lmt (usg (rns l)) 7).getD s 0)).sum := by
      unfold kr
      have : ∀ L : List Nat, (∀ s ∈ L, 1 ≤ (lmt (usg (rns l)) 7).getD s 0 ∧ (lmt (usg (rns l)) 7).getD s 0 ≤ 7) → (L.map fun s => 2 ^ (60 - nn (lmt (usg (rns l)) 7) s)).sum = 2 ^ 45 * (L.map fun s => wt ((lmt (usg (rns l)) 7).getD s 0)).sum := by
        intro L hL
        induction L with
        | nil => rfl
        | cons a L ih =>
          have h := hL a List.mem_cons_self
          rw [List.map_cons, List.map_cons, List.sum_cons, List.sum_cons, ih (fun s hs => hL s (List.mem_cons_of_mem _ hs)), Nat.mul_add]
          congr 1
          unfold nn wt
          rw [if_pos (by omega), ← Nat.pow_add]
          congr 1
          omega
      exact this _ (fun s hs => by have := g.ok s hs; omega)
    have e2 : ((us6 (usg (rns l))).map fun s => wt ((lmt (usg (rns l)) 7).getD s 0)).sum = usum (lmt (usg (rns l)) 7) := by
      rw [usum_range, t1]
      unfold us6 usk
      rw [usg_len]
      refine sum_filter _ (fun s => wt ((lmt (usg (rns l)) 7).getD s 0)) _ (fun s hs q => ?_)
      simp only [decide_eq_false_iff_not] at q
      have hs' := List.mem_range.1 hs
      have := usg_le (rns l) s hs'
      rw [g.zero s (by rw [usg_len]; exact hs') (by omega)]
      rfl
    rw [e1, e2] at h1
    have : (2 : Nat) ^ 60 = 2 ^ 45 * 32768 := by decide
    rw [this] at h1
    exact Nat.eq_of_mul_eq_mul_left (by decide) h1
  · obtain ⟨s, c, e1, hs, _⟩ := okr_parts (rns_ok hl r hr)
    have := g.ok s (used_of hs ⟨r, hr, by rw [e1]⟩)
    rw [e1]
    simp only [Int.toNat_natCast]
    omega

/-- How many are written, from the front. -/
def wfw (C : List Int) : Nat → Nat
  | 0 => 4
  | n + 1 => if 0 < C.getD (zor.getD n 0).toNat 0 ∧ wfw C n < n + 1 then n + 1 else wfw C n
theorem wfw_low (C : List Int) : ∀ n, n ≤ 4 → wfw C n = 4
  | 0, _ => rfl
  | n + 1, h => by simp only [wfw]; rw [wfw_low C n (by omega), if_neg (by omega)]
theorem wfw_wrn {C : List Int} (hC : ∀ s, 0 ≤ C.getD s 0) : ∀ n, 4 ≤ n → wfw C n = wrn C n ∧ wfw C n ≤ n
  | 0, h => by omega
  | n + 1, h => by
    by_cases q : n + 1 = 4
    · have : n = 3 := by omega
      subst this
      rw [wfw_low C 4 (by omega)]
      simp only [wrn]
      rw [if_neg (by omega)]
      exact ⟨rfl, Nat.le_refl _⟩
    · obtain ⟨i1, i2⟩ := wfw_wrn hC n (by omega)
      have := hC (zor.getD n 0).toNat
      simp only [wfw, wrn]
      by_cases z : C.getD (zor.getD n 0).toNat 0 = 0
      · rw [if_neg (by omega), if_pos ⟨by omega, z⟩]
        exact ⟨i1, by omega⟩
      · rw [if_pos ⟨by omega, by omega⟩, if_neg (fun t => z t.2)]
        exact ⟨rfl, Nat.le_refl _⟩
theorem wfw_wrt {C : List Int} (hC : ∀ s, 0 ≤ C.getD s 0) : wfw C 19 = wrt C := (wfw_wrn hC 19 (by omega)).1
end Go.Proofs.YtpmgnpfpnkmmbaaGreatDoor

namespace Go.Proofs.YtpmgnpfpnkmmbaaGreatDoor
open Go.RowKit Go.Maps
set_option maxRecDepth 20000
set_option linter.unusedVariables false

set_option maxHeartbeats 1000000 in
theorem zcodes_any (v1 v2 : Value) (l1 l2 : List Int) (w : World) (s1 : SI w v1 l1) (s2 : SI w v2 l2) (hl : 257 ≤ l1.length) :
    Calls Tryz.prog 102 #[v1, v2] w fun e w' => e = .returned (.int .i64 (hck l1 l2)) ∧ w' = w := by
  have H1 := hide s1
  have H2 := hide s2
  obtain ⟨a1, c1, rfl, hc1, hd1⟩ := s1.open
  obtain ⟨a2, c2, rfl, hc2, hd2⟩ := s2.open
  clear s1 s2
  have hl' : (256 : Int) < (l1.length : Int) := by omega
  have hl2 : ¬ (l1.length : Int) < 257 := by omega
  have hl3 : decide ((l1.length : Int) < 257) = false := decide_eq_false hl2
  obtain ⟨b, o, rfl, hc⟩ := H1.out.get (Below.refl _ _) (k := 256) (by omega)
  have HC1 := hide (xcheck_any _ l1 w H1.out)
  have HC2 := hide (xcheck_any _ l2 w H2.out)
  have HK : Hid (hck l1 l2 = if l1.getD 256 0 = 0 ∨ (chkS l1 ≠ 4 ∧ chkS l1 ≠ 1) then 75 else if chkS l2 ≠ 4 ∧ chkS l2 ≠ 1 ∧ chkS l2 ≠ 0 then 76 else 0) := rfl
  obtain ⟨y, HY⟩ : ∃ y, Hid (y = l1.getD 256 0) := ⟨_, rfl⟩
  obtain ⟨S, HSS⟩ : ∃ S, Hid (S = chkS l1) := ⟨_, rfl⟩
  obtain ⟨U, HU⟩ : ∃ U, Hid (U = chkS l2) := ⟨_, rfl⟩
  rw [← HY.out] at hc HK
  rw [← HSS.out] at HK HC1
  rw [← HU.out] at HK HC2
  go_enter Tryz.func102, Tryz.ntmps102
  go_wp2_with fail
  refine HC1.out.mono ?_
  rintro e w1 ⟨rfl, hw1⟩
  rw [hw1]
  clear hw1
  by_cases y0 : y = 0
  · have HR : Hid (hck l1 l2 = 75) := by show _ = _; rw [HK.out, if_pos (.inl y0)]
    subst y0
    go_wp2
    go_ret
    rw [HR.out]
    exact ⟨rfl, rfl⟩
  · have y0' : (y == 0) = false := by simpa using y0
    by_cases sok : S = 4 ∨ S = 1
    · have HK2 : Hid (hck l1 l2 = if U ≠ 4 ∧ U ≠ 1 ∧ U ≠ 0 then 76 else 0) := by show _ = _; rw [HK.out, if_neg (by omega)]
      rcases sok with rfl | rfl
      all_goals
        go_wp2_with fail
        refine HC2.out.mono ?_
        rintro e w2 ⟨rfl, hw2⟩
        rw [hw2]
        clear hw2
        by_cases u4 : U = 4
        · have HR : Hid (hck l1 l2 = 0) := by show _ = _; rw [HK2.out, if_neg (by omega)]
          subst u4
          go_wp2
          go_ret
          rw [HR.out]
          exact ⟨rfl, rfl⟩
        · have u4' : (U != 4) = true := by simpa using u4
          by_cases u1 : U = 1
          · have HR : Hid (hck l1 l2 = 0) := by show _ = _; rw [HK2.out, if_neg (by omega)]
            subst u1
            go_wp2
            go_ret
            rw [HR.out]
            exact ⟨rfl, rfl⟩
          · have u1' : (U != 1) = true := by simpa using u1
            by_cases u0 : U = 0
            · have HR : Hid (hck l1 l2 = 0) := by show _ = _; rw [HK2.out, if_neg (by omega)]
              subst u0
              go_wp2
              go_ret
              rw [HR.out]
              exact ⟨rfl, rfl⟩
            · have u0' : (U != 0) = true := by simpa using u0
              have HR : Hid (hck l1 l2 = 76) := by show _ = _; rw [HK2.out, if_pos ⟨u4, u1, u0⟩]
              go_wp2
              go_ret
              rw [HR.out]
              exact ⟨rfl, rfl⟩
    · have s4 : (S != 4) = true := by simp; omega
      have s1 : (S != 1) = true := by simp; omega
      have HR : Hid (hck l1 l2 = 75) := by show _ = _; rw [HK.out, if_pos (.inr (by omega))]
      go_wp2
      go_ret
      rw [HR.out]
      exact ⟨rfl, rfl⟩

structure Xodr (w : World) : Prop where
  get : ∀ i : Nat, i < 19 → w.cell? ⟨3, i, none⟩ = some (.int .i64 (zor.getD i 0))

theorem Xodr.mono {w w' : World} (h : Xodr w) (hb : Below w.heap.size w w') : Xodr w' := ⟨fun i hi => (hb.cell (World.block_lt_of_cell? w _ (h.get i hi))).trans (h.get i hi)⟩

end Go.Proofs.YtpmgnpfpnkmmbaaGreatDoor

namespace Go.Proofs.YtpmgnpfpnkmmbaaGreatDoor
open Go.RowKit Go.Maps
set_option maxRecDepth 20000
set_option linter.unusedVariables false

/-- A box of two beside a row of ints stays where the row grows. -/
theorem box_keep {wr w3 : World} {B g : Nat} {u v3 : Value} {D : List Int} {o : Obj} {cs : Array Value} {fr : Nat × Nat} (hO : OI wr B u D) (hg : wr.heap[g]? = some (.cells cs 139 fr)) (hgr : Grew (wr.alloc o) w3 u v3) : w3.heap[g]? = some (.cells cs 139 fr) := by
  have hlt : g < wr.heap.size := by
    rcases Nat.lt_or_ge g wr.heap.size with h | h
    · exact h
    · rw [Array.getElem?_eq_none h] at hg; cases hg
  have hne : u.ownBlock ≠ some g := by
    intro he
    rcases hO.2 with ⟨rfl, _⟩ | ⟨g', cap, cur, rfl, _, hg', _⟩
    · simp [Value.ownBlock] at he
    · simp only [Value.ownBlock, Option.some.injEq] at he
      subst he
      rw [hg'] at hg
      simp at hg
  rw [hgr.by.block g (by simp; omega) (fun e => hne e.symm), Below.heap_alloc wr o g hlt]
  exact hg

set_option maxHeartbeats 4000000 in
theorem xexpand_any (v : Value) (R : List Rn) (w : World) (h : SR w v R) (hn : R.length ≤ 1048576) :
    Calls Tryz.prog 113 #[v] w fun e w' => ∃ u, e = .returned (.tuple #[u, .int .i64 (xpE [] R)]) ∧ OI w' w.heap.size u (xpL R) ∧ Below w.heap.size w w' := by
  have HS := hide h
  obtain ⟨ao, cap, rfl, hlc, hcm⟩ := h.open
  clear h
  go_enter Tryz.func113, Tryz.ntmps113
  go_wp2
  go_loopw [4, 5] (fun u i wr => ∃ k : Nat, k ≤ R.length ∧ i = .int .i64 k ∧ (lays [] (R.take k)).length ≤ 138 * k ∧ Hid (xpE [] (R.take k) = 0) ∧ Hid (OI wr w.heap.size u (lays [] (R.take k))) ∧ Hid (Below w.heap.size w wr)) (fun _ i _ => R.length - (intOf i).toNat)
  case atStart => exact ⟨0, Nat.zero_le _, rfl, by simp [lays], rfl, World.ownsRow_nil _ _ _ _, Below.refl _ _⟩
  case round =>
    obtain ⟨k, hk, rfl, ht, HX, HO, HB⟩ := hrel
    by_cases hlt : k < R.length
    · have hlt' : (k : Int) < (R.length : Int) := by omega
      obtain ⟨b, o, rfl, c1, c2⟩ := HS.out.get HB.out hlt
      obtain ⟨x1, x2, x3⟩ := xpE_at hlt HX.out
      have HSN : Hid (lays [] (R.take (k + 1)) = lay (lays [] (R.take k)) (R.getD k rn0)) := by show _ = _; rw [rn_snoc hlt, lays_snoc]
      have hto : tot (R.take k) = (lays [] (R.take k)).length := rfl
      obtain ⟨r, hr⟩ : ∃ r, r = R.getD k rn0 := ⟨_, rfl⟩
      rw [← hr] at c1 c2 x1 x2 x3 HSN
      obtain ⟨s, c⟩ := r
      clear hr
      simp only at c1 c2 x2 x3
      obtain ⟨D, HD⟩ : ∃ D, Hid (D = lays [] (R.take k)) := ⟨_, rfl⟩
      rw [hto] at x2 x3
      rw [← HD.out] at HSN HO ht x2 x3
      obtain ⟨a1, p1, hu⟩ := HO.out.shape
      subst hu
      obtain ⟨wx, hwx⟩ : ∃ wx, wr.alloc (.cells #[.int .i64 s, .int .i64 c] 139) = wx := ⟨_, rfl⟩
      have HBX : Hid (Below w.heap.size w wx) := by rw [← hwx]; exact hide (HB.out.alloc HB.out.size _)
      have HOX : Hid (OI wx w.heap.size (.slice a1 D.length p1) D) := by rw [← hwx]; exact hide (HO.out.alloc _)
      have hgx : wx.heap[wr.heap.size]? = some (.cells #[.int .i64 s, .int .i64 c] 139 (0, 0)) := by rw [← hwx]; exact heap_alloc_new wr _
      obtain ⟨z0, z1⟩ := boxOf hgx
      have HGX := hide hgx
      have hDs := HD.out
      clear hgx hto hDs
      by_cases ok : Okr (s, c)
      · obtain ⟨s, c, e, hs, hc1, hc2, hc3, hc4⟩ := okr_parts ok
        simp only [Prod.mk.injEq] at e
        obtain ⟨rfl, rfl⟩ := e
        have HFU := hide (fun W => xfurther_any s W hs)
        have HX2 := hide (x2 ok)
        have HX3 := hide (x3 ok)
        have HLAY : Hid (lay D ((s : Int), (c : Int)) = D ++ List.replicate c (mnt s D)) := rfl
        have HDL := hide ht
        clear x1 x2 x3 ok
        have g1 : ¬ (s : Int) < 0 := by omega
        have g2 : ¬ (18 : Int) < (s : Int) := by omega
        go_wp2_with fail
        refine (HFU.out _).mono ?_
        rintro e w2 ⟨rfl, hw2⟩
        subst hw2
        have HCall : Hid (∀ n, Calls Tryz.prog 115 #[.int .i64 s] (w2.drewN n) fun e w'' => e = .returned (.int .i64 (mst s)) ∧ ∃ m, w'' = w2.drewN m) := fun n => (xmost_any s (w2.drewN n) hs).mono fun e w' ⟨he, q, hw⟩ => ⟨he, n + q, by rw [hw, World.drewN_drewN]⟩
        have g3 : decide ((c : Int) < lst s) = false := decide_eq_false (by omega)
        have g4 : decide (mst s < (c : Int)) = false := decide_eq_false (by omega)
        obtain ⟨L, hL⟩ : ∃ L, L = lst s := ⟨_, rfl⟩
        obtain ⟨M, hM⟩ : ∃ M, M = mst s := ⟨_, rfl⟩
        rw [← hL] at g3 hc1 ⊢
        rw [← hM] at HCall g4 hc2
        clear hL hM
        have HBD : Hid (∀ q, Below w.heap.size w (w2.drewN q)) := fun q => below_drewN HBX.out q
        have HOD : Hid (∀ q, OI (w2.drewN q) w.heap.size (.slice a1 D.length p1) D) := fun q => HOX.out.move fun _ _ => rfl
        have HGD : Hid (∀ q, (w2.drewN q).heap[wr.heap.size]? = some (.cells #[.int .i64 s, .int .i64 c] 139 (0, 0))) := fun q => HGX.out
        clear hwx
        by_cases e16 : s = 16
        · have g5 : ((s : Int) == 16) = true := by simp; omega
          have g6 : ¬ (16 : Int) < (s : Int) := by omega
          by_cases dz : D.length = 0
          · have g7 : ((D.length : Int) == 0) = true := by simp; exact List.length_eq_zero_iff.1 dz
            have HE := hide (HX2.out (by omega) dz)
            have HLL : Hid (xpL R = []) := by show _ = _; unfold xpL; rw [HE.out]; rfl
            clear e16 dz
            go_wp2
            go_quiet (first | (go_at_call 115; exact HCall.out _))
            obtain ⟨wq, hwq⟩ : ∃ wq, w2.drewN nq = wq := ⟨_, rfl⟩
            have HOQ := hide (HOD.out nq)
            have hgq := HGD.out nq
            have HBQ := hide (HBD.out nq)
            rw [hwq] at HOQ hgq HBQ ⊢
            obtain ⟨bx, hbx⟩ : ∃ bx, wr.heap.size = bx := ⟨_, rfl⟩
            rw [hbx] at hgq ⊢
            obtain ⟨y0, y1⟩ := boxOf hgq
            have HGQ := hide hgq
            clear hgq hwq hbx HGX HGD z0 z1
            go_wp2
            go_ret2
            rw [HE.out, HLL.out]
            exact ⟨_, rfl, World.ownsRow_nil _ _ _ _, HBQ.out⟩
          · have HXN := hide (HX3.out (fun _ => dz))
            obtain ⟨g, cc, hv, _, _, _, _⟩ := HO.out.form (by omega)
            simp only [Value.slice.injEq, true_and] at hv
            obtain ⟨rfl, rfl⟩ := hv
            have HVM : Hid (mnt s D = D.getD (D.length - 1) 0) := by show _ = _; rw [e16]; rfl
            obtain ⟨V, HV⟩ : ∃ V, Hid (V = mnt s D) := ⟨_, rfl⟩
            have HCD : Hid (∀ q, (w2.drewN q).cell? ⟨g, D.length - 1, none⟩ = some (.int .i64 V)) := fun q => by
              rw [HV.out, HVM.out]
              exact (HOD.out q).get rfl (by omega)
            obtain ⟨dl, hdl⟩ : ∃ dl, D.length = dl + 1 := ⟨D.length - 1, by omega⟩
            have g7 : ((dl : Int) + 1 == 0) = false := by simp; omega
            have hdb : dl ≤ 1000000000 := by have := HDL.out; omega
            rw [hdl, Nat.add_sub_cancel] at HCD
            rw [hdl] at HOD HOX ⊢
            clear e16 dz HO ht hdl HVM
            go_wp2
            go_quiet (first | (go_at_call 115; exact HCall.out _))
            obtain ⟨wq, hwq⟩ : ∃ wq, w2.drewN nq = wq := ⟨_, rfl⟩
            have HOQ := hide (HOD.out nq)
            have hgq := HGD.out nq
            have HBQ := hide (HBD.out nq)
            have cq := HCD.out nq
            rw [hwq] at HOQ hgq HBQ cq ⊢
            obtain ⟨bx, hbx⟩ : ∃ bx, wr.heap.size = bx := ⟨_, rfl⟩
            rw [hbx] at hgq ⊢
            obtain ⟨y0, y1⟩ := boxOf hgq
            have HGQ := hide hgq
            clear hgq hwq hbx HGX HGD z0 z1
            go_wp2
            go_loopw [4, 10] (fun u i wr2 => ∃ j : Nat, j ≤ c ∧ i = .int .i64 j ∧ Hid (OI wr2 w.heap.size u (D ++ List.replicate j V)) ∧ Hid (wr2.heap[bx]? = some (.cells #[.int .i64 s, .int .i64 c] 139 (0, 0))) ∧ Hid (Below w.heap.size w wr2)) (fun _ i _ => c - (intOf i).toNat)
            case atStart => exact ⟨0, Nat.zero_le _, rfl, by show OI _ _ _ _; simp only [List.replicate_zero, List.append_nil]; exact HOQ.out, HGQ.out, HBQ.out⟩
            case round =>
              obtain ⟨j, hj, rfl, HO3, HG3, HB3⟩ := hrel
              obtain ⟨y3, y4⟩ := boxOf HG3.out
              by_cases hjc : j < c
              · have hjc' : (j : Int) < (c : Int) := by omega
                have HLM := hide (lay_more D j V)
                obtain ⟨E, HE3⟩ : ∃ E : List Int, Hid (E = D ++ List.replicate j V) := ⟨_, hide rfl⟩
                have hEl : E.length ≤ 2000000000 := by rw [HE3.out, List.length_append, List.length_replicate]; have := HDL.out; omega
                rw [← HE3.out] at HO3 HLM
                have hBw := HB3.out.size
                obtain ⟨a5, p5, hu5⟩ := HO3.out.shape
                subst hu5
                have HALC := hide (HO3.out.alloc (.cells #[.int .i64 V] 3))
                have HSR := hide (built_srcI wr [V])
                go_wp2_with (at_builtin; refine wpList_appI rfl _ _ 81 rfl w.heap.size _ _ E [V] rfl HALC.out rfl HSR.out (by simp; omega) (by simp; omega) ?_)
                intro v6 w6 ho6 hgr6
                have HN : Hid (OI w6 w.heap.size v6 (D ++ List.replicate (j + 1) V) ∧ Below w.heap.size w w6) := ⟨by rw [HLM.out]; exact ho6, grow_one7 HB3.out (Nat.le_refl _) HO3.out hgr6⟩
                have HG6 := hide (box_keep HO3.out HG3.out hgr6)
                clear ho6 hgr6
                go_wp2
                go_roundw
                case rel => exact ⟨j + 1, by omega, by go_num, HN.out.1, HG6, HN.out.2⟩
                case measure => simp [intOf]; omega
              · obtain rfl : j = c := by omega
                have hjc' : ¬ (j : Int) < (j : Int) := by omega
                have HF : Hid (OI wr w.heap.size u4 (lays [] (R.take (k + 1)))) := by show OI _ _ _ _; rw [HSN.out, HLAY.out, ← HV.out]; exact HO3.out
                have hln : (lays [] (R.take (k + 1))).length ≤ 138 * (k + 1) := by rw [HSN.out, lay_len]; have := HDL.out; simp only [Int.toNat_natCast]; omega
                go_wp2
                go_roundw
                case rel => exact ⟨k + 1, by omega, by go_num, hln, HXN, HF, HB3⟩
                case measure => simp [intOf]; omega
        · have HXN := hide (HX3.out (fun q => absurd (by omega) e16))
          have g5 : ((s : Int) == 16) = false := by simp; omega
          by_cases l16 : s < 16
          · have g6 : ¬ (16 : Int) < (s : Int) := by omega
            obtain ⟨V, hV⟩ : ∃ V : Int, V = s := ⟨_, rfl⟩
            have HV : Hid (V = mnt s D) := by show _ = _; unfold mnt; rw [if_pos (by omega)]; exact hV
            clear e16 HO ht
            go_wp2
            go_quiet (first | (go_at_call 115; exact HCall.out _))
            obtain ⟨wq, hwq⟩ : ∃ wq, w2.drewN nq = wq := ⟨_, rfl⟩
            have HOQ := hide (HOD.out nq)
            have hgq := HGD.out nq
            have HBQ := hide (HBD.out nq)
            rw [hwq] at HOQ hgq HBQ ⊢
            obtain ⟨bx, hbx⟩ : ∃ bx, wr.heap.size = bx := ⟨_, rfl⟩
            rw [hbx] at hgq ⊢
            obtain ⟨y0, y1⟩ := boxOf hgq
            have HGQ := hide hgq
            clear hgq hwq hbx HGX HGD z0 z1
            go_wp2
            rw [← hV]
            clear hV
            go_loopw [4, 10] (fun u i wr2 => ∃ j : Nat, j ≤ c ∧ i = .int .i64 j ∧ Hid (OI wr2 w.heap.size u (D ++ List.replicate j V)) ∧ Hid (wr2.heap[bx]? = some (.cells #[.int .i64 s, .int .i64 c] 139 (0, 0))) ∧ Hid (Below w.heap.size w wr2)) (fun _ i _ => c - (intOf i).toNat)
            case atStart => exact ⟨0, Nat.zero_le _, rfl, by show OI _ _ _ _; simp only [List.replicate_zero, List.append_nil]; exact HOQ.out, HGQ.out, HBQ.out⟩
            case round =>
              obtain ⟨j, hj, rfl, HO3, HG3, HB3⟩ := hrel
              obtain ⟨y3, y4⟩ := boxOf HG3.out
              by_cases hjc : j < c
              · have hjc' : (j : Int) < (c : Int) := by omega
                have HLM := hide (lay_more D j V)
                obtain ⟨E, HE3⟩ : ∃ E : List Int, Hid (E = D ++ List.replicate j V) := ⟨_, hide rfl⟩
                have hEl : E.length ≤ 2000000000 := by rw [HE3.out, List.length_append, List.length_replicate]; have := HDL.out; omega
                rw [← HE3.out] at HO3 HLM
                have hBw := HB3.out.size
                obtain ⟨a5, p5, hu5⟩ := HO3.out.shape
                subst hu5
                have HALC := hide (HO3.out.alloc (.cells #[.int .i64 V] 3))
                have HSR := hide (built_srcI wr [V])
                go_wp2_with (at_builtin; refine wpList_appI rfl _ _ 81 rfl w.heap.size _ _ E [V] rfl HALC.out rfl HSR.out (by simp; omega) (by simp; omega) ?_)
                intro v6 w6 ho6 hgr6
                have HN : Hid (OI w6 w.heap.size v6 (D ++ List.replicate (j + 1) V) ∧ Below w.heap.size w w6) := ⟨by rw [HLM.out]; exact ho6, grow_one7 HB3.out (Nat.le_refl _) HO3.out hgr6⟩
                have HG6 := hide (box_keep HO3.out HG3.out hgr6)
                clear ho6 hgr6
                go_wp2
                go_roundw
                case rel => exact ⟨j + 1, by omega, by go_num, HN.out.1, HG6, HN.out.2⟩
                case measure => simp [intOf]; omega
              · obtain rfl : j = c := by omega
                have hjc' : ¬ (j : Int) < (j : Int) := by omega
                have HF : Hid (OI wr w.heap.size u4 (lays [] (R.take (k + 1)))) := by show OI _ _ _ _; rw [HSN.out, HLAY.out, ← HV.out]; exact HO3.out
                have hln : (lays [] (R.take (k + 1))).length ≤ 138 * (k + 1) := by rw [HSN.out, lay_len]; have := HDL.out; simp only [Int.toNat_natCast]; omega
                go_wp2
                go_roundw
                case rel => exact ⟨k + 1, by omega, by go_num, hln, HXN, HF, HB3⟩
                case measure => simp [intOf]; omega
          · have g6 : (16 : Int) < (s : Int) := by omega
            obtain ⟨V, hV⟩ : ∃ V : Int, V = 0 := ⟨_, rfl⟩
            have HV : Hid (V = mnt s D) := by show _ = _; unfold mnt; rw [if_neg (by omega), if_neg (by omega)]; exact hV
            have HVZ := hide hV
            clear e16 hV HO ht
            go_wp2
            go_quiet (first | (go_at_call 115; exact HCall.out _))
            obtain ⟨wq, hwq⟩ : ∃ wq, w2.drewN nq = wq := ⟨_, rfl⟩
            have HOQ := hide (HOD.out nq)
            have hgq := HGD.out nq
            have HBQ := hide (HBD.out nq)
            rw [hwq] at HOQ hgq HBQ ⊢
            obtain ⟨bx, hbx⟩ : ∃ bx, wr.heap.size = bx := ⟨_, rfl⟩
            rw [hbx] at hgq ⊢
            obtain ⟨y0, y1⟩ := boxOf hgq
            have HGQ := hide hgq
            clear hgq hwq hbx HGX HGD z0 z1
            go_wp2
            obtain rfl : V = 0 := HVZ.out
            go_loopw [4, 10] (fun u i wr2 => ∃ j : Nat, j ≤ c ∧ i = .int .i64 j ∧ Hid (OI wr2 w.heap.size u (D ++ List.replicate j (0 : Int))) ∧ Hid (wr2.heap[bx]? = some (.cells #[.int .i64 s, .int .i64 c] 139 (0, 0))) ∧ Hid (Below w.heap.size w wr2)) (fun _ i _ => c - (intOf i).toNat)
            case atStart => exact ⟨0, Nat.zero_le _, rfl, by show OI _ _ _ _; simp only [List.replicate_zero, List.append_nil]; exact HOQ.out, HGQ.out, HBQ.out⟩
            case round =>
              obtain ⟨j, hj, rfl, HO3, HG3, HB3⟩ := hrel
              obtain ⟨y3, y4⟩ := boxOf HG3.out
              by_cases hjc : j < c
              · have hjc' : (j : Int) < (c : Int) := by omega
                have HLM := hide (lay_more D j (0 : Int))
                obtain ⟨E, HE3⟩ : ∃ E : List Int, Hid (E = D ++ List.replicate j (0 : Int)) := ⟨_, hide rfl⟩
                have hEl : E.length ≤ 2000000000 := by rw [HE3.out, List.length_append, List.length_replicate]; have := HDL.out; omega
                rw [← HE3.out] at HO3 HLM
                have hBw := HB3.out.size
                obtain ⟨a5, p5, hu5⟩ := HO3.out.shape
                subst hu5
                have HALC := hide (HO3.out.alloc (.cells #[.int .i64 (0 : Int)] 3))
                have HSR := hide (built_srcI wr [(0 : Int)])
                go_wp2_with (at_builtin; refine wpList_appI rfl _ _ 81 rfl w.heap.size _ _ E [(0 : Int)] rfl HALC.out rfl HSR.out (by simp; omega) (by simp; omega) ?_)
                intro v6 w6 ho6 hgr6
                have HN : Hid (OI w6 w.heap.size v6 (D ++ List.replicate (j + 1) (0 : Int)) ∧ Below w.heap.size w w6) := ⟨by rw [HLM.out]; exact ho6, grow_one7 HB3.out (Nat.le_refl _) HO3.out hgr6⟩
                have HG6 := hide (box_keep HO3.out HG3.out hgr6)
                clear ho6 hgr6
                go_wp2
                go_roundw
                case rel => exact ⟨j + 1, by omega, by go_num, HN.out.1, HG6, HN.out.2⟩
                case measure => simp [intOf]; omega
              · obtain rfl : j = c := by omega
                have hjc' : ¬ (j : Int) < (j : Int) := by omega
                have HF : Hid (OI wr w.heap.size u4 (lays [] (R.take (k + 1)))) := by show OI _ _ _ _; rw [HSN.out, HLAY.out, ← HV.out]; exact HO3.out
                have hln : (lays [] (R.take (k + 1))).length ≤ 138 * (k + 1) := by rw [HSN.out, lay_len]; have := HDL.out; simp only [Int.toNat_natCast]; omega
                go_wp2
                go_roundw
                case rel => exact ⟨k + 1, by omega, by go_num, hln, HXN, HF, HB3⟩
                case measure => simp [intOf]; omega
      · have HE := hide (x1 ok)
        have HLL : Hid (xpL R = []) := by show _ = _; unfold xpL; rw [HE.out]; rfl
        clear x1 x2 x3 HO ht
        by_cases n1 : s < 0
        · go_wp2
          go_ret2
          rw [HE.out, HLL.out]
          exact ⟨_, rfl, World.ownsRow_nil _ _ _ _, HBX.out⟩
        · by_cases n2 : 18 < s
          · go_wp2
            go_ret2
            rw [HE.out, HLL.out]
            exact ⟨_, rfl, World.ownsRow_nil _ _ _ _, HBX.out⟩
          · obtain ⟨s, rfl⟩ := Int.eq_ofNat_of_zero_le (show 0 ≤ s by omega)
            have hs : s < 19 := by omega
            have HFU := hide (fun W => xfurther_any s W hs)
            have hbad : c < lst s ∨ mst s < c := by
              by_cases q1 : c < lst s
              · exact .inl q1
              · by_cases q2 : mst s < c
                · exact .inr q2
                · exact absurd ⟨by simp only; omega, by simp only; omega, by simp only; omega, by simp only; omega⟩ ok
            clear ok
            go_wp2_with fail
            refine (HFU.out _).mono ?_
            rintro e w2 ⟨rfl, hw2⟩
            subst hw2
            have HCall : Hid (∀ n, Calls Tryz.prog 115 #[.int .i64 s] (w2.drewN n) fun e w'' => e = .returned (.int .i64 (mst s)) ∧ ∃ m, w'' = w2.drewN m) := fun n => (xmost_any s (w2.drewN n) hs).mono fun e w' ⟨he, q, hw⟩ => ⟨he, n + q, by rw [hw, World.drewN_drewN]⟩
            have HBD : Hid (∀ q, Below w.heap.size w (w2.drewN q)) := fun q => below_drewN HBX.out q
            obtain ⟨L, hL⟩ : ∃ L, L = lst s := ⟨_, rfl⟩
            obtain ⟨M, hM⟩ : ∃ M, M = mst s := ⟨_, rfl⟩
            rw [← hL] at hbad ⊢
            rw [← hM] at HCall hbad
            clear hL hM hwx
            by_cases q1 : c < L
            · have g3 : decide (c < L) = true := decide_eq_true q1
              go_wp2
              go_quiet (first | (go_at_call 115; exact HCall.out _))
              go_wp2
              go_ret2
              rw [HE.out, HLL.out]
              exact ⟨_, rfl, World.ownsRow_nil _ _ _ _, HBD.out _⟩
            · have g3 : decide (c < L) = false := decide_eq_false q1
              have q2 : M < c := by omega
              have g4 : decide (M < c) = true := decide_eq_true q2
              go_wp2
              go_quiet (first | (go_at_call 115; exact HCall.out _))
              go_wp2
              go_ret2
              rw [HE.out, HLL.out]
              exact ⟨_, rfl, World.ownsRow_nil _ _ _ _, HBD.out _⟩
    · obtain rfl : k = R.length := by omega
      have hlt' : ¬ (R.length : Int) < (R.length : Int) := by omega
      have HE : Hid (xpE [] R = 0) := by have := HX.out; rwa [List.take_of_length_le (Nat.le_refl _)] at this
      have HF : Hid (OI wr w.heap.size u4 (xpL R)) := by
        have := HO.out
        rw [List.take_of_length_le (Nat.le_refl _)] at this
        show OI _ _ _ _
        unfold xpL
        rw [HE.out]
        exact this
      go_wp2
      go_ret2
      rw [HE.out]
      exact ⟨_, rfl, HF.out, HB.out⟩
end Go.Proofs.YtpmgnpfpnkmmbaaGreatDoor

namespace Go.Proofs.YtpmgnpfpnkmmbaaGreatDoor
open Go.RowKit Go.Maps
set_option maxRecDepth 20000
set_option linter.unusedVariables false

set_option maxHeartbeats 4000000 in
theorem hxsmall {W w : World} {xs : List ((Nat → Nat) × Thing)} (H : Herd W w xs) (i : Nat) {K : Nat → Nat} {g : Nat} {row : List Int} {p : Nat} (hi : xs[i]? = some (K, tq g row p)) (n : Nat) (hn : n ≤ 19) (hpl : p ≤ row.length) (hbt : Bit row) (O : Xodr W) :
    Calls Tryz.prog 100 #[.pointer (some ⟨g, 0, none⟩), .int .i64 n] w fun e w' => (smE row p n ≠ 0 ∧ e = .returned (.tuple #[.slice none 0 0, .int .i64 (smE row p n)]) ∧ ∃ q, Herd W w' (xs.set i (K, tq g row q))) ∨ (smE row p n = 0 ∧ ∃ b Kc, e = .returned (.tuple #[.slice (some ⟨b, 0, none⟩) 19 19, .int .i64 0]) ∧ Herd W w' (xs.set i (K, tq g row (p + 3 * n)) ++ [(Kc, ti (.slice (some ⟨b, 0, none⟩) 19 19) (smC row p n))])) := by
  have HBT := hide hbt
  have HLOW := hide H.low
  have hsz := H.bel.size
  have HI := hide hi
  have HO := hide O
  have HH := hide H
  clear H hi O hbt
  go_enter Tryz.func100, Tryz.ntmps100
  go_wp2_with (at_make; refine wpList_mkI rfl _ _ rfl _ _ _ _ 19 19 rfl rfl rfl rfl (Nat.le_refl _) (by omega) ?_)
  intro w1 hg1 hb1
  have ho1 : OI w1 w.heap.size (.slice (some ⟨w.heap.size, 0, none⟩) 19 19) (smC row p 0) := OI.of_full (l := List.replicate 19 0) (by rw [hg1]; rfl) (Nat.le_refl _) (by unfold maxLen; simp)
  obtain ⟨Kc, hc0⟩ := (HH.out.below hb1).tibs HLOW.out hsz ho1
  have HX0 : Hid (Herd W w1 (xs.set i (K, tq g row (p + 3 * 0)) ++ [(Kc, tib w.heap.size (.slice (some ⟨w.heap.size, 0, none⟩) 19 19) (smC row p 0))])) := by
    have := hc0.same (get_front HI.out)
    rw [setf HI.out] at this
    exact hide this
  clear hg1 hb1 ho1 hc0
  go_wp2
  go_loopw [7] (fun x wr => ∃ (k : Nat) (Kc : Nat → Nat), k ≤ n ∧ x = .int .i64 k ∧ p + 3 * k ≤ row.length ∧ Hid (Herd W wr (xs.set i (K, tq g row (p + 3 * k)) ++ [(Kc, tib w.heap.size (.slice (some ⟨w.heap.size, 0, none⟩) 19 19) (smC row p k))]))) (fun x _ => n - (intOf x).toNat)
  case atStart => exact ⟨0, Kc, Nat.zero_le _, rfl, hpl, HX0⟩
  case round =>
    obtain ⟨k, Kc, hk, rfl, hkl, HX⟩ := hrel
    by_cases hlt : k < n
    · have hlt' : (k : Int) < (n : Int) := by omega
      have HTK := hide (hqtake HX.out i (get_front (getset HI.out)) 3)
      rw [setf (getset HI.out), List.set_set] at HTK
      have hab := ahead_bound HBT.out (p + 3 * k) 3
      go_wp2_with fail
      refine HTK.out.mono ?_
      rintro e w2 ⟨rfl, h2⟩
      have HX2 := hide h2
      by_cases hl : row.length < p + 3 * k + 3
      · have HF : Hid (smE row p n = 70) := by show _ = _; unfold smE; rw [if_pos (by omega)]
        have e30 : takeE row (p + 3 * k) 3 = 30 := by unfold takeE; rw [if_pos ⟨by omega, by omega⟩, if_neg (by omega)]
        rw [e30]
        clear h2 hab
        go_wp2
        go_ret2
        refine .inl ⟨by rw [HF.out]; decide, by rw [HF.out]; rfl, _, HX2.out.front⟩
      · obtain ⟨t1, t2, t3⟩ := take_ok (takeOk_of (row := row) (p := p + 3 * k) (n := 3) (by omega) (by omega))
        have t1' : takeE row (p + 3 * k) 3 = 0 := t1
        have t2' : takeV row (p + 3 * k) 3 = ahead row (p + 3 * k) 3 := t2
        have t3' : takeP row (p + 3 * k) 3 = p + 3 * (k + 1) := t3.trans (by omega)
        rw [t1', t2']
        rw [t3'] at HX2
        have o1 := (HO.out.mono h2.bel).get k (by omega)
        have o2 := zor_at k (by omega)
        have HST : Hid (smC row p (k + 1) = (smC row p k).set (zor.getD k 0).toNat (ahead row (p + 3 * k) 3)) := rfl
        obtain ⟨V, HV⟩ : ∃ V, Hid (V = ahead row (p + 3 * k) 3) := ⟨_, rfl⟩
        rw [← HV.out] at hab HST ⊢
        have hv1 := hab.1
        have hv2 : V < 8 := hab.2
        obtain ⟨z', hz⟩ : ∃ z', z' = zor.getD k 0 := ⟨_, rfl⟩
        rw [← hz] at o1 o2 HST
        obtain ⟨z, rfl⟩ := Int.eq_ofNat_of_zero_le o2.1
        rw [Int.toNat_natCast] at HST
        have hz19 : (z : Int) < 19 := o2.2
        have hk19 : (k : Int) < 19 := by omega
        obtain ⟨⟨u, hu⟩, hfz, hput⟩ := HX2.out.tibput (k := z) (by rw [smC_len19]; omega) V
        rw [← HST.out] at hput
        have HP := hide hput
        clear h2 hab t1 t2 t3 t1' t2' t3' hz o2 hput HTK
        go_wp2
        go_roundw
        case rel => exact ⟨k + 1, Kc, by omega, by go_num, by omega, HP⟩
        case measure => simp [intOf]; omega
    · obtain rfl : k = n := by omega
      have hlt' : ¬ (k : Int) < (k : Int) := by omega
      have hsi := (HX.out.tibo _ (get_last _ _)).sb
      have HCK := hide (xcheck_any _ (smC row p k) _ hsi)
      clear hsi
      go_wp2_with fail
      refine HCK.out.mono ?_
      rintro e w2 ⟨rfl, hw2⟩
      rw [hw2]
      clear hw2
      have HSE : Hid (smE row p k = if chkS (smC row p k) ≠ 4 then 72 else 0) := by show _ = _; unfold smE; rw [if_neg (by omega)]
      obtain ⟨S, HS⟩ : ∃ S, Hid (S = chkS (smC row p k)) := ⟨_, rfl⟩
      rw [← HS.out] at HSE ⊢
      by_cases s4 : S = 4
      · subst s4
        have HF : Hid (smE row p k = 0) := by show _ = _; rw [HSE.out]; rfl
        have HN := hide HX.out.tibi
        go_wp2
        go_ret2
        exact .inr ⟨HF.out, _, _, rfl, HN.out⟩
      · have s4' : (S != 4) = true := by simpa using s4
        have HF : Hid (smE row p k = 72) := by show _ = _; rw [HSE.out, if_pos s4]
        go_wp2
        go_ret2
        exact .inl ⟨by rw [HF.out]; decide, by rw [HF.out]; rfl, _, HX.out.front⟩

/-- A list of runs, with the block from which on it lies. -/
def trb (B : Nat) (v : Value) (R : List Rn) : Thing :=
  ⟨fun w K => OR w B v R ∧ (∀ k, v.ownBlock = some k → K k ≠ 0) ∧ ∀ k, K k ≠ 0 → k < w.heap.size,
   fun h a b => ⟨rown_move h.1 fun k hk => b k (h.2.1 k hk), h.2.1, fun k hk => Nat.lt_of_lt_of_le (h.2.2 k hk) a⟩, fun h => h.2.2⟩

theorem Herd.trbs {W w : World} {xs : List ((Nat → Nat) × Thing)} (H : Herd W w xs) {B : Nat} (hN : Low B xs) (hW : W.heap.size ≤ B) {v : Value} {R : List Rn} (ho : OR w B v R) : ∃ K, Herd W w (xs ++ [(K, trb B v R)]) := by
  refine ⟨fun k => if v.ownBlock = some k then 1 else 0, H.bel, fun i d hd => ?_, fun i d hd k hk => ?_, fun i j d e hd he hij k hk => ?_⟩
  · rcases get_snoc hd with hd | ⟨_, rfl⟩
    · exact H.rep i d hd
    · refine ⟨ho, fun k hk => by simp [hk], fun k hk => ?_⟩
      by_cases e : v.ownBlock = some k
      · exact (ho.lt k e).2
      · simp [e] at hk
  · rcases get_snoc hd with hd | ⟨_, rfl⟩
    · exact H.up i d hd k hk
    · by_cases e : v.ownBlock = some k
      · have := (ho.lt k e).1; omega
      · simp [e] at hk
  · rcases get_snoc hd with hd | ⟨e1, rfl⟩
    · rcases get_snoc he with he | ⟨e2, rfl⟩
      · exact H.sep i j d e hd he hij k hk
      · have h1 := hN i d hd k hk
        by_cases q : v.ownBlock = some k
        · have := (ho.lt k q).1; omega
        · simp [q]
    · rcases get_snoc he with he | ⟨e2, rfl⟩
      · by_cases q : v.ownBlock = some k
        · have h2 := (ho.lt k q).1
          by_cases z : e.1 k = 0
          · exact z
          · have := hN j e he k z; omega
        · simp [q] at hk
      · omega

theorem Herd.trbo {W w : World} {xs : List ((Nat → Nat) × Thing)} (H : Herd W w xs) (i : Nat) {B : Nat} {K : Nat → Nat} {v : Value} {R : List Rn} (hi : xs[i]? = some (K, trb B v R)) : OR w B v R := by
  have h : (trb B v R).P w K := H.rep i _ hi
  exact h.1
end Go.Proofs.YtpmgnpfpnkmmbaaGreatDoor

