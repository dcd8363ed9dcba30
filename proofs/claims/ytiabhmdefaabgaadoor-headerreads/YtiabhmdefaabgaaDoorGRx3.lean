import Derived.Test.YtiabhmdefaabgaaDoorGRx2
namespace Go.Proofs.YtiabhmdefaabgaaDoor
open Go.RowKit Go.Maps
set_option maxRecDepth 20000
set_option linter.unusedVariables false

theorem boxOf {w : World} {g : Nat} {a b : Value} {t : TypeId} {fr : Nat × Nat} (h : w.heap[g]? = some (.cells #[a, b] t fr)) : w.cell? ⟨g, 0, none⟩ = some a ∧ w.cell? ⟨g, 1, none⟩ = some b := by
  constructor <;> (unfold World.cell?; rw [h]; rfl)

set_option maxHeartbeats 2000000 in
theorem xruns_any (v : Value) (l : List Int) (w : World) (h : SI w v l) (hn : l.length ≤ 1048576) :
    Calls Tryd.prog 20 #[v] w fun e w' => ∃ u, e = .returned (.tuple #[u, .int .i64 (rnE l)]) ∧ OR w' w.heap.size u (rnL l) ∧ Below w.heap.size w w' := by
  have HS := hide h
  obtain ⟨ao, cap, rfl, hlc, hcm⟩ := h.open
  clear h
  go_enter Tryd.func20, Tryd.ntmps20
  go_wp2_with fail
  refine (xlengths_any _ l w HS.out).mono ?_
  rintro e w1 ⟨rfl, hw1⟩
  subst hw1
  by_cases hw : wthb l = true
  · have HE : Hid (rnE l = 0 ∧ rnL l = rns l) := ⟨by unfold rnE; rw [if_pos hw], by unfold rnL; rw [if_pos hw]⟩
    rw [hw]
    go_wp2
    go_loopw [5, 6] (fun u i wr => ∃ (k : Nat) (R : List Rn), k ≤ l.length ∧ i = .int .i64 k ∧ R.length ≤ k ∧ Hid (rns l = R ++ rnK l k) ∧ Hid (OR wr w1.heap.size u R) ∧ Hid (Below w1.heap.size w1 wr)) (fun _ i _ => l.length - (intOf i).toNat)
    case atStart => exact ⟨0, [], Nat.zero_le _, rfl, Nat.le_refl _, rfl, OR.nil _ _, Below.refl _ _⟩
    case round =>
      obtain ⟨k, R, hk, rfl, hR, HR, HO, HB⟩ := hrel
      by_cases hlt : k < l.length
      · have hlt' : (k : Int) < (l.length : Int) := by omega
        obtain ⟨c, hc, _⟩ := run1_cnt hlt
        obtain ⟨p1, hp1⟩ : ∃ p1, (run1 l k).1 = p1 := ⟨_, rfl⟩
        obtain ⟨hm1, hm2, hm3, hm4, hm5⟩ := rns_more (c := c) (p1 := p1) hlt HR.out hR (Prod.ext hp1 hc)
        have HM4 := hide hm4
        have HX := hide (xrun_any k _ l wr (HS.out.below HB.out) hlt hn)
        rw [hp1, hc] at HX
        obtain ⟨a1, q1, hu, _⟩ := HO.out.shape
        subst hu
        clear hm4 HR hp1 hc
        go_wp2_with fail
        refine HX.out.mono ?_
        rintro e w2 ⟨rfl, hb2⟩
        have hs2 : w1.heap.size ≤ w2.heap.size := Nat.le_trans HB.out.size hb2.size
        have HB2 := hide (HB.out.trans (hb2.mono HB.out.size))
        obtain ⟨wx, hwx⟩ : ∃ wx, w2.alloc (.cells #[.int .i64 p1, .int .i64 c] 25) = wx := ⟨_, rfl⟩
        have hsx : wx.heap.size = w2.heap.size + 1 := by rw [← hwx]; simp
        have HBX : Hid (Below w1.heap.size w1 wx) := by rw [← hwx]; exact hide (HB2.out.alloc hs2 _)
        have HOX : Hid (OR wx w1.heap.size (.slice a1 R.length q1) R) := by rw [← hwx]; exact hide ((HO.out.below hb2 (Nat.le_refl _)).alloc _)
        have hgx : wx.heap[w2.heap.size]? = some (.cells #[.int .i64 p1, .int .i64 c] 25 (0, 0)) := by rw [← hwx]; exact heap_alloc_new w2 _
        obtain ⟨z0, z1⟩ := boxOf hgx
        have HGX := hide hgx
        have HOL : Hid (∀ j, (Value.slice a1 R.length q1).ownBlock = some j → j < w2.heap.size) := fun j hj => by
          have := (HO.out.below hb2 (Nat.le_refl _)).lt j hj
          omega
        have HSX := hide hsx
        have hsx2 : w1.heap.size ≤ wx.heap.size := by omega
        clear hb2 HX hgx hsx
        go_wp2_with (at_builtin; refine wpRun rfl _ _ rfl w1.heap.size (.slice a1 R.length q1) R p1 (c : Int) rfl HOX.out _ rfl (by omega) hsx2 ?_)
        intro v3 w3 ho3 hg3
        have y3 : w3.heap[w2.heap.size]? = some (.cells #[.int .i64 p1, .int .i64 c] 25 (0, 0)) := by
          have e1 := hg3.block w2.heap.size (by simp; have := HSX.out; omega) (fun e => by have := HOL.out _ e.symm; omega)
          rw [e1, Below.heap_alloc wx _ _ (by have := HSX.out; omega)]
          exact HGX.out
        obtain ⟨z3, z4⟩ := boxOf y3
        have HN3 : Hid (OR w3 w1.heap.size v3 (R ++ [(p1, (c : Int))]) ∧ Below w1.heap.size w1 w3) := ⟨ho3, grow_run HBX.out (Nat.le_refl _) HOX.out hg3⟩
        clear ho3 hg3 y3 z0 z1
        go_wp2
        go_roundw
        case rel => exact ⟨k + c, _, hm1, by go_num, hm5, HM4, HN3.out.1, HN3.out.2⟩
        case measure => simp [intOf]; omega
      · obtain rfl : k = l.length := by omega
        have hlt' : ¬ (l.length : Int) < (l.length : Int) := by omega
        have HF : Hid (OR wr w1.heap.size u5 (rnL l)) := by
          have := HR.out
          rw [rnK_end (Nat.le_refl _), List.append_nil] at this
          show OR _ _ _ _
          rw [HE.out.2, this]
          exact HO.out
        go_wp2
        go_ret2
        rw [HE.out.1]
        exact ⟨_, rfl, HF.out, HB.out⟩
  · have HE : Hid (rnE l = 1 ∧ rnL l = []) := ⟨by unfold rnE; rw [if_neg hw], by unfold rnL; rw [if_neg hw]⟩
    have hw' : wthb l = false := by simpa using hw
    rw [hw']
    go_wp2
    go_ret2
    rw [HE.out.1, HE.out.2]
    exact ⟨_, rfl, OR.nil _ _, Below.refl _ _⟩

theorem xfurther_any (s : Nat) (w : World) (hs : s < 19) : Calls Tryd.prog 35 #[.int .i64 s] w fun e w' => e = .returned (.tuple #[.int .i64 (frt s : Nat), .int .i64 (lst s)]) ∧ w' = w := by
  by_cases h16 : s = 16
  · subst h16
    go_enter Tryd.func35, Tryd.ntmps35
    go_wp2
    go_ret2
    exact ⟨rfl, rfl⟩
  · by_cases h17 : s = 17
    · subst h17
      go_enter Tryd.func35, Tryd.ntmps35
      go_wp2
      go_ret2
      exact ⟨rfl, rfl⟩
    · by_cases h18 : s = 18
      · subst h18
        go_enter Tryd.func35, Tryd.ntmps35
        go_wp2
        go_ret2
        exact ⟨rfl, rfl⟩
      · have g1 : ((s : Int) == 16) = false := by simp; omega
        have g2 : ((s : Int) == 17) = false := by simp; omega
        have g3 : ((s : Int) == 18) = false := by simp; omega
        have HE : Hid (frt s = 0 ∧ lst s = 1) := by unfold frt lst; rw [if_pos (by omega), if_pos (by omega)]; exact hide ⟨rfl, rfl⟩
        go_enter Tryd.func35, Tryd.ntmps35
        go_wp2
        go_ret2
        rw [HE.out.1, HE.out.2]
        exact ⟨rfl, rfl⟩

theorem xmost_any (s : Nat) (w : World) (hs : s < 19) : Calls Tryd.prog 36 #[.int .i64 s] w fun e w' => e = .returned (.int .i64 (mst s)) ∧ ∃ q, w' = w.drewN q := by
  have HF := hide (xfurther_any s w hs)
  have C := tab_cases s hs
  rcases C with ⟨a, b, c⟩ | ⟨a, b, c⟩ | ⟨a, b, c⟩ | ⟨a, b, c⟩ <;>
  · rw [a, b] at HF
    rw [c]
    clear a b c
    go_enter Tryd.func36, Tryd.ntmps36
    go_wp2_with fail
    refine HF.out.mono ?_
    rintro e w1 ⟨rfl, hw1⟩
    subst hw1
    go_wp2
    go_ret
    exact ⟨rfl, 0, rfl⟩
end Go.Proofs.YtiabhmdefaabgaaDoor

