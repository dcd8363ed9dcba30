import Derived.Test.YtkmefeihkmbngaaDoorG26Lrd
import Derived.Test.YtkmefeihkmbngaaDoorG03Lsk
import Derived.Deep.DeepCutAuto
import Derived.Deep.RegionWith
namespace Go.Proofs.YtkmefeihkmbngaaDoor
open Go.RowKit Go.Maps
set_option maxRecDepth 20000
set_option linter.unusedVariables false

structure Cq (w : World) (B r g g1 g2 : Nat) (l d : List Int) : Prop where
  box : w.heap[g]? = some (.cells #[.slice (some ⟨g1, 0, none⟩) 286 286, .slice (some ⟨g2, 0, none⟩) 30 30] 41 (0, 0))
  res : w.heap[r]? = some (.cells #[.slice none 0 0, .slice none 0 0] 41 (0, 0))
  lit : OI w B (.slice (some ⟨g1, 0, none⟩) 286 286) l
  dist : OI w B (.slice (some ⟨g2, 0, none⟩) 30 30) d
  ll : l.length = 286
  dl : d.length = 30
  ne : g1 ≠ g2 ∧ g ≠ g1 ∧ g ≠ g2 ∧ r ≠ g ∧ r ≠ g1 ∧ r ≠ g2
  up : B ≤ g ∧ B ≤ r ∧ B ≤ g1 ∧ B ≤ g2

theorem Cq.low {w w' : World} {B r g g1 g2 : Nat} {l d : List Int} (h : Cq w B r g g1 g2 l d) (hb : Below w.heap.size w w') : Cq w' B r g g1 g2 l d :=
  ⟨(hb.block g (lt_of_block h.box)).trans h.box, (hb.block r (lt_of_block h.res)).trans h.res, h.lit.move fun k hk => hb.block k (h.lit.lt k hk).2, h.dist.move fun k hk => hb.block k (h.dist.lt k hk).2, h.ll, h.dl, h.ne, h.up⟩

theorem Cq.atl {w : World} {B r g g1 g2 : Nat} {l d : List Int} (h : Cq w B r g g1 g2 l d) {i : Nat} (hi : i < 286) : w.cell? ⟨g1, i, none⟩ = some (.int .i64 (l.getD i 0)) ∧ w.frozen? ⟨g1, i, none⟩ = false := by
  have hl : i < l.length := by rw [h.ll]; exact hi
  obtain ⟨g', c', e, ⟨u, hu⟩, hf, _⟩ := h.lit.put hl 0
  simp only [Value.slice.injEq, Option.some.injEq, Addr.mk.injEq] at e
  obtain ⟨⟨rfl, -⟩, -⟩ := e
  exact ⟨h.lit.get rfl hl, hf⟩

theorem Cq.atd {w : World} {B r g g1 g2 : Nat} {l d : List Int} (h : Cq w B r g g1 g2 l d) {i : Nat} (hi : i < 30) : w.cell? ⟨g2, i, none⟩ = some (.int .i64 (d.getD i 0)) ∧ w.frozen? ⟨g2, i, none⟩ = false := by
  have hl : i < d.length := by rw [h.dl]; exact hi
  obtain ⟨g', c', e, ⟨u, hu⟩, hf, _⟩ := h.dist.put hl 0
  simp only [Value.slice.injEq, Option.some.injEq, Addr.mk.injEq] at e
  obtain ⟨⟨rfl, -⟩, -⟩ := e
  exact ⟨h.dist.get rfl hl, hf⟩

theorem Cq.putl {w : World} {B r g g1 g2 : Nat} {l d : List Int} (h : Cq w B r g g1 g2 l d) {i : Nat} (hi : i < 286) (x : Int) : Cq (w.setCell ⟨g1, i, none⟩ (.int .i64 x)) B r g g1 g2 (l.set i x) d := by
  have hl : i < l.length := by rw [h.ll]; exact hi
  obtain ⟨g', c', e, _, _, ho⟩ := h.lit.put hl x
  simp only [Value.slice.injEq, Option.some.injEq, Addr.mk.injEq] at e
  obtain ⟨⟨rfl, -⟩, -⟩ := e
  have hn := h.ne
  refine ⟨?_, ?_, ho, h.dist.move fun k hk => ?_, by simp [h.ll], h.dl, hn, h.up⟩
  · rw [setCell_others _ _ _ _ _ hn.2.1]; exact h.box
  · rw [setCell_others _ _ _ _ _ hn.2.2.2.2.1]; exact h.res
  · simp [Value.ownBlock] at hk
    subst hk
    exact setCell_others _ _ _ _ _ (fun e => hn.1 e.symm)

theorem Cq.putd {w : World} {B r g g1 g2 : Nat} {l d : List Int} (h : Cq w B r g g1 g2 l d) {i : Nat} (hi : i < 30) (x : Int) : Cq (w.setCell ⟨g2, i, none⟩ (.int .i64 x)) B r g g1 g2 l (d.set i x) := by
  have hl : i < d.length := by rw [h.dl]; exact hi
  obtain ⟨g', c', e, _, _, ho⟩ := h.dist.put hl x
  simp only [Value.slice.injEq, Option.some.injEq, Addr.mk.injEq] at e
  obtain ⟨⟨rfl, -⟩, -⟩ := e
  have hn := h.ne
  refine ⟨?_, ?_, h.lit.move fun k hk => ?_, ho, h.ll, by simp [h.dl], hn, h.up⟩
  · rw [setCell_others _ _ _ _ _ hn.2.2.1]; exact h.box
  · rw [setCell_others _ _ _ _ _ hn.2.2.2.2.2]; exact h.res
  · simp [Value.ownBlock] at hk
    subst hk
    exact setCell_others _ _ _ _ _ hn.1

theorem Cq.cells {w : World} {B r g g1 g2 : Nat} {l d : List Int} (h : Cq w B r g g1 g2 l d) : w.cell? ⟨g, 0, none⟩ = some (.slice (some ⟨g1, 0, none⟩) 286 286) ∧ w.cell? ⟨g, 1, none⟩ = some (.slice (some ⟨g2, 0, none⟩) 30 30) := by
  constructor <;> (unfold World.cell?; rw [h.box]; rfl)

theorem Cq.start {w : World} {B r g g1 g2 : Nat} (h1 : w.heap[g]? = some (.cells #[.slice (some ⟨g1, 0, none⟩) 286 286, .slice (some ⟨g2, 0, none⟩) 30 30] 41 (0, 0))) (h2 : w.heap[r]? = some (.cells #[.slice none 0 0, .slice none 0 0] 41 (0, 0)))
    (h3 : w.heap[g1]? = some (.cells (List.replicate 286 (Value.int .i64 0)).toArray 3 (0, 0))) (h4 : w.heap[g2]? = some (.cells (List.replicate 30 (Value.int .i64 0)).toArray 3 (0, 0))) (h5 : g1 ≠ g2 ∧ g ≠ g1 ∧ g ≠ g2 ∧ r ≠ g ∧ r ≠ g1 ∧ r ≠ g2) (h6 : B ≤ g ∧ B ≤ r ∧ B ≤ g1 ∧ B ≤ g2) : Cq w B r g g1 g2 (List.replicate 286 0) (List.replicate 30 0) :=
  ⟨h1, h2, ⟨by simp, .inr ⟨g1, 286, _, rfl, h6.2.2.1, h3, by simp, by unfold maxLen; omega, by simp, by simp⟩⟩, ⟨by simp, .inr ⟨g2, 30, _, rfl, h6.2.2.2, h4, by simp, by unfold maxLen; omega, by simp, by simp⟩⟩, by simp, by simp, h5, h6⟩

theorem cell_blk {w w' : World} {g i : Nat} (h : w'.heap[g]? = w.heap[g]?) : w'.cell? ⟨g, i, none⟩ = w.cell? ⟨g, i, none⟩ := by unfold World.cell?; rw [h]

theorem spn_form {w : World} {base : Nat} {v : Value} {xs : List Value} (h : w.ownsRow base 63 3 v 30 xs) : ∃ g c, v = .slice (some ⟨g, 0, none⟩) 30 c ∧ base ≤ g ∧ g < w.heap.size := by
  rcases h.2 with ⟨rfl, h0⟩ | ⟨g, cap, cur, rfl, h1, h2, _⟩
  · omega
  · exact ⟨g, cap, rfl, h1, lt_of_block h2⟩

theorem spn_cap {w : World} {base g c : Nat} {xs : List Value} (h : w.ownsRow base 63 3 (.slice (some ⟨g, 0, none⟩) 30 c) 30 xs) : c ≤ 9223372036854775807 := by
  rcases h.2 with ⟨e, h0⟩ | ⟨g', cap, cur, e, h1, h2, h3, h4, _⟩
  · omega
  · simp only [Value.slice.injEq] at e
    obtain ⟨-, -, rfl⟩ := e
    unfold maxLen at h4
    omega

set_option maxHeartbeats 1000000 in
theorem learned_any (vl vd : Value) (L D : List Int) (w : World) (h1 : SI w vl L) (h2 : SI w vd D) (hL : Wok L 286) (hD : Wok D 30) (T : Ltab w ∧ Dtab w) :
    Calls Tryd.prog 21 #[vl, vd] w fun e w' => ∃ g1 g2, e = .returned (.agg #[.slice (some ⟨g1, 0, none⟩) 286 286, .slice (some ⟨g2, 0, none⟩) 30 30]) ∧ OI w' w.heap.size (.slice (some ⟨g1, 0, none⟩) 286 286) (pcL L) ∧ OI w' w.heap.size (.slice (some ⟨g2, 0, none⟩) 30 30) (pcD D) ∧ g1 ≠ g2 ∧ Below w.heap.size w w' := by
  have HS1 := hide h1
  have HS2 := hide h2
  have HT := hide T
  have HLB := hide hL.2
  have HDB := hide hD.2
  have hLl := hL.1
  have hDl := hD.1
  obtain ⟨a1, c1, rfl, _, _⟩ := h1.open
  obtain ⟨a2, c2, rfl, _, _⟩ := h2.open
  have m1 : ∀ w : World, (Instr.makeSlice 23 (.int .i64 286) (.int .i64 286)).run Tryd.prog w = .ok (.slice (some ⟨w.heap.size, 0, none⟩) 286 286) (w.alloc (.cells (List.replicate 286 (Value.int .i64 0)).toArray 3)) := fun w => mk_ints 286 (by omega) w
  have m2 : ∀ w : World, (Instr.makeSlice 23 (.int .i64 30) (.int .i64 30)).run Tryd.prog w = .ok (.slice (some ⟨w.heap.size, 0, none⟩) 30 30) (w.alloc (.cells (List.replicate 30 (Value.int .i64 0)).toArray 3)) := fun w => mk_ints 30 (by omega) w
  obtain ⟨Z1, HZ1⟩ : ∃ Z, Hid ((List.replicate 286 (Value.int .i64 0)).toArray = Z) := ⟨_, rfl⟩
  obtain ⟨Z2, HZ2⟩ : ∃ Z, Hid ((List.replicate 30 (Value.int .i64 0)).toArray = Z) := ⟨_, rfl⟩
  rw [HZ1.out] at m1
  rw [HZ2.out] at m2
  have HBA : Hid (∀ a b c d : Obj, Below w.heap.size w ((((w.alloc a).alloc b).alloc c).alloc d).drew) := fun a b c d => by
    have h1 := (Below.refl w.heap.size w).alloc (Nat.le_refl _) a
    have h2 := h1.alloc h1.size b
    have h3 := h2.alloc h2.size c
    exact below_drewN (h3.alloc h3.size d) 1
  clear h1 h2 T hL hD
  go_enter Tryd.func21, Tryd.ntmps21
  go_wp2
  go_cut [5] (fun s3 wx => ∃ g g1 g2, s3 = .pointer (some ⟨g, 0, none⟩) ∧ Hid (Cq wx w.heap.size w.heap.size g g1 g2 (List.replicate 286 0) (List.replicate 30 0)) ∧ Hid (Below w.heap.size w wx))
  case first =>
    go_region
    all_goals
      go_wp2_with fail
      go_meet
      first
        | exact ⟨_, w.heap.size + 1, w.heap.size + 1 + 1, rfl, hide (Cq.start (alloc4 w _ _ _ _).2.2.2 (alloc4 w _ _ _ _).1 (HZ1.out ▸ (alloc4 w _ _ _ _).2.1) (HZ2.out ▸ (alloc4 w _ _ _ _).2.2.1) (by omega) (by omega)), hide (HBA.out _ _ _ _)⟩
        | exact ⟨_, w.heap.size + 1, w.heap.size + 1 + 1 + 1, rfl, hide (Cq.start (alloc4 w _ _ _ _).2.2.1 (alloc4 w _ _ _ _).1 (HZ1.out ▸ (alloc4 w _ _ _ _).2.1) (HZ2.out ▸ (alloc4 w _ _ _ _).2.2.2) (by omega) (by omega)), hide (HBA.out _ _ _ _)⟩
        | exact ⟨_, w.heap.size + 1 + 1, w.heap.size + 1, rfl, hide (Cq.start (alloc4 w _ _ _ _).2.2.2 (alloc4 w _ _ _ _).1 (HZ1.out ▸ (alloc4 w _ _ _ _).2.2.1) (HZ2.out ▸ (alloc4 w _ _ _ _).2.1) (by omega) (by omega)), hide (HBA.out _ _ _ _)⟩
        | exact ⟨_, w.heap.size + 1 + 1 + 1, w.heap.size + 1, rfl, hide (Cq.start (alloc4 w _ _ _ _).2.2.1 (alloc4 w _ _ _ _).1 (HZ1.out ▸ (alloc4 w _ _ _ _).2.2.2) (HZ2.out ▸ (alloc4 w _ _ _ _).2.1) (by omega) (by omega)), hide (HBA.out _ _ _ _)⟩
        | exact ⟨_, w.heap.size + 1 + 1, w.heap.size + 1 + 1 + 1, rfl, hide (Cq.start (alloc4 w _ _ _ _).2.1 (alloc4 w _ _ _ _).1 (HZ1.out ▸ (alloc4 w _ _ _ _).2.2.1) (HZ2.out ▸ (alloc4 w _ _ _ _).2.2.2) (by omega) (by omega)), hide (HBA.out _ _ _ _)⟩
        | exact ⟨_, w.heap.size + 1 + 1 + 1, w.heap.size + 1 + 1, rfl, hide (Cq.start (alloc4 w _ _ _ _).2.1 (alloc4 w _ _ _ _).1 (HZ1.out ▸ (alloc4 w _ _ _ _).2.2.2) (HZ2.out ▸ (alloc4 w _ _ _ _).2.2.1) (by omega) (by omega)), hide (HBA.out _ _ _ _)⟩
  case rest =>
  obtain ⟨g, g1, g2, rfl, HC0, HB0⟩ := hcut
  clear m1 m2 HZ1 HZ2 HBA
  have HLN : Hid (∀ w0, Below w.heap.size w w0 → Calls Tryd.prog 31 #[] w0 fun e w' => e = .returned (.agg (ar lfs)) ∧ Below w0.heap.size w0 w') := fun w0 q => lengthBits_any w0 (HT.out.1.low q)
  have HSN : Hid (∀ w0, Below w.heap.size w w0 → Calls Tryd.prog 33 #[.int .i64 32768] w0 fun e w' => ∃ v, e = .returned v ∧ w'.ownsRow w0.heap.size 63 3 v 30 (sps 30) ∧ Below w0.heap.size w0 w') := fun w0 q => spans_any w0 (HT.out.2.low q)
  go_wp2_with fail
  refine (HLN.out _ HB0.out).mono ?_
  rintro e w2 ⟨rfl, b2⟩
  have HC1 := hide (HC0.out.low b2)
  have HB1 : Hid (Below w.heap.size w w2) := HB0.out.trans (b2.mono HB0.out.size)
  have HIX : Hid (∀ k : Nat, k < 286 → ∀ w : World, (Instr.index 58 (.agg (ar lfs)) (.int .i64 (k : Int))).run Tryd.prog w = .ok (.int .i64 (lfu k)) w) := fun k hk w => by
    have := ix286 lfs_len hk w
    rw [show lfs.getD k 0 = lfu k from map_get _ hk] at this
    exact this
  obtain ⟨A, hA⟩ : ∃ A, ar lfs = A := ⟨_, rfl⟩
  rw [hA] at HIX ⊢
  have HM0 : Hid (mix (pcL L) (List.replicate 286 0) 0 = List.replicate 286 0 ∧ mix (pcL L) (List.replicate 286 0) 286 = pcL L) := ⟨mix_zero _ _, by have := mix_all (P := pcL L) (Q := List.replicate 286 0) (by rw [pcL_len]; simp); simpa using this⟩
  have HMS : Hid (∀ k : Nat, k < 286 → (mix (pcL L) (List.replicate 286 0) k).set k (wbn (L.getD k 0) + lfu k) = mix (pcL L) (List.replicate 286 0) (k + 1)) := fun k hk => by
    rw [← pcL_at L hk]
    exact mix_set (by rw [pcL_len]; simp) (by simpa using hk)
  obtain ⟨M, hM⟩ : ∃ M : Nat → List Int, (fun k => mix (pcL L) (List.replicate 286 0) k) = M := ⟨_, rfl⟩
  have hMk : ∀ k, mix (pcL L) (List.replicate 286 0) k = M k := fun k => congrFun hM k
  simp only [hMk] at HM0 HMS
  have HN0 : Hid (mix (pcD D) (List.replicate 30 0) 0 = List.replicate 30 0 ∧ mix (pcD D) (List.replicate 30 0) 30 = pcD D) := ⟨mix_zero _ _, by have := mix_all (P := pcD D) (Q := List.replicate 30 0) (by rw [pcD_len]; simp); simpa using this⟩
  have HNS : Hid (∀ k : Nat, k < 30 → (mix (pcD D) (List.replicate 30 0) k).set k (wbn (D.getD k 0) + (DF k : Int)) = mix (pcD D) (List.replicate 30 0) (k + 1)) := fun k hk => by
    rw [← pcD_at D hk]
    exact mix_set (by rw [pcD_len]; simp) (by simpa using hk)
  obtain ⟨N, hN⟩ : ∃ M : Nat → List Int, (fun k => mix (pcD D) (List.replicate 30 0) k) = M := ⟨_, rfl⟩
  have hNk : ∀ k, mix (pcD D) (List.replicate 30 0) k = N k := fun k => congrFun hN k
  simp only [hNk] at HN0 HNS
  rw [← HM0.out.1, ← HN0.out.1] at HC1
  clear b2 HC0 HB0 hA hM hMk hN hNk HLN
  go_wp2
  go_loopw [14] (fun t wr => ∃ k : Nat, k ≤ 286 ∧ t = .int .i64 (k : Int) ∧ Hid (Cq wr w.heap.size w.heap.size g g1 g2 (M k) (N 0)) ∧ Hid (Below w.heap.size w wr)) (fun t _ => 286 - (intOf t).toNat)
  case atStart => exact ⟨0, Nat.zero_le _, rfl, HC1, HB1⟩
  case round =>
    obtain ⟨k, hk, rfl, HC, HB⟩ := hrel
    clear HC1 HB1
    by_cases hlt : k < 286
    · have hlt' : (k : Int) < 286 := by omega
      have hltL : (k : Int) < (L.length : Int) := by omega
      have hix := HIX.out k hlt
      obtain ⟨b, o, rfl, hc⟩ := HS1.out.get HB.out (show k < L.length by omega)
      have hx := HLB.out k
      have hf := lfu_bd hlt
      have hy := wbn_bd hx
      have HST := hide (HMS.out k hlt)
      have HWB := hide (fun w0 => wordBits_any (L.getD k 0) w0)
      obtain ⟨x, hx0⟩ : ∃ x, L.getD k 0 = x := ⟨_, rfl⟩
      rw [hx0] at hc HST HWB hy
      obtain ⟨y, hy0⟩ : ∃ y, wbn x = y := ⟨_, rfl⟩
      rw [hy0] at HST HWB hy
      obtain ⟨f, hf0⟩ : ∃ y, lfu k = y := ⟨_, rfl⟩
      rw [hf0] at HST hf hix
      obtain ⟨p0, p1⟩ := HC.out.cells
      obtain ⟨u0, u1⟩ := HC.out.atl hlt
      have hwr : wrap64 (y + f) = y + f := by unfold wrap64; omega
      have HP := hide (HC.out.putl hlt (y + f))
      rw [HST.out] at HP
      have HBP : Hid (Below w.heap.size w (wr.setCell ⟨g1, k, none⟩ (.int .i64 (y + f)))) := HB.out.setCell (p := ⟨g1, k, none⟩) HC.out.up.2.2.1 _
      rw [← hwr] at HP HBP
      clear hx hf hy hx0 hy0 hf0 HST HC HB
      go_wp2
      go_region_with (go_at_call 32; (with_reducible refine (HWB.out _).mono ?_); rintro e w5 ⟨rfl, hw5⟩; rw [hw5]; clear hw5)
      all_goals
        go_wp2
        go_roundw
        case rel => exact ⟨k + 1, by omega, by go_num, hide (HP.out.low (below_drewN (Below.refl _ _) 1)), hide (below_drewN HBP.out 1)⟩
        case measure => simp [intOf]; omega
    · obtain rfl : k = 286 := by omega
      have hlt' : ¬ ((286 : Nat) : Int) < 286 := by omega
      rw [HM0.out.2] at HC
      clear HIX HMS HM0 HLB HT
      go_wp2_with fail
      refine (HSN.out _ HB.out).mono ?_
      rintro e w3 ⟨v, rfl, ho3, b3⟩
      obtain ⟨gs, cs, rfl, hgs1, hgs2⟩ := spn_form ho3
      have HGS : Hid (∀ i : Nat, i < 30 → w3.cell? ⟨gs, i * 3, none⟩ = some (.int .i64 (DB i : Int)) ∧ w3.cell? ⟨gs, i * 3 + 1, none⟩ = some (.int .i64 ((DB (i + 1) - 1 : Nat) : Int)) ∧ w3.cell? ⟨gs, i * 3 + 2, none⟩ = some (.int .i64 (DF i : Int))) := fun i hi => by
        obtain ⟨q1, q2, q3⟩ := sps_get hi
        have r1 := ho3.cellAt (i * 3) (by omega)
        have r2 := ho3.cellAt (i * 3 + 1) (by omega)
        have r3 := ho3.cellAt (i * 3 + 2) (by omega)
        exact ⟨r1.trans q1, r2.trans q2, r3.trans q3⟩
      have HNE : Hid (gs ≠ g2) := fun q => by
        have := (HC.out.dist.lt g2 rfl).2
        omega
      have hgsm : cs ≤ 9223372036854775807 := spn_cap ho3
      have HC3 := hide (HC.out.low b3)
      have HB3 : Hid (Below w.heap.size w w3) := HB.out.trans (b3.mono HB.out.size)
      have HW3 : Hid (w3.heap[gs]? = w3.heap[gs]? ∧ gs < w3.heap.size) := ⟨rfl, hgs2⟩
      clear b3 ho3 HC HB HSN hgs1 hgs2
      go_wp2
      go_loopw [32] (fun t wr => ∃ k : Nat, k ≤ 30 ∧ t = .int .i64 (k : Int) ∧ Hid (Cq wr w.heap.size w.heap.size g g1 g2 (pcL L) (N k)) ∧ Hid (Below w.heap.size w wr) ∧ Hid (wr.heap[gs]? = w3.heap[gs]? ∧ gs < wr.heap.size)) (fun t _ => 30 - (intOf t).toNat)
      case atStart => exact ⟨0, Nat.zero_le _, rfl, HC3, HB3, hide ⟨rfl, HW3.out.2⟩⟩
      case round =>
        obtain ⟨k, hk, rfl, HC, HB, HW⟩ := hrel
        clear HC3 HB3 HW3
        by_cases hlt : k < 30
        · have hlt' : (k : Int) < 30 := by omega
          have hltD : (k : Int) < (D.length : Int) := by omega
          obtain ⟨b, o, rfl, hc⟩ := HS2.out.get HB.out (show k < D.length by omega)
          obtain ⟨q1, q2, q3⟩ := HGS.out k hlt
          rw [← cell_blk HW.out.1] at q1 q2 q3
          have hx := HDB.out k
          have hf := dft_bd hlt
          have hy := wbn_bd hx
          have HST := hide (HNS.out k hlt)
          have HWB := hide (fun w0 => wordBits_any (D.getD k 0) w0)
          obtain ⟨x, hx0⟩ : ∃ x, D.getD k 0 = x := ⟨_, rfl⟩
          rw [hx0] at hc HST HWB hy
          obtain ⟨y, hy0⟩ : ∃ y, wbn x = y := ⟨_, rfl⟩
          rw [hy0] at HST HWB hy
          obtain ⟨f, hf0⟩ : ∃ y, DF k = y := ⟨_, rfl⟩
          obtain ⟨d0, hd0⟩ : ∃ y, DB k = y := ⟨_, rfl⟩
          obtain ⟨d1, hd1⟩ : ∃ y, DB (k + 1) - 1 = y := ⟨_, rfl⟩
          rw [hf0] at HST hf q3
          rw [hd0] at q1
          rw [hd1] at q2
          have hwr : wrap64 (y + (f : Int)) = y + (f : Int) := by unfold wrap64; omega
          obtain ⟨w4, hw4⟩ : ∃ w4, wr.alloc (.cells #[.int .i64 (d0 : Int), .int .i64 (d1 : Int), .int .i64 (f : Int)] 63) = w4 := ⟨_, rfl⟩
          have HB4 : Hid (Below wr.heap.size wr w4) := by rw [← hw4]; exact (Below.refl _ _).alloc (Nat.le_refl _) _
          have y2 : w4.cell? ⟨wr.heap.size, 2, none⟩ = some (.int .i64 (f : Int)) := by rw [← hw4]; unfold World.cell?; simp only [heap_alloc_new]; rfl
          have HC4 := hide (HC.out.low HB4.out)
          have HBW4 := hide (HB.out.trans (HB4.out.mono HB.out.size))
          have hc4 : w4.cell? ⟨b, o + k, none⟩ = some (.int .i64 x) := (HB4.out.cell (World.block_lt_of_cell? _ _ hc)).trans hc
          have HW4 : Hid (w4.heap[gs]? = w3.heap[gs]? ∧ gs < w4.heap.size) := ⟨(HB4.out.block gs HW.out.2).trans HW.out.1, Nat.lt_of_lt_of_le HW.out.2 HB4.out.size⟩
          obtain ⟨p0, p1⟩ := HC4.out.cells
          obtain ⟨u0, u1⟩ := HC4.out.atd hlt
          have HP := hide (HC4.out.putd hlt (y + (f : Int)))
          rw [HST.out] at HP
          have HBP : Hid (Below w.heap.size w (w4.setCell ⟨g2, k, none⟩ (.int .i64 (y + (f : Int))))) := HBW4.out.setCell (p := ⟨g2, k, none⟩) HC4.out.up.2.2.2 _
          have HW5 : Hid ((w4.setCell ⟨g2, k, none⟩ (.int .i64 (y + (f : Int)))).heap[gs]? = w3.heap[gs]? ∧ gs < (w4.setCell ⟨g2, k, none⟩ (.int .i64 (y + (f : Int)))).heap.size) := ⟨(setCell_others _ _ _ _ _ HNE.out).trans HW4.out.1, by simpa using HW4.out.2⟩
          rw [← hwr] at HP HBP HW5
          clear hx hf hy hx0 hy0 hf0 hd0 hd1 HST HC HB HB4 HC4 HBW4 HW HW4 HGS
          go_wp2
          go_region_with (go_at_call 32; (with_reducible refine (HWB.out _).mono ?_); rintro e w5 ⟨rfl, hw5⟩; rw [hw5]; clear hw5)
          all_goals
            go_wp2
            go_roundw
            case rel => exact ⟨k + 1, by omega, by go_num, hide (HP.out.low (below_drewN (Below.refl _ _) 1)), hide (below_drewN HBP.out 1), HW5⟩
            case measure => simp [intOf]; omega
        · obtain rfl : k = 30 := by omega
          have hlt' : ¬ ((30 : Nat) : Int) < 30 := by omega
          rw [HN0.out.2] at HC
          have hup := HC.out.up
          have hne := HC.out.ne
          obtain ⟨p0, p1⟩ := HC.out.cells
          have r0 : wr.cell? ⟨w.heap.size, 0, none⟩ = some (.slice none 0 0) := by unfold World.cell?; rw [HC.out.res]; rfl
          have r1 : wr.cell? ⟨w.heap.size, 1, none⟩ = some (.slice none 0 0) := by unfold World.cell?; rw [HC.out.res]; rfl
          have r2 : wr.frozen? ⟨w.heap.size, 0, none⟩ = false := frozen_of_row _ _ _ _ _ HC.out.res
          have r3 : wr.frozen? ⟨w.heap.size, 1, none⟩ = false := frozen_of_row _ _ _ _ _ HC.out.res
          obtain ⟨wf, hwf⟩ : ∃ wf, (wr.setCell ⟨w.heap.size, 0, none⟩ (.slice (some ⟨g1, 0, none⟩) 286 286)).setCell ⟨w.heap.size, 1, none⟩ (.slice (some ⟨g2, 0, none⟩) 30 30) = wf := ⟨_, rfl⟩
          have hoth : ∀ k, k ≠ w.heap.size → wf.heap[k]? = wr.heap[k]? := fun k hk => by rw [← hwf, setCell_others _ _ _ _ _ hk, setCell_others _ _ _ _ _ hk]
          have HBF : Hid (Below w.heap.size w wf) := by rw [← hwf]; exact (HB.out.setCell (p := ⟨w.heap.size, 0, none⟩) (Nat.le_refl _) _).setCell (p := ⟨w.heap.size, 1, none⟩) (Nat.le_refl _) _
          have HLF : Hid (OI wf w.heap.size (.slice (some ⟨g1, 0, none⟩) 286 286) (pcL L)) := HC.out.lit.move fun k hk => hoth k (by simp [Value.ownBlock] at hk; omega)
          have HDF : Hid (OI wf w.heap.size (.slice (some ⟨g2, 0, none⟩) 30 30) (pcD D)) := HC.out.dist.move fun k hk => hoth k (by simp [Value.ownBlock] at hk; omega)
          have hfb : wf.heap[w.heap.size]? = some (.cells #[.slice (some ⟨g1, 0, none⟩) 286 286, .slice (some ⟨g2, 0, none⟩) 30 30] 41 (0, 0)) := by
            have h1 := heap_setCell_same wr w.heap.size 0 _ _ (.slice (some ⟨g1, 0, none⟩) 286 286) HC.out.res
            have h2 := heap_setCell_same _ w.heap.size 1 _ _ (.slice (some ⟨g2, 0, none⟩) 30 30) h1
            rw [hwf] at h2
            simpa using h2
          have f0 : wf.cell? ⟨w.heap.size, 0, none⟩ = some (.slice (some ⟨g1, 0, none⟩) 286 286) := by unfold World.cell?; rw [hfb]; rfl
          have f1 : wf.cell? ⟨w.heap.size, 1, none⟩ = some (.slice (some ⟨g2, 0, none⟩) 30 30) := by unfold World.cell?; rw [hfb]; rfl
          have HN2 : Hid (g1 ≠ g2) := hne.1
          clear hoth hfb HC hup hne HB HNE HW HGS
          go_wp2
          refine bodyPost_ret (v := .agg #[.slice (some ⟨g1, 0, none⟩) 286 286, .slice (some ⟨g2, 0, none⟩) 30 30]) (by simp [results, Tryd.results21, go_sem, f0, f1]) rfl ?_
          exact ⟨_, _, rfl, HLF.out, HDF.out, HN2.out, HBF.out⟩
end Go.Proofs.YtkmefeihkmbngaaDoor

