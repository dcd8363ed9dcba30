import Derived.Test.YtagikpkkbopcbaaDoorG11Shu
import Derived.WalkMore
namespace Go.Proofs.YtagikpkkbopcbaaDoor
open Go.RowKit Go.Maps
set_option maxRecDepth 20000
set_option linter.unusedVariables false
set_option linter.unusedSimpArgs false

def Pst (s : ByteArray) (w wr : World) (a : Option Addr) (n cp : Nat) (ws : List ByteArray) (k : Nat) : Prop :=
  n = ws.length ∧ ws.length ≤ k ∧ OT wr w.heap.size (.slice a n cp) ws ∧ (∀ r, Prs s k ws r → Prs s 0 [] r) ∧ Below w.heap.size w wr

def Pans (s : ByteArray) (w : World) (e : Ending) (w' : World) : Prop :=
  (Prs s 0 [] none ∧ e = .returned (.tuple #[.slice none 0 0, .bool false])) ∨ (∃ ws a cp, Prs s 0 [] (some ws) ∧ e = .returned (.tuple #[.slice a ws.length cp, .bool true]) ∧ OT w' w.heap.size (.slice a ws.length cp) ws)

theorem Pst.start (s : ByteArray) (w : World) : Pst s w w none 0 0 [] 0 := ⟨rfl, Nat.le_refl _, World.ownsRow_nil w _ _ _, fun r q => q, Below.refl _ _⟩

theorem Pst.blank {s : ByteArray} {w wr : World} {a : Option Addr} {n cp : Nat} {ws : List ByteArray} {k : Nat} (h : Pst s w wr a n cp ws k) (hk : k < s.size) (hb : bI s k = 32) : Pst s w wr a n cp ws (k + 1) :=
  ⟨h.1, by have := h.2.1; omega, h.2.2.1, fun r q => h.2.2.2.1 r (.blank hk hb q), h.2.2.2.2⟩

theorem Pst.low {s : ByteArray} {w wr w2 : World} {a : Option Addr} {n cp : Nat} {ws : List ByteArray} {k : Nat} (h : Pst s w wr a n cp ws k) (hb : Below wr.heap.size wr w2) : Pst s w w2 a n cp ws k :=
  ⟨h.1, h.2.1, h.2.2.1.below hb (Nat.le_refl _), h.2.2.2.1, h.2.2.2.2.trans (hb.mono h.2.2.2.2.size)⟩

theorem Pst.word {s : ByteArray} {w wr w3 : World} {a : Option Addr} {n cp : Nat} {ws : List ByteArray} {k : Nat} (h : Pst s w wr a n cp ws k) {u : ByteArray} {k' : Nat} (hk : k < s.size) (hb : bI s k ≠ 32) (hw : Wd s k (some (u, k'))) {o : Obj} {v3 : Value} (o3 : OT w3 w.heap.size v3 (ws ++ [u])) (g3 : (wr.alloc o).grownBy w3 (Value.slice a n cp).ownBlock) :
    ∃ a3 c3, v3 = .slice a3 (n + 1) c3 ∧ Pst s w w3 a3 (n + 1) c3 (ws ++ [u]) k' := by
  obtain ⟨h1, h2, h3, h4, h5⟩ := h
  obtain ⟨a3, c3, hv⟩ := o3.shape
  have e : (ws ++ [u]).length = n + 1 := by rw [h1]; simp
  have hg := hw.gt
  rw [e] at hv
  refine ⟨a3, c3, hv, e.symm, by rw [e, h1]; omega, by rw [← hv]; exact o3, fun r q => h4 r (.word hk hb hw q), ?_⟩
  exact (h5.alloc h5.size _).grown g3 (by have := h5.size; simp; omega) (fun q hq => (OT.lt h3 q hq).1)

theorem Pst.bad {s : ByteArray} {w wr : World} {a : Option Addr} {n cp : Nat} {ws : List ByteArray} {k : Nat} (h : Pst s w wr a n cp ws k) (hk : k < s.size) (hb : bI s k ≠ 32) (hw : Wd s k none) : Prs s 0 [] none := h.2.2.2.1 _ (.bad hk hb hw)

theorem Pst.ends {s : ByteArray} {w wr : World} {a : Option Addr} {n cp : Nat} {ws : List ByteArray} {k : Nat} (h : Pst s w wr a n cp ws k) (hk : s.size ≤ k) : Pans s w (.returned (.tuple #[.slice a n cp, .bool true])) wr := by
  refine .inr ⟨ws, a, cp, h.2.2.2.1 _ (.ends hk), by rw [h.1], by rw [← h.1]; exact h.2.2.1⟩

theorem new_cell (w : World) (u : ByteArray) : (w.alloc (.cells #[.string u] 9)).cell? ⟨w.heap.size, 0, none⟩ = some (.string u) := by
  unfold World.cell?
  rw [heap_alloc_new w (.cells #[.string u] 9)]
  rfl

set_option maxHeartbeats 16000000 in
theorem vparse_any (s : ByteArray) (w : World) (hs : s.size ≤ 1048576) : Calls Tryd.prog 5 #[.string s] w fun e w' => Pans s w e w' ∧ Below w.heap.size w w' := by
  go_enter Tryd.func5, Tryd.ntmps5
  go_wp2
  go_loopw [4, 5] (fun v i wr => ∃ (a : Option Addr) (n cp : Nat) (ws : List ByteArray) (k : Nat), v = .slice a n cp ∧ i = .int .i64 (k : Int) ∧ k ≤ s.size ∧ Hid (Pst s w wr a n cp ws k)) (fun _ i _ => s.size - (intOf i).toNat)
  case atStart => exact ⟨none, 0, 0, [], 0, rfl, rfl, by omega, Pst.start s w⟩
  case round =>
    obtain ⟨a, n, cp, ws, k, rfl, rfl, hk, HP⟩ := hrel
    by_cases c : k < s.size
    case neg =>
      have c' : ¬ (k : Int) < (s.size : Int) := by omega
      have HF := hide (HP.out.ends (by omega))
      have HB := hide HP.out.2.2.2.2
      clear HP
      go_wp2
      go_ret2
      exact ⟨HF.out, HB.out⟩
    have x0 := fun wx => run_ix s k c _ rfl wx
    obtain ⟨b, HBB⟩ : ∃ b, Hid (bI s k = b) := ⟨_, rfl⟩
    rw [HBB.out] at x0
    by_cases d : b = 32
    · have HP2 := hide (HP.out.blank c (by rw [HBB.out]; exact d))
      subst d
      clear HP HBB
      go_wp2
      (try go_step3)
      (try go_wp2)
      go_roundw
      case rel => exact ⟨a, n, cp, ws, k + 1, rfl, by go_num, by omega, HP2⟩
      case measure => simp [intOf]; omega
    have d' : (b == 32) = false := by simpa using d
    have HD : Hid (bI s k ≠ 32) := by rw [HBB.out]; exact d
    have HLW : Hid (ws.length ≤ 1048576) := by have := HP.out.2.1; show _ ≤ _; omega
    by_cases q : b = 34
    · have HVQ := hide (vquoted_any s k wr c hs)
      have HQ34 : Hid (bI s k = 34) := by rw [HBB.out]; exact q
      subst q
      clear HBB
      go_wp2_with fail
      refine HVQ.out.mono ?_
      rintro e w1 ⟨⟨r, q1, q2⟩, hb1⟩
      rcases q2 with ⟨rfl, rfl⟩ | ⟨v, k2, rfl, rfl⟩
      · have HF := hide (HP.out.bad c HD.out (.noq HQ34.out q1))
        have HB := hide (HP.out.low hb1).2.2.2.2
        clear hb1 q1 HVQ HP
        go_wp2
        go_ret2
        exact ⟨.inl ⟨HF.out, rfl⟩, HB.out⟩
      · have hk2 := q1.ends_in _ _ rfl
        have HP1 := hide (HP.out.low hb1)
        have HQT := hide q1
        obtain ⟨h1, h2, h3⟩ := hk2
        clear hb1 q1 HVQ HP h3
        by_cases al : k2 < s.size
        · have x2 := fun wx => run_ix s k2 al _ rfl wx
          obtain ⟨b2, HB2⟩ : ∃ b, Hid (bI s k2 = b) := ⟨_, rfl⟩
          rw [HB2.out] at x2
          by_cases d2 : b2 = 32
          · have HWD := hide (Wd.qt HQ34.out HQT.out (fun z => z.2 (by rw [HB2.out]; exact d2)))
            subst d2
            clear HB2 HQT
            go_wp2_with (at_builtin; refine wpList_strs rfl _ _ rfl w.heap.size _ ws rfl (HP1.out.2.2.1.alloc _) ⟨w1.heap.size, 0, none⟩ _ (strOfNums v) rfl (new_cell w1 _) HLW.out (by have := HP1.out.2.2.2.2.size; simp; omega) ?_)
            intro v3 w3 o3 g3
            obtain ⟨a3, c3, rfl, hv⟩ := HP1.out.word c HD.out HWD.out o3 g3
            have HP3 := hide hv
            clear o3 g3 hv HP1 HWD
            go_wp2
            go_roundw
            case rel => exact ⟨a3, n + 1, c3, _, k2, rfl, rfl, by omega, HP3⟩
            case measure => simp [intOf]; omega
          · have d2' : (b2 != 32) = true := by simpa using d2
            have HF := hide (HP1.out.bad c HD.out (.nol HQ34.out HQT.out (fun z => z ⟨al, by rw [HB2.out]; exact d2⟩)))
            have HB := hide HP1.out.2.2.2.2
            clear HB2 HQT HP1
            go_wp2
            go_ret2
            exact ⟨.inl ⟨HF.out, rfl⟩, HB.out⟩
        · have al' : ¬ (k2 : Int) < (s.size : Int) := by omega
          have HWD := hide (Wd.qt HQ34.out HQT.out (fun z => al z.1))
          clear HQT
          go_wp2_with (at_builtin; refine wpList_strs rfl _ _ rfl w.heap.size _ ws rfl (HP1.out.2.2.1.alloc _) ⟨w1.heap.size, 0, none⟩ _ (strOfNums v) rfl (new_cell w1 _) HLW.out (by have := HP1.out.2.2.2.2.size; simp; omega) ?_)
          intro v3 w3 o3 g3
          obtain ⟨a3, c3, rfl, hv⟩ := HP1.out.word c HD.out HWD.out o3 g3
          have HP3 := hide hv
          clear o3 g3 hv HP1 HWD
          go_wp2
          go_roundw
          case rel => exact ⟨a3, n + 1, c3, _, k2, rfl, rfl, by omega, HP3⟩
          case measure => simp [intOf]; omega
    · have q' : (b == 34) = false := by simpa using q
      have HVB := hide (vbare_any s k wr (by omega) hs)
      have HQ34 : Hid (bI s k ≠ 34) := by rw [HBB.out]; exact q
      clear HBB
      go_wp2_with fail
      refine HVB.out.mono ?_
      rintro e w1 ⟨⟨k2, q1, rfl⟩, hw1⟩
      rw [hw1]
      have h1 := q1.ge
      have h2 := q1.le
      have HQT := hide q1
      clear q1 HVB hw1
      by_cases z0 : k2 = k
      · have HF := hide (HP.out.bad c HD.out (.nob HQ34.out HQT.out (.inl z0)))
        have HB := hide HP.out.2.2.2.2
        clear HQT HP
        subst z0
        go_wp2
        go_ret2
        exact ⟨.inl ⟨HF.out, rfl⟩, HB.out⟩
      have z0' : ((k2 : Int) == (k : Int)) = false := by simp; omega
      by_cases al : k2 < s.size
      · have x2 := fun wx => run_ix s k2 al _ rfl wx
        obtain ⟨b2, HB2⟩ : ∃ b, Hid (bI s k2 = b) := ⟨_, rfl⟩
        rw [HB2.out] at x2
        by_cases d2 : b2 = 32
        · have HWD := hide (Wd.br HQ34.out HQT.out z0 (fun z => z.2 (by rw [HB2.out]; exact d2)))
          subst d2
          clear HB2 HQT
          go_wp2_with (at_builtin; refine wpList_strs rfl _ _ rfl w.heap.size _ ws rfl (HP.out.2.2.1.alloc _) ⟨wr.heap.size, 0, none⟩ _ (s.extract k k2) rfl (new_cell wr _) HLW.out (by have := HP.out.2.2.2.2.size; simp; omega) ?_)
          intro v3 w3 o3 g3
          obtain ⟨a3, c3, rfl, hv⟩ := HP.out.word c HD.out HWD.out o3 g3
          have HP3 := hide hv
          clear o3 g3 hv HP HWD
          go_wp2
          go_roundw
          case rel => exact ⟨a3, n + 1, c3, _, k2, rfl, rfl, by omega, HP3⟩
          case measure => simp [intOf]; omega
        · have d2' : (b2 != 32) = true := by simpa using d2
          have HF := hide (HP.out.bad c HD.out (.nob HQ34.out HQT.out (.inr (fun z => z ⟨al, by rw [HB2.out]; exact d2⟩))))
          have HB := hide HP.out.2.2.2.2
          clear HB2 HQT HP
          go_wp2
          go_ret2
          exact ⟨.inl ⟨HF.out, rfl⟩, HB.out⟩
      · have al' : ¬ (k2 : Int) < (s.size : Int) := by omega
        have HWD := hide (Wd.br HQ34.out HQT.out z0 (fun z => al z.1))
        clear HQT
        go_wp2_with (at_builtin; refine wpList_strs rfl _ _ rfl w.heap.size _ ws rfl (HP.out.2.2.1.alloc _) ⟨wr.heap.size, 0, none⟩ _ (s.extract k k2) rfl (new_cell wr _) HLW.out (by have := HP.out.2.2.2.2.size; simp; omega) ?_)
        intro v3 w3 o3 g3
        obtain ⟨a3, c3, rfl, hv⟩ := HP.out.word c HD.out HWD.out o3 g3
        have HP3 := hide hv
        clear o3 g3 hv HP HWD
        go_wp2
        go_roundw
        case rel => exact ⟨a3, n + 1, c3, _, k2, rfl, rfl, by omega, HP3⟩
        case measure => simp [intOf]; omega
end Go.Proofs.YtagikpkkbopcbaaDoor

