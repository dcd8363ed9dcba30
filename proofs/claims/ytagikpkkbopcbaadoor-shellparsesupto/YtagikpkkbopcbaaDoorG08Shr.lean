import Derived.Test.YtagikpkkbopcbaaDoorG07Shq
import Derived.Lib.IfaceEq
namespace Go.Proofs.YtagikpkkbopcbaaDoor
open Go.RowKit Go.Maps
set_option maxRecDepth 20000
set_option linter.unusedVariables false
set_option linter.unusedSimpArgs false

def Esy (W : World) : Prop := ∃ ev, W.cell? ⟨0, 0, none⟩ = some ev ∧ (ev = .nilIface ∨ ∃ te pe, ev = .iface te pe)

theorem Esy.below {W w : World} (h : Esy W) (hb : Below W.heap.size W w) : Esy w := by
  obtain ⟨ev, h1, h2⟩ := h
  exact ⟨ev, (hb.cell (World.block_lt_of_cell? _ _ h1)).trans h1, h2⟩

set_option maxHeartbeats 4000000 in
theorem toError_any (fn s : ByteArray) (w : World) (hlim : s.size ≤ 1048576) (h : Esy w) :
    Calls Tryd.prog 17 #[.string fn, .string s, .int .i64 16, .int .i64 8, .iface 41 (.int .i64 2)] w fun e w' => ∃ N, e = .returned (.iface 44 (.pointer (some ⟨N, 0, none⟩))) ∧ Below w.heap.size w w' := by
  obtain ⟨ev, h1, h2⟩ := h
  have HS := hide (syntaxError_any fn s ev w hlim h1 h2)
  have heq : ∀ W, (binOp .eql 37 (.iface 41 (.int .i64 2)) (.iface 41 (.int .i64 2))).run Tryd.prog W = .ok (.bool true) W := fun W => Lib.run_eql_iface_int (P := Tryd.prog) W 2 2 Tryd.underlying37 (by kernel_rfl) Tryd.underlying41
  clear h1 h2
  go_enter Tryd.func17, Tryd.ntmps17
  go_wp2_with fail
  refine HS.out.mono ?_
  rintro e w2 ⟨N, rfl, hb⟩
  have HB := hide hb
  clear hb HS
  go_wp2
  go_ret
  exact ⟨N, rfl, HB.out⟩

set_option maxHeartbeats 4000000 in
theorem pu_any (s : ByteArray) (w : World) (hs : s.size = 2) (h : Esy w) : Calls Tryd.prog 15 #[.string s, .int .i64 16, .int .i64 8] w fun e w' => ((0 ≤ hx (bI s 0) ∧ 0 ≤ hx (bI s 1) ∧ e = .returned (.tuple #[.int .u64 (16 * hx (bI s 0) + hx (bI s 1)), .nilIface])) ∨ (¬ (0 ≤ hx (bI s 0) ∧ 0 ≤ hx (bI s 1)) ∧ ∃ N, e = .returned (.tuple #[.int .u64 0, .iface 44 (.pointer (some ⟨N, 0, none⟩))]))) ∧ Below w.heap.size w w' := by
  have HI := hide (ipu_any s w hs)
  have HE := hide h
  obtain ⟨A, HA⟩ : ∃ X, Hid (hx (bI s 0) = X) := ⟨_, rfl⟩
  obtain ⟨B, HB⟩ : ∃ X, Hid (hx (bI s 1) = X) := ⟨_, rfl⟩
  rw [HA.out, HB.out] at HI ⊢
  clear h
  go_enter Tryd.func15, Tryd.ntmps15
  go_wp2_with fail
  refine HI.out.mono ?_
  rintro e w1 ⟨(⟨h0, h1, rfl⟩ | ⟨h0, rfl⟩), hb⟩
  · have HF := hide (And.intro h0 (And.intro h1 hb))
    clear h0 h1 hb HI
    go_wp2
    go_ret2
    exact ⟨.inl ⟨HF.out.1, HF.out.2.1, rfl⟩, HF.out.2.2⟩
  · have HF := hide (And.intro h0 hb)
    have HT := hide (toError_any ⟨#[80, 97, 114, 115, 101, 85, 105, 110, 116]⟩ s w1 (by omega) (HE.out.below hb))
    clear h0 hb HI
    go_wp2_with fail
    refine HT.out.mono ?_
    rintro e w2 ⟨N, rfl, hb2⟩
    have HB2 := hide hb2
    clear hb2 HT
    go_wp2
    go_ret2
    exact ⟨.inr ⟨HF.out.1, N, rfl⟩, HF.out.2.trans (HB2.out.mono HF.out.2.size)⟩

set_option maxHeartbeats 4000000 in
theorem letterAhead_any (t : ByteArray) (w : World) (h0 : 0 < t.size) (hs : t.size ≤ 1048576) (h : Esy w) : Calls Tryd.prog 14 #[.string t] w fun e w' => e = .returned (.tuple #[.int .u8 (ltr t 0).1, .int .i64 ((ltr t 0).2 : Int)]) ∧ Below w.heap.size w w' := by
  have x0 := fun wx => run_ix t 0 h0 0 rfl wx
  have HL : Hid (ltr t 0 = if bI t 0 < 32 then (0, 0) else if bI t 0 ≠ 92 then (bI t 0, 1) else if 1 < t.size ∧ (bI t 1 = 34 ∨ bI t 1 = 92) then (bI t 1, 2) else if 3 < t.size ∧ bI t 1 = 120 ∧ 0 ≤ hx (bI t 2) ∧ 0 ≤ hx (bI t 3) then (16 * hx (bI t 2) + hx (bI t 3), 4) else (0, 0)) := by
    show _ = _
    unfold ltr
    simp only [Nat.zero_add]
  obtain ⟨c, hc⟩ : ∃ c, bI t 0 = c := ⟨_, rfl⟩
  rw [hc] at x0 HL
  clear hc
  by_cases c1 : c < 32
  · rw [if_pos c1] at HL
    go_enter Tryd.func14, Tryd.ntmps14
    go_wp2
    go_ret2
    rw [HL.out]
    exact ⟨rfl, Below.refl _ _⟩
  rw [if_neg c1] at HL
  by_cases c2 : c = 92
  case neg =>
    rw [if_pos c2] at HL
    have c2' : (c != 92) = true := by simpa using c2
    go_enter Tryd.func14, Tryd.ntmps14
    go_wp2
    go_ret2
    rw [HL.out]
    exact ⟨rfl, Below.refl _ _⟩
  rw [if_neg (by simpa using c2)] at HL
  subst c2
  by_cases c3 : 1 < t.size
  case neg =>
    have c3' : ¬ 1 < (t.size : Int) := by omega
    have c4' : ¬ 3 < (t.size : Int) := by omega
    rw [if_neg (fun q => c3 q.1), if_neg (fun q => c3 (by have := q.1; omega))] at HL
    go_enter Tryd.func14, Tryd.ntmps14
    go_wp2
    go_ret2
    rw [HL.out]
    exact ⟨rfl, Below.refl _ _⟩
  have c3' : 1 < (t.size : Int) := by omega
  have x1 := fun wx => run_ix t 1 c3 1 rfl wx
  obtain ⟨d, hd⟩ : ∃ d, bI t 1 = d := ⟨_, rfl⟩
  rw [hd] at x1 HL
  clear hd
  by_cases c4 : d = 34
  · rw [if_pos ⟨c3, .inl c4⟩] at HL
    subst c4
    go_enter Tryd.func14, Tryd.ntmps14
    go_wp2
    go_ret2
    rw [HL.out]
    exact ⟨rfl, Below.refl _ _⟩
  have c4' : (d == 34) = false := by simpa using c4
  by_cases c5 : d = 92
  · rw [if_pos ⟨c3, .inr c5⟩] at HL
    subst c5
    go_enter Tryd.func14, Tryd.ntmps14
    go_wp2
    go_ret2
    rw [HL.out]
    exact ⟨rfl, Below.refl _ _⟩
  have c5' : (d == 92) = false := by simpa using c5
  rw [if_neg (fun q => by rcases q.2 with q | q; exact c4 q; exact c5 q)] at HL
  by_cases c6 : 3 < t.size
  case neg =>
    have c6' : ¬ 3 < (t.size : Int) := by omega
    rw [if_neg (fun q => c6 q.1)] at HL
    go_enter Tryd.func14, Tryd.ntmps14
    go_wp2
    go_ret2
    rw [HL.out]
    exact ⟨rfl, Below.refl _ _⟩
  have c6' : 3 < (t.size : Int) := by omega
  by_cases c7 : d = 120
  case neg =>
    have c7' : (d == 120) = false := by simpa using c7
    rw [if_neg (fun q => c7 q.2.1)] at HL
    go_enter Tryd.func14, Tryd.ntmps14
    go_wp2
    go_ret2
    rw [HL.out]
    exact ⟨rfl, Below.refl _ _⟩
  have e2 : bI (t.extract 2 4) 0 = bI t 2 := by
    rw [bI_at _ 0 (by simp [ByteArray.size_extract]; omega), bI_at _ 2 (by omega)]
    simp [ByteArray.getElem_extract]
  have e3 : bI (t.extract 2 4) 1 = bI t 3 := by
    rw [bI_at _ 1 (by simp [ByteArray.size_extract]; omega), bI_at _ 3 (by omega)]
    simp [ByteArray.getElem_extract]
  have HP := hide (pu_any (t.extract 2 4) w (by simp [ByteArray.size_extract]; omega) h)
  rw [e2, e3] at HP
  have hA := hx_le (bI t 2)
  have hB := hx_le (bI t 3)
  obtain ⟨A, HA⟩ : ∃ X, Hid (hx (bI t 2) = X) := ⟨_, rfl⟩
  obtain ⟨B, HB⟩ : ∃ X, Hid (hx (bI t 3) = X) := ⟨_, rfl⟩
  rw [HA.out] at HP HL hA
  rw [HB.out] at HP HL hB
  have HL2 : Hid (ltr t 0 = if 0 ≤ A ∧ 0 ≤ B then (16 * A + B, 4) else (0, 0)) := by
    show _ = _
    rw [HL.out]
    by_cases q : 0 ≤ A ∧ 0 ≤ B
    · rw [if_pos ⟨c6, c7, q.1, q.2⟩, if_pos q]
    · rw [if_neg (fun z => q z.2.2), if_neg q]
  clear HL e2 e3 h
  subst c7
  go_enter Tryd.func14, Tryd.ntmps14
  go_wp2_with fail
  refine HP.out.mono ?_
  rintro e w1 ⟨(⟨h1, h2, rfl⟩ | ⟨h1, N, rfl⟩), hb⟩
  · have HF := hide hb
    rw [if_pos ⟨h1, h2⟩] at HL2
    obtain ⟨V, hV⟩ : ∃ V, 16 * A + B = V := ⟨_, rfl⟩
    have v0 : 0 ≤ V := by omega
    have v1 : V ≤ 255 := by omega
    rw [hV] at HL2 ⊢
    clear hb HP hV
    go_wp2
    go_ret2
    rw [HL2.out]
    exact ⟨rfl, HF.out⟩
  · have HF := hide hb
    rw [if_neg h1] at HL2
    clear hb HP h1
    go_wp2
    go_ret2
    rw [HL2.out]
    exact ⟨rfl, HF.out⟩
end Go.Proofs.YtagikpkkbopcbaaDoor

