import Derived.Test.YtagikpkkbopcbaaDoorG09Shs
import Derived.Deep.AppendLies
namespace Go.Proofs.YtagikpkkbopcbaaDoor
open Go.RowKit Go.Maps
set_option maxRecDepth 20000
set_option linter.unusedVariables false
set_option linter.unusedSimpArgs false

theorem step_call1 {P : Program} {ops : Array Oper} {o : Oper} {a : Act} {w : World} {K : Act → World → Prop} {Q : Exit → Act → World → Prop} {E : Prop} (hgd : o.guard = none) (x0 : Operand) (t0 : TypeId) (f : FuncId)
    (ho : o.op = .call { callee := .value (.func f), args := #[x0], argTypes := #[t0] }) (hcall : ∀ args w, (callFunc f args).run P w = .ok (.enter f args) w) (v0 : Value) (h0 : a.eval x0 = v0) {R : Value → World → Prop}
    (hc : Calls P f #[v0] w fun e w' => ∃ u, e = .returned u ∧ R u w') (h : ∀ v w', R v w' → K (a.put o.dst v) w') :
    if Region.wanted o (yielded ops a.tmps) = true then Oper.wp P o a w K Q else E := by
  have hw : Region.wanted o (yielded ops a.tmps) = true := by simp [Region.wanted, hgd]
  rw [if_pos hw]
  have hrun : (execOp a.eval o).run P w = .ok (.enter f #[v0]) w := by
    obtain ⟨dst, op, type, pos, after, guard⟩ := o
    simp only [] at ho
    subst ho
    rw [execOp_call_go, hcall]
    simp [h0]
  unfold Oper.wp
  rw [hrun, Oper.upon_enter]
  refine hc.mono fun e w'' hh => ?_
  obtain ⟨v, rfl, hr⟩ := hh
  exact h _ _ hr

theorem step_app20 {ops : Array Oper} {o : Oper} {a : Act} {w : World} {Kk : Act → World → Prop} {Q : Exit → Act → World → Prop} {E : Prop}
    (hg : o.guard = none) (s x : Operand) (hop : o.op = Op.call { callee := Callee.builtin Builtin.append, args := #[s, x], argTypes := #[30, 30] })
    (v xv : Value) (l news : List Int) (hs : a.eval s = v) (hx : a.eval x = xv) (base : Nat) (hown : OB w base v l) (hbase : base ≤ w.heap.size) (hsrc : Src Tryd.prog 1 30 xv news.length (news.map (Value.int .u8)) w) (hne : news ≠ []) (hb : l.length + news.length ≤ 140737488355328)
    (hK : ∀ g cap w', OB w' base (.slice (some ⟨g, 0, none⟩) (l.length + news.length) cap) (l ++ news) → Grew w w' v (.slice (some ⟨g, 0, none⟩) (l.length + news.length) cap) → Kk (a.put o.dst (.slice (some ⟨g, 0, none⟩) (l.length + news.length) cap)) w') :
    if Region.wanted o (yielded ops a.tmps) = true then Oper.wp Tryd.prog o a w Kk Q else E := by
  have hw : Region.wanted o (yielded ops a.tmps) = true := by simp [Region.wanted, hg]
  rw [if_pos hw]
  obtain ⟨v', w', hr, h2, h3⟩ := run_app w base 30 o.type v xv l news hown hsrc hb hbase
  have hn : 0 < news.length := List.length_pos_iff.2 hne
  obtain ⟨g, cap, rfl, _, _⟩ := World.ownsRow.form h2 (by rw [List.length_append]; omega)
  rw [List.length_append] at h2 h3 hr
  unfold Oper.wp
  simp [execOp, hop, resolve, invoke, builtin, hs, hx, hr, Result.andThen]
  refine hK g cap w' ?_ h3
  exact h2

def Vans (r : Option (List Int × Nat)) (e : Ending) : Prop :=
  (r = none ∧ e = .returned (.tuple #[.string ⟨#[]⟩, .int .i64 (-1)])) ∨ (∃ v k, r = some (v, k) ∧ e = .returned (.tuple #[.string (strOfNums v), .int .i64 (k : Int)]))

def Vst (s : ByteArray) (i : Nat) (w wr : World) (a : Option Addr) (n cp : Nat) (l : List Int) (k : Nat) : Prop :=
  n = l.length ∧ l.length ≤ k ∧ OB wr w.heap.size (.slice a n cp) l ∧ (∀ r, Qt s k l r → Qt s (i + 1) [] r) ∧ Below w.heap.size w wr

theorem Vst.next {s : ByteArray} {i : Nat} {w wr w3 : World} {a : Option Addr} {n cp : Nat} {l : List Int} {k : Nat} (h : Vst s i w wr a n cp l k) {C : Int} {N : Nat} (hN : ltr s k = (C, N)) (hz : N ≠ 0) (hc : k < s.size) (hd : bI s k ≠ 34) {v3 : Value} (o3 : OB w3 w.heap.size v3 (l ++ [C])) (g3 : Grew (wr.alloc (.cells #[.int .u8 C] 5)) w3 (.slice a n cp) v3) :
    ∃ a3 c3, v3 = .slice a3 (n + 1) c3 ∧ Vst s i w w3 a3 (n + 1) c3 (l ++ [C]) (k + N) := by
  obtain ⟨h1, h2, h3, h4, h5⟩ := h
  obtain ⟨a3, c3, hv⟩ := o3.shape
  have e : (l ++ [C]).length = n + 1 := by rw [h1]; simp
  rw [e] at hv
  refine ⟨a3, c3, hv, e.symm, by rw [e, h1]; omega, by rw [← hv]; exact o3, fun r q => h4 r (.step hc hd (by rw [hN]; exact hz) (by rw [hN]; exact q)), ?_⟩
  exact (h5.alloc h5.size _).grown g3.by (by have := h5.size; simp; omega) (fun q hq => (OB.lt h3 q hq).1)

set_option maxHeartbeats 16000000 in
theorem vquoted_any (s : ByteArray) (i : Nat) (w : World) (hi : i < s.size) (hs : s.size ≤ 1048576) : Calls Tryd.prog 8 #[.string s, .int .i64 (i : Int)] w fun e w' => (∃ r, Qt s (i + 1) [] r ∧ Vans r e) ∧ Below w.heap.size w w' := by
  go_enter Tryd.func8, Tryd.ntmps8
  go_wp2
  go_loopw [6, 7] (fun v j wr => ∃ (a : Option Addr) (n cp : Nat) (l : List Int) (k : Nat), v = .slice a n cp ∧ j = .int .i64 (k : Int) ∧ k ≤ s.size ∧ Hid (Vst s i w wr a n cp l k)) (fun _ j _ => s.size - (intOf j).toNat)
  case atStart => exact ⟨none, 0, 0, [], i + 1, rfl, by go_num, by omega, ⟨rfl, by simp, World.ownsRow_nil w _ _ _, fun r q => q, Below.refl _ _⟩⟩
  case round =>
    obtain ⟨a, n, cp, l, k, rfl, rfl, hk, HV⟩ := hrel
    have hlk : l.length ≤ 1048576 := by have := HV.out.2.1; omega
    have HLK := hide hlk
    clear hlk
    by_cases c : k < s.size
    case neg =>
      have c' : ¬ (k : Int) < (s.size : Int) := by omega
      go_wp2
      go_ret2
      exact ⟨⟨none, HV.out.2.2.2.1 _ (.ends (by omega)), .inl ⟨rfl, rfl⟩⟩, HV.out.2.2.2.2⟩
    have x0 := fun wx => run_ix s k c _ rfl wx
    obtain ⟨y0, y1⟩ := bI_in s k
    obtain ⟨b, HBB⟩ : ∃ b, Hid (bI s k = b) := ⟨_, rfl⟩
    rw [HBB.out] at x0 y0 y1
    by_cases d : b = 34
    · have HQ1 : Hid (Qt s (i + 1) [] (some (l, k + 1))) := HV.out.2.2.2.1 _ (.quote c (by rw [HBB.out]; exact d))
      subst d
      have hcv : (convert 30 9 (.slice a n cp)).run Tryd.prog wr = .ok (.string (strOfNums l)) wr := sb_convert HV.out.2.2.1.sb
      clear HBB
      go_wp2
      go_ret2
      exact ⟨⟨_, HQ1.out, .inr ⟨l, k + 1, rfl, rfl⟩⟩, HV.out.2.2.2.2⟩
    have d' : (b == 34) = false := by simpa using d
    have HD : Hid (bI s k ≠ 34) := by rw [HBB.out]; exact d
    have HL : Hid (ltr s k = if b < 32 then (0, 0) else if b ≠ 92 then (b, 1) else if k + 1 < s.size ∧ (bI s (k + 1) = 34 ∨ bI s (k + 1) = 92) then (bI s (k + 1), 2) else if k + 3 < s.size ∧ bI s (k + 1) = 120 ∧ 0 ≤ hx (bI s (k + 2)) ∧ 0 ≤ hx (bI s (k + 3)) then (16 * hx (bI s (k + 2)) + hx (bI s (k + 3)), 4) else (0, 0)) := by
      show _ = _
      rw [← HBB.out]
      rfl
    clear HBB
    have HBAD : Hid ((ltr s k).2 = 0 → Qt s (i + 1) [] none) := fun q => HV.out.2.2.2.1 _ (.bad c HD.out q)
    have HBE := hide HV.out.2.2.2.2
    by_cases c1 : b < 32
    · rw [if_pos c1] at HL
      go_wp2
      go_ret2
      exact ⟨⟨none, HBAD.out (by rw [HL.out]), .inl ⟨rfl, rfl⟩⟩, HBE.out⟩
    rw [if_neg c1] at HL
    have HOB := hide HV.out.2.2.1
    by_cases c2 : b = 92
    case neg =>
      have c2' : (b != 92) = true := by simpa using c2
      rw [if_pos c2] at HL
      go_wp2_with (at_builtin; refine wpList_app rfl _ _ 30 rfl w.heap.size _ _ l [b] rfl (HOB.out.alloc _) rfl (built_src wr [b]) (by have := HLK.out; simp; omega) (by have := HBE.out.size; simp; omega) ?_)
      intro v3 w3 o3 g3
      obtain ⟨a3, c3, rfl, hv⟩ := HV.out.next HL.out (by decide) c HD.out o3 g3
      have HV3 := hide hv
      clear o3 g3 hv HV HOB
      go_wp2
      go_roundw
      case rel => exact ⟨a3, n + 1, c3, l ++ [b], k + 1, rfl, by go_num, by omega, HV3⟩
      case measure => simp [intOf]; omega
    rw [if_neg (by simpa using c2)] at HL
    subst c2
    by_cases c3 : k + 1 < s.size
    case neg =>
      have c3' : ¬ (k : Int) + 1 < (s.size : Int) := by omega
      have c4' : ¬ (k : Int) + 3 < (s.size : Int) := by omega
      rw [if_neg (fun q => c3 q.1), if_neg (fun q => c3 (by have := q.1; omega))] at HL
      go_wp2
      go_ret2
      exact ⟨⟨none, HBAD.out (by rw [HL.out]), .inl ⟨rfl, rfl⟩⟩, HBE.out⟩
    have c3' : (k : Int) + 1 < (s.size : Int) := by omega
    have x1 := fun wx => run_ix s (k + 1) c3 ((k : Int) + 1) (by omega) wx
    obtain ⟨d1, hd1⟩ : ∃ d, bI s (k + 1) = d := ⟨_, rfl⟩
    have z1 := bI_in s (k + 1)
    rw [hd1] at x1 HL z1
    obtain ⟨z1a, z1b⟩ := z1
    clear hd1
    by_cases c4 : d1 = 34 ∨ d1 = 92
    · rw [if_pos ⟨c3, c4⟩] at HL
      rcases c4 with rfl | rfl
      all_goals
        go_wp2_with (at_builtin; refine wpList_app rfl _ _ 30 rfl w.heap.size _ _ l [_] rfl (HOB.out.alloc _) rfl (built_src wr [_]) (by have := HLK.out; simp; omega) (by have := HBE.out.size; simp; omega) ?_)
        intro v3 w3 o3 g3
        obtain ⟨a3, c3, rfl, hv⟩ := HV.out.next HL.out (by decide) c HD.out o3 g3
        have HV3 := hide hv
        clear o3 g3 hv HV HOB
        go_wp2
        go_roundw
        case rel => exact ⟨a3, n + 1, c3, _, k + 2, rfl, by go_num, by omega, HV3⟩
        case measure => simp [intOf]; omega
    have c4a : (d1 == 34) = false := by simp; omega
    have c4b : (d1 == 92) = false := by simp; omega
    rw [if_neg (fun q => c4 q.2)] at HL
    by_cases c6 : k + 3 < s.size
    case neg =>
      have c6' : ¬ (k : Int) + 3 < (s.size : Int) := by omega
      rw [if_neg (fun q => c6 q.1)] at HL
      go_wp2
      go_ret2
      exact ⟨⟨none, HBAD.out (by rw [HL.out]), .inl ⟨rfl, rfl⟩⟩, HBE.out⟩
    have c6' : (k : Int) + 3 < (s.size : Int) := by omega
    by_cases c7 : d1 = 120
    case neg =>
      have c7' : (d1 == 120) = false := by simpa using c7
      rw [if_neg (fun q => c7 q.2.1)] at HL
      go_wp2
      go_ret2
      exact ⟨⟨none, HBAD.out (by rw [HL.out]), .inl ⟨rfl, rfl⟩⟩, HBE.out⟩
    subst c7
    have x2 := fun wx => run_ix s (k + 2) (by omega) ((k : Int) + 2) (by omega) wx
    have x3 := fun wx => run_ix s (k + 3) c6 ((k : Int) + 3) (by omega) wx
    obtain ⟨d2, hd2⟩ : ∃ d, bI s (k + 2) = d := ⟨_, rfl⟩
    obtain ⟨d3, hd3⟩ : ∃ d, bI s (k + 3) = d := ⟨_, rfl⟩
    have z2 := bI_in s (k + 2)
    have z3 := bI_in s (k + 3)
    rw [hd2] at x2 HL z2
    rw [hd3] at x3 HL z3
    have hA := hx_le d2
    have hB := hx_le d3
    have HDG : Hid (∀ (q : Int) (wx : World), q = d2 ∨ q = d3 → Calls Tryd.prog 12 #[.int .u8 q] wx fun e w' => e = .returned (.int .i64 (hx q)) ∧ w' = wx) := fun q wx hq => by
      rcases hq with rfl | rfl
      · exact digit_any _ _ z2.1 z2.2
      · exact digit_any _ _ z3.1 z3.2
    obtain ⟨hA0, hA1⟩ := hA
    obtain ⟨hB0, hB1⟩ := hB
    obtain ⟨z2a, z2b⟩ := z2
    obtain ⟨z3a, z3b⟩ := z3
    clear hd2 hd3
    by_cases c8 : 0 ≤ hx d2
    case neg =>
      rw [if_neg (fun q => c8 q.2.2.1)] at HL
      go_wp2_with (go_at_call 12; refine (HDG.out _ _ (by first | exact .inl rfl | exact .inr rfl)).mono ?_; rintro e w9 ⟨rfl, hw9⟩; rw [hw9]; clear hw9)
      go_ret2
      exact ⟨⟨none, HBAD.out (by rw [HL.out]), .inl ⟨rfl, rfl⟩⟩, HBE.out⟩
    by_cases c9 : 0 ≤ hx d3
    case neg =>
      rw [if_neg (fun q => c9 q.2.2.2)] at HL
      go_wp2_with (go_at_call 12; refine (HDG.out _ _ (by first | exact .inl rfl | exact .inr rfl)).mono ?_; rintro e w9 ⟨rfl, hw9⟩; rw [hw9]; clear hw9)
      go_ret2
      exact ⟨⟨none, HBAD.out (by rw [HL.out]), .inl ⟨rfl, rfl⟩⟩, HBE.out⟩
    rw [if_pos ⟨c6, rfl, c8, c9⟩] at HL
    go_wp2_with (go_at_call 12; refine (HDG.out _ _ (by first | exact .inl rfl | exact .inr rfl)).mono ?_; rintro e w9 ⟨rfl, hw9⟩; rw [hw9]; clear hw9)
    have HVD : Hid (Vst s i w wr.drew a n cp l k) := ⟨HV.out.1, HV.out.2.1, HOB.out.below (Below.drew (Below.refl _ _)) (Nat.le_refl _), HV.out.2.2.2.1, HBE.out.trans ((Below.drew (Below.refl _ _)).mono HBE.out.size)⟩
    have HBD := hide HVD.out.2.2.2.2
    have HOD := hide HVD.out.2.2.1
    obtain ⟨X2, h2⟩ : ∃ X, hx d2 = X := ⟨_, rfl⟩
    obtain ⟨X3, h3⟩ : ∃ X, hx d3 = X := ⟨_, rfl⟩
    have HDH : Hid (∀ (q r : Int) (wx : World), (q = d2 ∧ r = X2) ∨ (q = d3 ∧ r = X3) → Calls Tryd.prog 12 #[.int .u8 q] wx fun e w' => e = .returned (.int .i64 r) ∧ w' = wx) := fun q r wx hq => by
      rcases hq with ⟨rfl, rfl⟩ | ⟨rfl, rfl⟩
      · rw [← h2]; exact HDG.out _ _ (.inl rfl)
      · rw [← h3]; exact HDG.out _ _ (.inr rfl)
    rw [h2] at HL hA0 hA1 c8
    rw [h3] at HL hB0 hB1 c9
    obtain ⟨Y, hY⟩ : ∃ Y, 16 * X2 = Y := ⟨_, rfl⟩
    obtain ⟨V, hV⟩ : ∃ V, Y + X3 = V := ⟨_, rfl⟩
    have hm1 : IntKind.i64.wrap (16 * X2) = Y := by rw [IntKind.wrap_i64]; omega
    have hm2 : IntKind.i64.wrap (Y + X3) = V := by rw [IntKind.wrap_i64]; omega
    have hm3 : IntKind.u8.wrap V = V := by rw [IntKind.wrap_u8]; omega
    have hv0 : 0 ≤ V := by omega
    have hv1 : V ≤ 255 := by omega
    rw [hY, hV] at HL
    clear HV HOB HBE HBAD h2 h3 hY hV HDG hA0 hA1 hB0 hB1 c8 c9
    have HC2 : Hid (∀ wx : World, Calls Tryd.prog 12 #[.int .u8 d2] wx fun e w' => ∃ u, e = .returned u ∧ (u = .int .i64 X2 ∧ w' = wx)) := fun wx => (HDH.out _ _ wx (.inl ⟨rfl, rfl⟩)).mono fun e w' h => ⟨_, h.1, rfl, h.2⟩
    have HC3 : Hid (∀ wx : World, Calls Tryd.prog 12 #[.int .u8 d3] wx fun e w' => ∃ u, e = .returned u ∧ (u = .int .i64 X3 ∧ w' = wx)) := fun wx => (HDH.out _ _ wx (.inr ⟨rfl, rfl⟩)).mono fun e w' h => ⟨_, h.1, rfl, h.2⟩
    have HOA : Hid (OB (wr.alloc (.cells #[.int .u8 V] 5)).drew w.heap.size (.slice a n cp) l) := HOD.out.alloc _
    have HSA : Hid (Src Tryd.prog 1 30 (.slice (some ⟨wr.heap.size, 0, none⟩) 1 1) 1 ([V].map (Value.int .u8)) (wr.alloc (.cells #[.int .u8 V] 5)).drew) := built_src wr.drew [V]
    have hk2 : IntKind.i64.wrap ((k : Int) + 2) = (k : Int) + 2 := by rw [IntKind.wrap_i64]; omega
    have hk3 : IntKind.i64.wrap ((k : Int) + 3) = (k : Int) + 3 := by rw [IntKind.wrap_i64]; omega
    have HSZ : Hid (w.heap.size ≤ (wr.alloc (.cells #[.int .u8 V] 5)).drew.heap.size) := by
      show w.heap.size ≤ (wr.alloc (.cells #[.int .u8 V] 5)).heap.size
      rw [size_alloc']
      have : w.heap.size ≤ wr.heap.size := HBD.out.size
      omega
    go_region_law (first
      | (refine step_call1 rfl _ _ 12 rfl Tryd.call12 (.int .u8 d2) ?_ (HC2.out _) ?_; (focus (simp [Act.eval, Act.put]; done)); rintro v9 w9 ⟨rfl, hw9⟩; rw [hw9]; clear hw9)
      | (refine step_call1 rfl _ _ 12 rfl Tryd.call12 (.int .u8 d3) ?_ (HC3.out _) ?_; (focus (simp [Act.eval, Act.put]; done)); rintro v9 w9 ⟨rfl, hw9⟩; rw [hw9]; clear hw9)
      | (refine step_app20 (by rfl) _ _ (by rfl) (.slice a n cp) (.slice (some ⟨wr.heap.size, 0, none⟩) 1 1) l [V] (by simp [Act.eval, Act.put]) (by simp [Act.eval, Act.put]) w.heap.size HOA.out HSZ.out HSA.out (by simp) (by have := HLK.out; simp; omega) ?_; intro g8 c8 w8 o8 g8'; have HO8 := hide o8; have HG8 := hide g8'; clear o8 g8'))
    all_goals
      obtain ⟨a3, c3, hv3, hv⟩ := HVD.out.next HL.out (by decide) c HD.out HO8.out HG8.out
      have HV3 := hide hv
      simp only [Value.slice.injEq] at hv3
      obtain ⟨rfl, hn, rfl⟩ := hv3
      have hn1 : l.length + 1 = n + 1 := by simpa using hn
      go_simp
      (try simp only [List.length_singleton, hn1])
      clear hn hn1 hv HO8 HG8 HVD HOD HOA HSA HC2 HC3
      go_wp2
      go_roundw
      case rel => exact ⟨_, n + 1, _, l ++ [V], k + 4, rfl, by go_num, by omega, HV3⟩
      case measure => simp [intOf]; omega
end Go.Proofs.YtagikpkkbopcbaaDoor

