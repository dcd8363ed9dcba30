import Derived.Test.YtmjdpfigkojolaaGreatDoorG30Vai
import Derived.Deep.DeepCutAuto
set_option linter.unusedSimpArgs false
namespace Go.Proofs.YtmjdpfigkojolaaGreatDoor
open Go.RowKit Go.Maps
set_option maxRecDepth 20000
set_option linter.unusedVariables false

variable {W w : World} {g r : Nat} {row : List Int} {p L : Nat} {out : List Int} {wh : List (Array Value)} {us : Int} {dn : Bool} {er : Int} {ys : List ((Nat → Nat) × Thing)}

set_option maxHeartbeats 16000000 in
theorem vblock (h : SX W w g r row p L out wh us dn er ys) (O : Xodr W) (hwp : wh.length ≤ p) :
    Calls Tryz.prog 51 #[.pointer (some ⟨g, 0, none⟩)] w fun e w' => ∃ E f k q o, Blk row L p out E f k q o ∧ e = .returned (.int .i64 E) ∧ ((E = 0 ∧ ∃ zs, SX W w' g r row q L o (wh ++ [#[.int .i64 k, .bool f, .int .i64 p, .int .i64 q, .int .i64 out.length, .int .i64 o.length]]) q f er (ys ++ zs)) ∨ (E ≠ 0 ∧ ∃ q' o' u' zs, SXe out W w' g r row q' L o' wh u' dn er (ys ++ zs))) := by
  obtain ⟨hbit, hp, hr28, hr8⟩ := h.rd
  have HBT := hide hbit
  have HO := hide O
  obtain ⟨a, c, aw, cw, hst, -, hoL, hL⟩ := h.cells
  obtain ⟨c0, -, c2, -⟩ := stO_cells hst
  obtain ⟨N, HN⟩ : ∃ N : Nat, Hid (N = out.length) := ⟨_, rfl⟩
  rw [← HN.out] at c2 hoL
  obtain ⟨KP, HP⟩ := h.push (pdO 0 false p 0 N 0)
  have HTX := hide (HP.below ((Below.refl _ _).drew))
  obtain ⟨KZ, HZ⟩ := h.push (pdO 0 false 0 0 0 0)
  have hgz : g < w.heap.size := World.block_lt_of_cell? _ _ c0
  have e0 : (w.alloc (.cells #[.int .i64 0, .bool false, .int .i64 0, .int .i64 0, .int .i64 0, .int .i64 0] 36)).cell? ⟨g, 0, none⟩ = some (.pointer (some ⟨r, 0, none⟩)) := by rw [((Below.refl w.heap.size w).alloc (Nat.le_refl _) _).cell hgz]; exact c0
  have e2 : (w.alloc (.cells #[.int .i64 0, .bool false, .int .i64 0, .int .i64 0, .int .i64 0, .int .i64 0] 36)).cell? ⟨g, 2, none⟩ = some (.slice a N c) := by rw [((Below.refl w.heap.size w).alloc (Nat.le_refl _) _).cell hgz]; exact c2
  have HAZ : Hid (Calls Tryz.prog 71 #[.pointer (some ⟨r, 0, none⟩)] (w.alloc (.cells #[.int .i64 0, .bool false, .int .i64 0, .int .i64 0, .int .i64 0, .int .i64 0] 36)).drew fun e w' => e = .returned (.int .i64 p) ∧ w' = (w.alloc (.cells #[.int .i64 0, .bool false, .int .i64 0, .int .i64 0, .int .i64 0, .int .i64 0] 36)).drew) := (HZ.below ((Below.refl _ _).drew)).at.2
  have HAT : Hid (Calls Tryz.prog 71 #[.pointer (some ⟨r, 0, none⟩)] w.drew fun e w' => e = .returned (.int .i64 p) ∧ w' = w.drew) := (h.below ((Below.refl _ _).drew)).at.2
  clear h HP HZ hst hgz O hbit
  go_enter Tryz.func51, Tryz.ntmps51
  go_wp2
  go_cut [3] (fun s3 wx => s3 = .pointer (some ⟨w.heap.size, 0, none⟩) ∧ Hid (SX W wx g r row p L out wh us dn er (ys ++ (KP, tb w.heap.size (pdO 0 false p 0 N 0)) :: [])))
  case first =>
    go_region_with (go_at_call 71; (with_reducible (first | refine HAT.out.mono ?_ | refine HAZ.out.mono ?_)); rintro e w2 ⟨rfl, hw2⟩; rw [hw2]; clear hw2)
    all_goals
      go_wp2_with fail
      go_meet
      exact ⟨rfl, HTX⟩
  case rest =>
  obtain ⟨rfl, HT1⟩ := hcut
  clear HTX HAT HAZ c0 c2 e0 e2
  obtain ⟨P, HPP⟩ : ∃ P, Hid (w.heap.size = P) := ⟨_, rfl⟩
  rw [HPP.out] at HT1
  rw [HPP.out]
  have HK1 := hide (vtake HT1.out 3 (by omega))
  obtain ⟨a1, x1, aw1, cw1, hst1, -, -, -⟩ := HT1.out.cells
  obtain ⟨b0, -⟩ := stO_cells hst1
  clear hst1
  go_wp2_with fail
  refine HK1.out.mono ?_
  rintro e w2 (⟨hp3, rfl, h2⟩ | ⟨hp3, rfl, hne, h2⟩)
  case inr =>
    obtain ⟨Y, HY⟩ : ∃ Y, Hid (Y = takeE row p (3 : Nat)) := ⟨_, rfl⟩
    obtain ⟨V, HV⟩ : ∃ V, Hid (V = takeV row p (3 : Nat)) := ⟨_, rfl⟩
    rw [← HY.out, ← HV.out]
    rw [← HY.out] at hne
    have hne' : (Y != 0) = true := by simpa using hne
    have HX := hide h2
    clear h2 b0 hne
    go_wp2
    go_ret
    exact ⟨80, false, 0, p, out, Blk.short hp3, rfl, .inr ⟨by decide, p, out, us, _, HX.out, [], (List.append_nil _).symm⟩⟩
  obtain ⟨hA1, hA2⟩ := ahead3 HBT.out hp3
  obtain ⟨v, HV⟩ : ∃ v, Hid (v = ahead row p 3) := ⟨_, rfl⟩
  have hv0 : 0 ≤ v := by rw [HV.out]; exact (ahead_bound HBT.out p 3).1
  have hv8 : v < 8 := by rw [HV.out]; exact (ahead_bound HBT.out p 3).2
  rw [← HV.out] at hA1 hA2
  rw [← HV.out]
  obtain ⟨f, hf⟩ : ∃ f : Bool, (v % 2 == 1) = f := ⟨_, rfl⟩
  have HF : Hid ((ahead row p 1 == 1) = f) := by rw [← hA1]; exact hf
  obtain ⟨m, hm⟩ : ∃ m : Int, v / 2 = m := ⟨_, rfl⟩
  have HM2 : Hid (ahead row (p + 1) 2 = m) := by rw [← hA2]; exact hm
  have hcases : m = 0 ∨ m = 1 ∨ m = 2 ∨ m = 3 := by omega
  obtain ⟨x0, x1', x2, x3, x4, x5, xf⟩ := pd_cells h2.box
  have h3 := h2.p1 f
  obtain ⟨y0, -, -, -, -, -, yf⟩ := pd_cells h3.box
  have h4 := h3.p0 m
  have z0 := (pd_cells h4.box).1
  obtain ⟨a4, x4', aw4, cw4, hst4, -, -, -⟩ := h4.cells
  obtain ⟨d0, -, -, -, d4, -, -, df⟩ := stO_cells hst4
  have HX4 := hide h4
  have HAT4 := hide h4.at.2
  have h5 := h4.used ((p + 3 : Nat) : Int)
  have z5 := (pd_cells h5.box).1
  have HX5 := hide h5
  clear h2 h3 h4 h5 hst4 hA1 hA2 b0 HK1
  rcases hcases with rfl | rfl | rfl | rfl
  · have HIN := hide (vstored HX5.out)
    go_wp2_with (go_at_call 71; refine HAT4.out.mono ?_; rintro e w6 ⟨rfl, hw6⟩; rw [hw6]; clear hw6)
    refine HIN.out.mono ?_
    rintro e wz ⟨E, q, o, hS, rfl, hz⟩
    have hBK : Blk row L p out E f 0 q o := by rw [← HF.out]; exact Blk.stored hp3 HM2.out hS
    replace hz : (E = 0 ∧ ∃ zs, SX W wz g r row q L o wh q dn er (ys ++ (KP, tb P (pdO 0 f p 0 N 0)) :: zs)) ∨ (E ≠ 0 ∧ ∃ q' o' u' zs, SXe out W wz g r row q' L o' wh u' dn er (ys ++ zs)) := by
      rcases hz with ⟨e0, hz⟩ | ⟨e0, q', o', u', hz⟩
      · exact .inl ⟨e0, [], hz⟩
      · exact .inr ⟨e0, q', o', u', _, hz⟩
    clear hS HIN
    rcases hz with ⟨rfl, hz⟩ | ⟨he, hz⟩
    case inr =>
      obtain ⟨q5, o5, u5, zs, hz⟩ := hz
      have HX := hide hz
      have HBK := hide hBK
      have he' : (E != 0) = true := by simpa using he
      have HE := hide he
      clear hz hBK he x0 x1' x2 x3 x4 x5 xf y0 yf z0 z5 d0 d4 df
      go_wp2
      go_ret
      exact ⟨E, f, 0, q, o, HBK.out, rfl, .inr ⟨HE.out, q5, o5, u5, _, HX.out⟩⟩
    obtain ⟨zs, hz⟩ := hz
    have HBK := hide hBK
    clear x0 x1' x2 x3 x4 x5 xf y0 yf z0 z5 d0 d4 df hBK HX4 HX5 HAT4
    obtain ⟨a5, x5, aw5, cw5, hst5, -, -, -⟩ := hz.cells
    obtain ⟨d0, -⟩ := stO_cells hst5
    obtain ⟨M, HM⟩ : ∃ M : Nat, Hid (M = o.length) := ⟨_, rfl⟩
    have HAT5 := hide hz.at.2
    obtain ⟨-, -, -, y3, -, -, yf⟩ := pd_cells hz.box
    have h6 := hz.p3 q
    obtain ⟨a6, x6, aw6, cw6, hst6, -, -, -⟩ := h6.cells
    obtain ⟨-, -, d2, -⟩ := stO_cells hst6
    rw [← HM.out] at d2
    obtain ⟨-, -, -, -, -, y5, yg⟩ := pd_cells h6.box
    have h7 := h6.p5 (M : Int)
    obtain ⟨w7, HW7⟩ : ∃ w7, Hid ((wz.setCell ⟨P, 3, none⟩ (.int .i64 q)).setCell ⟨P, 5, none⟩ (.int .i64 M) = w7) := ⟨_, rfl⟩
    rw [HW7.out] at h7
    obtain ⟨u0, u1, u2, u3, u4, u5, uf⟩ := pd_cells h7.box
    obtain ⟨aw, cw, t3, hor, hwl, hgo⟩ := h7.whole
    obtain ⟨K, HK⟩ : ∃ K : Nat, Hid (K = wh.length) := ⟨_, rfl⟩
    rw [← HK.out] at t3 hor hgo
    have hg7 : g < w7.heap.size := World.block_lt_of_cell? _ _ t3
    have t3' : (w7.alloc (.cells #[.int .i64 0, .bool f, .int .i64 p, .int .i64 q, .int .i64 N, .int .i64 M] 36)).cell? ⟨g, 3, none⟩ = some (.slice aw K cw) := by rw [((Below.refl w7.heap.size w7).alloc (Nat.le_refl _) _).cell hg7]; exact t3
    have HROW : Hid (∀ W' : World, W'.heap = (w7.alloc (.cells #[.int .i64 0, .bool f, .int .i64 p, .int .i64 q, .int .i64 N, .int .i64 M] 36)).heap → ORp 36 6 W' 0 (.slice aw K cw) wh ∧ W'.heap[w7.heap.size]? = some (.cells #[.int .i64 0, .bool f, .int .i64 p, .int .i64 q, .int .i64 N, .int .i64 M] 36 (0, 0))) := fun W' hW => ⟨hor.move fun k hk => by rw [hW]; exact Below.heap_alloc _ _ k (hor.lt k hk).2, by rw [hW]; exact heap_alloc_new _ _⟩
    have HBL : Hid (∀ W' : World, W'.heap = (w7.alloc (.cells #[.int .i64 0, .bool f, .int .i64 p, .int .i64 q, .int .i64 N, .int .i64 M] 36)).heap → W'.os = w7.os → W'.tape = w7.tape → W'.output = w7.output → Below w7.heap.size w7 W') := fun W' hW h1 h2 h3 => by
      have hb := (Below.refl w7.heap.size w7).alloc (Nat.le_refl _) (.cells #[.int .i64 0, .bool f, .int .i64 p, .int .i64 q, .int .i64 N, .int .i64 M] 36)
      exact ⟨h1.trans hb.os, h2.trans hb.tape, h3.trans hb.output, by rw [hW]; exact hb.size, fun k hk => by rw [hW]; exact hb.block k hk⟩
    have HWL := hide hwl
    have HKM : Hid (K + 1 = wh.length + 1) := by show _ = _; rw [HK.out]
    have HGO := hide hgo
    have HLE : Hid ((wh ++ [#[Value.int .i64 0, .bool f, .int .i64 p, .int .i64 q, .int .i64 N, .int .i64 M]]).length ≤ 268435456 ∧ K + 1 = (wh ++ [#[Value.int .i64 0, .bool f, .int .i64 p, .int .i64 q, .int .i64 N, .int .i64 M]]).length) := by
      show _ ∧ _
      rw [List.length_append, ← HK.out]
      have := HK.out
      simp
      omega
    clear hz h6 h7 hst5 hst6 hor hwl hgo hg7
    go_wp2_with (go_at_call 71; refine HAT5.out.mono ?_; rintro e w6 ⟨rfl, hw6⟩; rw [hw6]; clear hw6)
    rw [HW7.out]
    go_region_law (refine stepRowp (by rfl) _ _ (by rfl) 0 (.slice aw K cw) wh #[.int .i64 0, .bool f, .int .i64 p, .int .i64 q, .int .i64 N, .int .i64 M] w7.heap.size 1 K (K + 1) (0, 0) (by simp [Act.eval, Act.put]) (HROW.out _ (by rfl)).1 (by simp [Act.eval, Act.put]) (HROW.out _ (by rfl)).2 rfl (by simp [Value.oneCell']) HWL.out HKM.out (Nat.zero_le _) ?_; intro gg cap8 w8 ho8 hg8 hat8; obtain ⟨t6, t7, t8⟩ := HGO.out _ w8 gg _ cap8 _ (HBL.out _ (by rfl) (by rfl) (by rfl) (by rfl)) ho8 HLE.out.2 hg8 hat8; have HT8 := hide (t8 HLE.out.1); clear t8 ho8 hg8 hat8)
    all_goals
      obtain ⟨-, k1, -, -, -, -, -⟩ := pd_cells HT8.out.box
      obtain ⟨a9, x9, aw9, cw9, hst9, -, -, -⟩ := HT8.out.cells
      obtain ⟨-, -, -, -, -, k5, -, kf⟩ := stO_cells hst9
      have HTE := hide (HT8.out.done f)
      clear HT8 hst9 t6 t7 t3 t3' HROW HBL HGO HLE u0 u1 u2 u3 u4 u5 uf
      go_wp2
      go_ret
      exact ⟨0, f, 0, q, o, HBK.out, rfl, .inl ⟨rfl, _, by rw [← HN.out, ← HM.out]; exact HTE.out⟩⟩
  · have HFL := hide (vflit HX5.out)
    go_wp2_with (go_at_call 71; refine HAT4.out.mono ?_; rintro e w6 ⟨rfl, hw6⟩; rw [hw6]; clear hw6)
    refine HFL.out.mono ?_
    rintro e w6 ⟨b1, b2, K1, rfl, h6⟩
    have HFD := hide (vfdist h6)
    clear h6 HFL
    go_wp2_with fail
    refine HFD.out.mono ?_
    rintro e w7 ⟨b3, b4, K2, rfl, h7⟩
    have HSY := hide (vsymbols h7 _ _ FL FD (h7.isi _ (get_front (get_last _ _))) (h7.isi _ (get_last _ _)) fl_ok (by decide) (by decide))
    clear h7 HFD
    go_wp2_with fail
    refine HSY.out.mono ?_
    rintro e wz ⟨E, q, o, hS, rfl, hz⟩
    have hBK : Blk row L p out E f 1 q o := by rw [← HF.out]; exact Blk.fixed hp3 HM2.out hS
    replace hz : (E = 0 ∧ ∃ zs, SX W wz g r row q L o wh q dn er (ys ++ (KP, tb P (pdO 1 f p 0 N 0)) :: zs)) ∨ (E ≠ 0 ∧ ∃ q' o' u' zs, SXe out W wz g r row q' L o' wh u' dn er (ys ++ zs)) := by
      rcases hz with ⟨e0, zs, hz⟩ | ⟨e0, q', o', u', zs, hz⟩
      · exact .inl ⟨e0, _, by simpa only [List.append_assoc, List.cons_append, List.nil_append] using hz⟩
      · exact .inr ⟨e0, q', o', u', _, by simpa only [List.append_assoc, List.cons_append, List.nil_append] using hz⟩
    clear hS HSY
    rcases hz with ⟨rfl, hz⟩ | ⟨he, hz⟩
    case inr =>
      obtain ⟨q5, o5, u5, zs, hz⟩ := hz
      have HX := hide hz
      have HBK := hide hBK
      have he' : (E != 0) = true := by simpa using he
      have HE := hide he
      clear hz hBK he x0 x1' x2 x3 x4 x5 xf y0 yf z0 z5 d0 d4 df
      go_wp2
      go_ret
      exact ⟨E, f, 1, q, o, HBK.out, rfl, .inr ⟨HE.out, q5, o5, u5, _, HX.out⟩⟩
    obtain ⟨zs, hz⟩ := hz
    have HBK := hide hBK
    clear x0 x1' x2 x3 x4 x5 xf y0 yf z0 z5 d0 d4 df hBK HX4 HX5 HAT4
    obtain ⟨a5, x5, aw5, cw5, hst5, -, -, -⟩ := hz.cells
    obtain ⟨d0, -⟩ := stO_cells hst5
    obtain ⟨M, HM⟩ : ∃ M : Nat, Hid (M = o.length) := ⟨_, rfl⟩
    have HAT5 := hide hz.at.2
    obtain ⟨-, -, -, y3, -, -, yf⟩ := pd_cells hz.box
    have h6 := hz.p3 q
    obtain ⟨a6, x6, aw6, cw6, hst6, -, -, -⟩ := h6.cells
    obtain ⟨-, -, d2, -⟩ := stO_cells hst6
    rw [← HM.out] at d2
    obtain ⟨-, -, -, -, -, y5, yg⟩ := pd_cells h6.box
    have h7 := h6.p5 (M : Int)
    obtain ⟨w7, HW7⟩ : ∃ w7, Hid ((wz.setCell ⟨P, 3, none⟩ (.int .i64 q)).setCell ⟨P, 5, none⟩ (.int .i64 M) = w7) := ⟨_, rfl⟩
    rw [HW7.out] at h7
    obtain ⟨u0, u1, u2, u3, u4, u5, uf⟩ := pd_cells h7.box
    obtain ⟨aw, cw, t3, hor, hwl, hgo⟩ := h7.whole
    obtain ⟨K, HK⟩ : ∃ K : Nat, Hid (K = wh.length) := ⟨_, rfl⟩
    rw [← HK.out] at t3 hor hgo
    have hg7 : g < w7.heap.size := World.block_lt_of_cell? _ _ t3
    have t3' : (w7.alloc (.cells #[.int .i64 1, .bool f, .int .i64 p, .int .i64 q, .int .i64 N, .int .i64 M] 36)).cell? ⟨g, 3, none⟩ = some (.slice aw K cw) := by rw [((Below.refl w7.heap.size w7).alloc (Nat.le_refl _) _).cell hg7]; exact t3
    have HROW : Hid (∀ W' : World, W'.heap = (w7.alloc (.cells #[.int .i64 1, .bool f, .int .i64 p, .int .i64 q, .int .i64 N, .int .i64 M] 36)).heap → ORp 36 6 W' 0 (.slice aw K cw) wh ∧ W'.heap[w7.heap.size]? = some (.cells #[.int .i64 1, .bool f, .int .i64 p, .int .i64 q, .int .i64 N, .int .i64 M] 36 (0, 0))) := fun W' hW => ⟨hor.move fun k hk => by rw [hW]; exact Below.heap_alloc _ _ k (hor.lt k hk).2, by rw [hW]; exact heap_alloc_new _ _⟩
    have HBL : Hid (∀ W' : World, W'.heap = (w7.alloc (.cells #[.int .i64 1, .bool f, .int .i64 p, .int .i64 q, .int .i64 N, .int .i64 M] 36)).heap → W'.os = w7.os → W'.tape = w7.tape → W'.output = w7.output → Below w7.heap.size w7 W') := fun W' hW h1 h2 h3 => by
      have hb := (Below.refl w7.heap.size w7).alloc (Nat.le_refl _) (.cells #[.int .i64 1, .bool f, .int .i64 p, .int .i64 q, .int .i64 N, .int .i64 M] 36)
      exact ⟨h1.trans hb.os, h2.trans hb.tape, h3.trans hb.output, by rw [hW]; exact hb.size, fun k hk => by rw [hW]; exact hb.block k hk⟩
    have HWL := hide hwl
    have HKM : Hid (K + 1 = wh.length + 1) := by show _ = _; rw [HK.out]
    have HGO := hide hgo
    have HLE : Hid ((wh ++ [#[Value.int .i64 1, .bool f, .int .i64 p, .int .i64 q, .int .i64 N, .int .i64 M]]).length ≤ 268435456 ∧ K + 1 = (wh ++ [#[Value.int .i64 1, .bool f, .int .i64 p, .int .i64 q, .int .i64 N, .int .i64 M]]).length) := by
      show _ ∧ _
      rw [List.length_append, ← HK.out]
      have := HK.out
      simp
      omega
    clear hz h6 h7 hst5 hst6 hor hwl hgo hg7
    go_wp2_with (go_at_call 71; refine HAT5.out.mono ?_; rintro e w6 ⟨rfl, hw6⟩; rw [hw6]; clear hw6)
    rw [HW7.out]
    go_region_law (refine stepRowp (by rfl) _ _ (by rfl) 0 (.slice aw K cw) wh #[.int .i64 1, .bool f, .int .i64 p, .int .i64 q, .int .i64 N, .int .i64 M] w7.heap.size 1 K (K + 1) (0, 0) (by simp [Act.eval, Act.put]) (HROW.out _ (by rfl)).1 (by simp [Act.eval, Act.put]) (HROW.out _ (by rfl)).2 rfl (by simp [Value.oneCell']) HWL.out HKM.out (Nat.zero_le _) ?_; intro gg cap8 w8 ho8 hg8 hat8; obtain ⟨t6, t7, t8⟩ := HGO.out _ w8 gg _ cap8 _ (HBL.out _ (by rfl) (by rfl) (by rfl) (by rfl)) ho8 HLE.out.2 hg8 hat8; have HT8 := hide (t8 HLE.out.1); clear t8 ho8 hg8 hat8)
    all_goals
      obtain ⟨-, k1, -, -, -, -, -⟩ := pd_cells HT8.out.box
      obtain ⟨a9, x9, aw9, cw9, hst9, -, -, -⟩ := HT8.out.cells
      obtain ⟨-, -, -, -, -, k5, -, kf⟩ := stO_cells hst9
      have HTE := hide (HT8.out.done f)
      clear HT8 hst9 t6 t7 t3 t3' HROW HBL HGO HLE u0 u1 u2 u3 u4 u5 uf
      go_wp2
      go_ret
      exact ⟨0, f, 1, q, o, HBK.out, rfl, .inl ⟨rfl, _, by rw [← HN.out, ← HM.out]; exact HTE.out⟩⟩
  · have HIN := hide (vdynamic HX5.out HO.out)
    go_wp2_with (go_at_call 71; refine HAT4.out.mono ?_; rintro e w6 ⟨rfl, hw6⟩; rw [hw6]; clear hw6)
    refine HIN.out.mono ?_
    rintro e wz ⟨E, q, o, hS, rfl, hz⟩
    have hBK : ∃ f' k', Blk row L p out E f' k' q o ∨ (E ≠ 0 ∧ Blk row L p out E f' k' p out) := by
      rcases hS with ⟨h1, rfl⟩ | ⟨h1, h2⟩
      · exact ⟨false, 0, .inr ⟨h1, Blk.head hp3 HM2.out h1⟩⟩
      · exact ⟨f, 2, .inl (by rw [← HF.out]; exact Blk.dyn hp3 HM2.out h1 h2)⟩
    have hB2 : E = 0 → Blk row L p out E f 2 q o := fun e0 => by
      rcases hS with ⟨h1, rfl⟩ | ⟨h1, h2⟩
      · exact absurd e0 h1
      · rw [← HF.out]; exact Blk.dyn hp3 HM2.out h1 h2
    have hB3 : ∃ f' k' q' o', Blk row L p out E f' k' q' o' := by
      obtain ⟨f', k', h | h⟩ := hBK
      · exact ⟨_, _, _, _, h⟩
      · exact ⟨_, _, _, _, h.2⟩
    clear hBK
    replace hz : (E = 0 ∧ ∃ zs, SX W wz g r row q L o wh q dn er (ys ++ (KP, tb P (pdO 2 f p 0 N 0)) :: zs)) ∨ (E ≠ 0 ∧ ∃ q' o' u' zs, SXe out W wz g r row q' L o' wh u' dn er (ys ++ zs)) := by
      rcases hz with ⟨e0, zs, hz⟩ | ⟨e0, q', o', u', zs, hz⟩
      · exact .inl ⟨e0, _, by simpa only [List.append_assoc, List.cons_append, List.nil_append] using hz⟩
      · exact .inr ⟨e0, q', o', u', _, by simpa only [List.append_assoc, List.cons_append, List.nil_append] using hz⟩
    clear hS HIN
    rcases hz with ⟨rfl, hz⟩ | ⟨he, hz⟩
    case inr =>
      obtain ⟨q5, o5, u5, zs, hz⟩ := hz
      have HX := hide hz
      have HBK := hide hB3
      have he' : (E != 0) = true := by simpa using he
      have HE := hide he
      clear hz hB2 hB3 he x0 x1' x2 x3 x4 x5 xf y0 yf z0 z5 d0 d4 df
      go_wp2
      go_ret
      obtain ⟨f', k', q', o', hB⟩ := HBK.out
      exact ⟨E, f', k', q', o', hB, rfl, .inr ⟨HE.out, q5, o5, u5, _, HX.out⟩⟩
    obtain ⟨zs, hz⟩ := hz
    have HBK := hide (hB2 rfl)
    clear x0 x1' x2 x3 x4 x5 xf y0 yf z0 z5 d0 d4 df hB2 hB3 HX4 HX5 HAT4
    obtain ⟨a5, x5, aw5, cw5, hst5, -, -, -⟩ := hz.cells
    obtain ⟨d0, -⟩ := stO_cells hst5
    obtain ⟨M, HM⟩ : ∃ M : Nat, Hid (M = o.length) := ⟨_, rfl⟩
    have HAT5 := hide hz.at.2
    obtain ⟨-, -, -, y3, -, -, yf⟩ := pd_cells hz.box
    have h6 := hz.p3 q
    obtain ⟨a6, x6, aw6, cw6, hst6, -, -, -⟩ := h6.cells
    obtain ⟨-, -, d2, -⟩ := stO_cells hst6
    rw [← HM.out] at d2
    obtain ⟨-, -, -, -, -, y5, yg⟩ := pd_cells h6.box
    have h7 := h6.p5 (M : Int)
    obtain ⟨w7, HW7⟩ : ∃ w7, Hid ((wz.setCell ⟨P, 3, none⟩ (.int .i64 q)).setCell ⟨P, 5, none⟩ (.int .i64 M) = w7) := ⟨_, rfl⟩
    rw [HW7.out] at h7
    obtain ⟨u0, u1, u2, u3, u4, u5, uf⟩ := pd_cells h7.box
    obtain ⟨aw, cw, t3, hor, hwl, hgo⟩ := h7.whole
    obtain ⟨K, HK⟩ : ∃ K : Nat, Hid (K = wh.length) := ⟨_, rfl⟩
    rw [← HK.out] at t3 hor hgo
    have hg7 : g < w7.heap.size := World.block_lt_of_cell? _ _ t3
    have t3' : (w7.alloc (.cells #[.int .i64 2, .bool f, .int .i64 p, .int .i64 q, .int .i64 N, .int .i64 M] 36)).cell? ⟨g, 3, none⟩ = some (.slice aw K cw) := by rw [((Below.refl w7.heap.size w7).alloc (Nat.le_refl _) _).cell hg7]; exact t3
    have HROW : Hid (∀ W' : World, W'.heap = (w7.alloc (.cells #[.int .i64 2, .bool f, .int .i64 p, .int .i64 q, .int .i64 N, .int .i64 M] 36)).heap → ORp 36 6 W' 0 (.slice aw K cw) wh ∧ W'.heap[w7.heap.size]? = some (.cells #[.int .i64 2, .bool f, .int .i64 p, .int .i64 q, .int .i64 N, .int .i64 M] 36 (0, 0))) := fun W' hW => ⟨hor.move fun k hk => by rw [hW]; exact Below.heap_alloc _ _ k (hor.lt k hk).2, by rw [hW]; exact heap_alloc_new _ _⟩
    have HBL : Hid (∀ W' : World, W'.heap = (w7.alloc (.cells #[.int .i64 2, .bool f, .int .i64 p, .int .i64 q, .int .i64 N, .int .i64 M] 36)).heap → W'.os = w7.os → W'.tape = w7.tape → W'.output = w7.output → Below w7.heap.size w7 W') := fun W' hW h1 h2 h3 => by
      have hb := (Below.refl w7.heap.size w7).alloc (Nat.le_refl _) (.cells #[.int .i64 2, .bool f, .int .i64 p, .int .i64 q, .int .i64 N, .int .i64 M] 36)
      exact ⟨h1.trans hb.os, h2.trans hb.tape, h3.trans hb.output, by rw [hW]; exact hb.size, fun k hk => by rw [hW]; exact hb.block k hk⟩
    have HWL := hide hwl
    have HKM : Hid (K + 1 = wh.length + 1) := by show _ = _; rw [HK.out]
    have HGO := hide hgo
    have HLE : Hid ((wh ++ [#[Value.int .i64 2, .bool f, .int .i64 p, .int .i64 q, .int .i64 N, .int .i64 M]]).length ≤ 268435456 ∧ K + 1 = (wh ++ [#[Value.int .i64 2, .bool f, .int .i64 p, .int .i64 q, .int .i64 N, .int .i64 M]]).length) := by
      show _ ∧ _
      rw [List.length_append, ← HK.out]
      have := HK.out
      simp
      omega
    clear hz h6 h7 hst5 hst6 hor hwl hgo hg7
    go_wp2_with (go_at_call 71; refine HAT5.out.mono ?_; rintro e w6 ⟨rfl, hw6⟩; rw [hw6]; clear hw6)
    rw [HW7.out]
    go_region_law (refine stepRowp (by rfl) _ _ (by rfl) 0 (.slice aw K cw) wh #[.int .i64 2, .bool f, .int .i64 p, .int .i64 q, .int .i64 N, .int .i64 M] w7.heap.size 1 K (K + 1) (0, 0) (by simp [Act.eval, Act.put]) (HROW.out _ (by rfl)).1 (by simp [Act.eval, Act.put]) (HROW.out _ (by rfl)).2 rfl (by simp [Value.oneCell']) HWL.out HKM.out (Nat.zero_le _) ?_; intro gg cap8 w8 ho8 hg8 hat8; obtain ⟨t6, t7, t8⟩ := HGO.out _ w8 gg _ cap8 _ (HBL.out _ (by rfl) (by rfl) (by rfl) (by rfl)) ho8 HLE.out.2 hg8 hat8; have HT8 := hide (t8 HLE.out.1); clear t8 ho8 hg8 hat8)
    all_goals
      obtain ⟨-, k1, -, -, -, -, -⟩ := pd_cells HT8.out.box
      obtain ⟨a9, x9, aw9, cw9, hst9, -, -, -⟩ := HT8.out.cells
      obtain ⟨-, -, -, -, -, k5, -, kf⟩ := stO_cells hst9
      have HTE := hide (HT8.out.done f)
      clear HT8 hst9 t6 t7 t3 t3' HROW HBL HGO HLE u0 u1 u2 u3 u4 u5 uf
      go_wp2
      go_ret
      exact ⟨0, f, 2, q, o, HBK.out, rfl, .inl ⟨rfl, _, by rw [← HN.out, ← HM.out]; exact HTE.out⟩⟩
  · have HBK : Hid (Blk row L p out 81 false 0 p out) := Blk.three hp3 HM2.out
    clear HAT4 HX5 z5 d0 d4 df
    go_wp2
    go_ret
    exact ⟨81, false, 0, p, out, HBK.out, rfl, .inr ⟨by decide, _, _, _, _, HX4.out, [], (List.append_nil _).symm⟩⟩
end Go.Proofs.YtmjdpfigkojolaaGreatDoor

