import Derived.Test.YtlleajegfeilfaaGWcp
import Derived.Test.YtlleajegfeilfaaGNed
namespace Go.Proofs.Ytlleajegfeilfaa
open Go.RowKit Go.Maps
set_option maxRecDepth 20000
set_option linter.unusedVariables false
set_option linter.unusedSimpArgs false

theorem num_any (x : Int) (w : World) : Calls Try.prog 8 #[.int .i64 x] w fun e w' => e = .returned (.int .i64 x) ∧ w' = w := by
  go_enter Try.func8, Try.ntmps8
  go_wp2
  go_ret
  exact ⟨rfl, rfl⟩

def okW (R : List We) : Prop := ∀ e ∈ R, -9223372036854775808 ≤ e.at' ∧ e.at' ≤ 9223372036854775807

theorem same_n {R S : List We} (h : nms R = nms S) (hs : sml S) (ho : okW S) : sml R ∧ okW R := by
  have hl : R.length = S.length := by have := congrArg List.length h; simpa [nms] using this
  have key : ∀ e ∈ R, ∃ f ∈ S, f.at' = e.at' ∧ f.l.length = e.l.length := fun e he => by
    have : e.n ∈ nms S := by rw [← h]; exact List.mem_map_of_mem he
    obtain ⟨f, hf, hq⟩ := List.mem_map.1 this
    exact ⟨f, hf, congrArg Prod.fst hq, congrArg Prod.snd hq⟩
  refine ⟨⟨by rw [hl]; exact hs.1, fun e he => ?_⟩, fun e he => ?_⟩
  · obtain ⟨f, hf, _, h2⟩ := key e he
    rw [← h2]; exact hs.2 f hf
  · obtain ⟨f, hf, h1, _⟩ := key e he
    rw [← h1]; exact ho f hf

set_option maxHeartbeats 16000000 in
theorem needBound_walk (old size : Int) (v : Value) (R : List We) (w : World) (h : SW w v R) (hs : sml R) (ho : okW R) (hx : -9223372036854775808 ≤ old ∧ old ≤ 9223372036854775807) (hy : -9223372036854775808 ≤ size ∧ size ≤ 9223372036854775807) :
    Calls Try.prog 3 #[.int .i64 old, .int .i64 size, v] w fun e w' => e = .returned (.bool true) ∧ Below w.heap.size w w' := by
  have HS := hide h
  have HM := hide hs
  have HO := hide ho
  have HCP := hide (copiedWrites_any v R w h hs)
  have HND := hide (fun (v1 : Value) (R1 : List We) (w1 : World) (hn : nms R1 = nms R) (hw : SW w1 v1 R1) => by
    have q := same_n hn hs ho
    have := need_any v1 R1 old size w1 hw q.2 q.1.2
    rw [hn] at this
    exact this)
  obtain ⟨E0, hE0⟩ : ∃ E, E = ndE old size (nms R) := ⟨_, rfl⟩
  obtain ⟨N0, hN0⟩ : ∃ E, E = ndN old size (nms R) := ⟨_, rfl⟩
  rw [← hE0, ← hN0] at HND
  obtain ⟨hx0, hx1⟩ := hx
  obtain ⟨hy0, hy1⟩ := hy
  obtain ⟨ca, ccap, rfl, c1, c2⟩ := h.open
  clear h hs ho
  by_cases hdm : domN old ∧ domN size
  case neg =>
    have HV : Hid (E0 = 1 ∧ N0 = 0) := by
      have e : ndE old size (nms R) = 1 := if_pos (by by_cases q : domN old; exact .inr (fun q2 => hdm ⟨q, q2⟩); exact .inl q)
      exact ⟨hE0.trans e, hN0.trans (if_neg (by rw [e]; decide))⟩
    clear hE0 hN0
    obtain ⟨rfl, rfl⟩ := HV.out
    have hd4 : old < 0 ∨ (0 ≤ old ∧ 16777216 < old) ∨ (0 ≤ old ∧ old ≤ 16777216 ∧ size < 0) ∨ (0 ≤ old ∧ old ≤ 16777216 ∧ 0 ≤ size ∧ 16777216 < size) := by unfold domN at hdm; omega
    clear hdm HV
    rcases hd4 with hd | ⟨hd, hd'⟩ | ⟨hd, hd', hd''⟩ | ⟨hd, hd', hd'', hd'''⟩
    · go_enter Try.func3, Try.ntmps3
      go_wp2_with fail
      refine HCP.out.mono ?_
      rintro e w1 ⟨v1, R1, rfl, hn, -, how, hb⟩
      have HN1 := hide (HND.out v1 R1 w1 hn how.sw)
      have HB1 := hide hb
      clear hn how hb HCP
      go_wp2_with fail
      refine HN1.out.mono ?_
      rintro e w2 ⟨rfl, hb2⟩
      have HB2 := hide (HB1.out.trans (hb2.mono HB1.out.size))
      clear hb2 HN1 HND
      go_wp2
      go_loopw [9, 10, 11, 12, 13] (fun r e b i _ wr => r = .bool false ∧ e = .int .i64 0 ∧ b = .int .i64 0 ∧ i = .int .i64 0 ∧ Hid (Below w.heap.size w wr)) (fun _ _ _ i _ _ => R.length - (intOf i).toNat)
      case atStart => exact ⟨by first | rfl | (simp; omega), rfl, rfl, rfl, HB2.out⟩
      case round =>
        obtain ⟨rfl, rfl, rfl, rfl, HB⟩ := hrel
        by_cases hlt : 0 < R.length
        · have hlt' : (0 : Int) < (R.length : Int) := by omega
          obtain ⟨j, hj⟩ : ∃ j, j = 0 := ⟨_, rfl⟩
          rw [← hj] at hlt
          obtain ⟨b0, o0, a', c', hla, hbl, hdv, g0, g1, hsb, k1, k2⟩ := (HS.out.low HB.out).row hlt
          have hml : (R.getD j we0).l.length ≤ 140737488351232 := HM.out.2 _ (we_mem hlt)
          have hok := HO.out _ (we_mem hlt)
          have hnn := n_get hlt
          obtain ⟨e, he⟩ : ∃ e, e = R.getD j we0 := ⟨_, rfl⟩
          rw [← he] at hdv g0 g1 hsb k1 hml hok hnn
          obtain ⟨at0, dv0, l0⟩ := e
          simp only [We.n] at hdv g0 g1 hsb k1 hml hok hnn
          obtain ⟨n, hn⟩ : ∃ n, n = l0.length := ⟨_, rfl⟩
          rw [← hn] at hdv g1 hsb k1 hml hnn
          subst hla
          have HBa : Hid (Below w.heap.size w (wr.alloc (.cells #[.int .i64 at0, .slice a' n c'] 29))) := HB.out.alloc HB.out.size _
          obtain ⟨w3, hw3⟩ : ∃ y, wr.alloc (.cells #[.int .i64 at0, .slice a' n c'] 29) = y := ⟨_, rfl⟩
          have hbx : w3.heap[wr.heap.size]? = some (.cells #[.int .i64 at0, .slice a' n c'] 29) := by rw [← hw3]; exact heap_alloc_new _ _
          rw [hw3] at HBa
          have q0 := box_cells hbx 0 rfl
          have q1 := box_cells hbx 1 rfl
          have HNN := hide hnn
          clear hdv he hsb hn hnn hbx
          obtain ⟨hok0, hok1⟩ := hok
          subst hj
          rw [Nat.zero_mul, Nat.add_zero] at g0 g1
          have hcs : n = 0 ∨ (((n : Int) == 0) = false ∧ at0 < 0) ∨ (((n : Int) == 0) = false ∧ 0 ≤ at0 ∧ size < at0) ∨ (((n : Int) == 0) = false ∧ 0 ≤ at0 ∧ at0 ≤ size) := by
            by_cases q : n = 0
            · exact .inl q
            · have : ((n : Int) == 0) = false := by simp; omega
              by_cases q2 : at0 < 0
              · exact .inr (.inl ⟨this, q2⟩)
              · by_cases q3 : size < at0
                · exact .inr (.inr (.inl ⟨this, by omega, q3⟩))
                · exact .inr (.inr (.inr ⟨this, by omega, by omega⟩))
          rcases hcs with hcs | hcs | hcs | hcs
          · subst hcs
            go_wp2_with (go_at_call 8; refine (num_any _ _).mono ?_; rintro e w4 ⟨rfl, h4⟩; subst h4)
            go_ret
            exact ⟨rfl, HBa.out⟩
          · obtain ⟨z1, z2⟩ := hcs
            go_wp2_with (go_at_call 8; refine (num_any _ _).mono ?_; rintro e w4 ⟨rfl, h4⟩; subst h4)
            go_ret
            exact ⟨rfl, HBa.out⟩
          · obtain ⟨z1, z2, z3⟩ := hcs
            go_wp2_with (go_at_call 8; refine (num_any _ _).mono ?_; rintro e w4 ⟨rfl, h4⟩; subst h4)
            go_ret
            exact ⟨rfl, HBa.out⟩
          · obtain ⟨z1, z2, z3⟩ := hcs
            by_cases z4 : size - at0 < (n : Int)
            · first
                | (exfalso; omega)
                | (go_wp2_with (go_at_call 8; refine (num_any _ _).mono ?_; rintro e w4 ⟨rfl, h4⟩; subst h4)
                   go_ret
                   exact ⟨rfl, HBa.out⟩)
            · first
                | (exfalso; omega)
                | (go_wp2_with (go_at_call 8; refine (num_any _ _).mono ?_; rintro e w4 ⟨rfl, h4⟩; subst h4)
                   go_ret
                   exact ⟨rfl, HBa.out⟩)
        · have hR : R.length = 0 := by omega
          rw [hR]
          go_wp2_with (go_at_call 8; refine (num_any _ _).mono ?_; rintro e w4 ⟨rfl, h4⟩; subst h4)
          go_ret
          exact ⟨rfl, HB.out⟩
    · go_enter Try.func3, Try.ntmps3
      go_wp2_with fail
      refine HCP.out.mono ?_
      rintro e w1 ⟨v1, R1, rfl, hn, -, how, hb⟩
      have HN1 := hide (HND.out v1 R1 w1 hn how.sw)
      have HB1 := hide hb
      clear hn how hb HCP
      go_wp2_with fail
      refine HN1.out.mono ?_
      rintro e w2 ⟨rfl, hb2⟩
      have HB2 := hide (HB1.out.trans (hb2.mono HB1.out.size))
      clear hb2 HN1 HND
      go_wp2
      go_loopw [9, 10, 11, 12, 13] (fun r e b i _ wr => r = .bool false ∧ e = .int .i64 0 ∧ b = .int .i64 0 ∧ i = .int .i64 0 ∧ Hid (Below w.heap.size w wr)) (fun _ _ _ i _ _ => R.length - (intOf i).toNat)
      case atStart => exact ⟨by first | rfl | (simp; omega), rfl, rfl, rfl, HB2.out⟩
      case round =>
        obtain ⟨rfl, rfl, rfl, rfl, HB⟩ := hrel
        by_cases hlt : 0 < R.length
        · have hlt' : (0 : Int) < (R.length : Int) := by omega
          obtain ⟨j, hj⟩ : ∃ j, j = 0 := ⟨_, rfl⟩
          rw [← hj] at hlt
          obtain ⟨b0, o0, a', c', hla, hbl, hdv, g0, g1, hsb, k1, k2⟩ := (HS.out.low HB.out).row hlt
          have hml : (R.getD j we0).l.length ≤ 140737488351232 := HM.out.2 _ (we_mem hlt)
          have hok := HO.out _ (we_mem hlt)
          have hnn := n_get hlt
          obtain ⟨e, he⟩ : ∃ e, e = R.getD j we0 := ⟨_, rfl⟩
          rw [← he] at hdv g0 g1 hsb k1 hml hok hnn
          obtain ⟨at0, dv0, l0⟩ := e
          simp only [We.n] at hdv g0 g1 hsb k1 hml hok hnn
          obtain ⟨n, hn⟩ : ∃ n, n = l0.length := ⟨_, rfl⟩
          rw [← hn] at hdv g1 hsb k1 hml hnn
          subst hla
          have HBa : Hid (Below w.heap.size w (wr.alloc (.cells #[.int .i64 at0, .slice a' n c'] 29))) := HB.out.alloc HB.out.size _
          obtain ⟨w3, hw3⟩ : ∃ y, wr.alloc (.cells #[.int .i64 at0, .slice a' n c'] 29) = y := ⟨_, rfl⟩
          have hbx : w3.heap[wr.heap.size]? = some (.cells #[.int .i64 at0, .slice a' n c'] 29) := by rw [← hw3]; exact heap_alloc_new _ _
          rw [hw3] at HBa
          have q0 := box_cells hbx 0 rfl
          have q1 := box_cells hbx 1 rfl
          have HNN := hide hnn
          clear hdv he hsb hn hnn hbx
          obtain ⟨hok0, hok1⟩ := hok
          subst hj
          rw [Nat.zero_mul, Nat.add_zero] at g0 g1
          have hcs : n = 0 ∨ (((n : Int) == 0) = false ∧ at0 < 0) ∨ (((n : Int) == 0) = false ∧ 0 ≤ at0 ∧ size < at0) ∨ (((n : Int) == 0) = false ∧ 0 ≤ at0 ∧ at0 ≤ size) := by
            by_cases q : n = 0
            · exact .inl q
            · have : ((n : Int) == 0) = false := by simp; omega
              by_cases q2 : at0 < 0
              · exact .inr (.inl ⟨this, q2⟩)
              · by_cases q3 : size < at0
                · exact .inr (.inr (.inl ⟨this, by omega, q3⟩))
                · exact .inr (.inr (.inr ⟨this, by omega, by omega⟩))
          rcases hcs with hcs | hcs | hcs | hcs
          · subst hcs
            go_wp2_with (go_at_call 8; refine (num_any _ _).mono ?_; rintro e w4 ⟨rfl, h4⟩; subst h4)
            go_ret
            exact ⟨rfl, HBa.out⟩
          · obtain ⟨z1, z2⟩ := hcs
            go_wp2_with (go_at_call 8; refine (num_any _ _).mono ?_; rintro e w4 ⟨rfl, h4⟩; subst h4)
            go_ret
            exact ⟨rfl, HBa.out⟩
          · obtain ⟨z1, z2, z3⟩ := hcs
            go_wp2_with (go_at_call 8; refine (num_any _ _).mono ?_; rintro e w4 ⟨rfl, h4⟩; subst h4)
            go_ret
            exact ⟨rfl, HBa.out⟩
          · obtain ⟨z1, z2, z3⟩ := hcs
            by_cases z4 : size - at0 < (n : Int)
            · first
                | (exfalso; omega)
                | (go_wp2_with (go_at_call 8; refine (num_any _ _).mono ?_; rintro e w4 ⟨rfl, h4⟩; subst h4)
                   go_ret
                   exact ⟨rfl, HBa.out⟩)
            · first
                | (exfalso; omega)
                | (go_wp2_with (go_at_call 8; refine (num_any _ _).mono ?_; rintro e w4 ⟨rfl, h4⟩; subst h4)
                   go_ret
                   exact ⟨rfl, HBa.out⟩)
        · have hR : R.length = 0 := by omega
          rw [hR]
          go_wp2_with (go_at_call 8; refine (num_any _ _).mono ?_; rintro e w4 ⟨rfl, h4⟩; subst h4)
          go_ret
          exact ⟨rfl, HB.out⟩
    · go_enter Try.func3, Try.ntmps3
      go_wp2_with fail
      refine HCP.out.mono ?_
      rintro e w1 ⟨v1, R1, rfl, hn, -, how, hb⟩
      have HN1 := hide (HND.out v1 R1 w1 hn how.sw)
      have HB1 := hide hb
      clear hn how hb HCP
      go_wp2_with fail
      refine HN1.out.mono ?_
      rintro e w2 ⟨rfl, hb2⟩
      have HB2 := hide (HB1.out.trans (hb2.mono HB1.out.size))
      clear hb2 HN1 HND
      go_wp2
      go_loopw [9, 10, 11, 12, 13] (fun r e b i _ wr => r = .bool false ∧ e = .int .i64 0 ∧ b = .int .i64 0 ∧ i = .int .i64 0 ∧ Hid (Below w.heap.size w wr)) (fun _ _ _ i _ _ => R.length - (intOf i).toNat)
      case atStart => exact ⟨by first | rfl | (simp; omega), rfl, rfl, rfl, HB2.out⟩
      case round =>
        obtain ⟨rfl, rfl, rfl, rfl, HB⟩ := hrel
        by_cases hlt : 0 < R.length
        · have hlt' : (0 : Int) < (R.length : Int) := by omega
          obtain ⟨j, hj⟩ : ∃ j, j = 0 := ⟨_, rfl⟩
          rw [← hj] at hlt
          obtain ⟨b0, o0, a', c', hla, hbl, hdv, g0, g1, hsb, k1, k2⟩ := (HS.out.low HB.out).row hlt
          have hml : (R.getD j we0).l.length ≤ 140737488351232 := HM.out.2 _ (we_mem hlt)
          have hok := HO.out _ (we_mem hlt)
          have hnn := n_get hlt
          obtain ⟨e, he⟩ : ∃ e, e = R.getD j we0 := ⟨_, rfl⟩
          rw [← he] at hdv g0 g1 hsb k1 hml hok hnn
          obtain ⟨at0, dv0, l0⟩ := e
          simp only [We.n] at hdv g0 g1 hsb k1 hml hok hnn
          obtain ⟨n, hn⟩ : ∃ n, n = l0.length := ⟨_, rfl⟩
          rw [← hn] at hdv g1 hsb k1 hml hnn
          subst hla
          have HBa : Hid (Below w.heap.size w (wr.alloc (.cells #[.int .i64 at0, .slice a' n c'] 29))) := HB.out.alloc HB.out.size _
          obtain ⟨w3, hw3⟩ : ∃ y, wr.alloc (.cells #[.int .i64 at0, .slice a' n c'] 29) = y := ⟨_, rfl⟩
          have hbx : w3.heap[wr.heap.size]? = some (.cells #[.int .i64 at0, .slice a' n c'] 29) := by rw [← hw3]; exact heap_alloc_new _ _
          rw [hw3] at HBa
          have q0 := box_cells hbx 0 rfl
          have q1 := box_cells hbx 1 rfl
          have HNN := hide hnn
          clear hdv he hsb hn hnn hbx
          obtain ⟨hok0, hok1⟩ := hok
          subst hj
          rw [Nat.zero_mul, Nat.add_zero] at g0 g1
          have hcs : n = 0 ∨ (((n : Int) == 0) = false ∧ at0 < 0) ∨ (((n : Int) == 0) = false ∧ 0 ≤ at0 ∧ size < at0) ∨ (((n : Int) == 0) = false ∧ 0 ≤ at0 ∧ at0 ≤ size) := by
            by_cases q : n = 0
            · exact .inl q
            · have : ((n : Int) == 0) = false := by simp; omega
              by_cases q2 : at0 < 0
              · exact .inr (.inl ⟨this, q2⟩)
              · by_cases q3 : size < at0
                · exact .inr (.inr (.inl ⟨this, by omega, q3⟩))
                · exact .inr (.inr (.inr ⟨this, by omega, by omega⟩))
          rcases hcs with hcs | hcs | hcs | hcs
          · subst hcs
            go_wp2_with (go_at_call 8; refine (num_any _ _).mono ?_; rintro e w4 ⟨rfl, h4⟩; subst h4)
            go_ret
            exact ⟨rfl, HBa.out⟩
          · obtain ⟨z1, z2⟩ := hcs
            go_wp2_with (go_at_call 8; refine (num_any _ _).mono ?_; rintro e w4 ⟨rfl, h4⟩; subst h4)
            go_ret
            exact ⟨rfl, HBa.out⟩
          · obtain ⟨z1, z2, z3⟩ := hcs
            go_wp2_with (go_at_call 8; refine (num_any _ _).mono ?_; rintro e w4 ⟨rfl, h4⟩; subst h4)
            go_ret
            exact ⟨rfl, HBa.out⟩
          · obtain ⟨z1, z2, z3⟩ := hcs
            by_cases z4 : size - at0 < (n : Int)
            · first
                | (exfalso; omega)
                | (go_wp2_with (go_at_call 8; refine (num_any _ _).mono ?_; rintro e w4 ⟨rfl, h4⟩; subst h4)
                   go_ret
                   exact ⟨rfl, HBa.out⟩)
            · first
                | (exfalso; omega)
                | (go_wp2_with (go_at_call 8; refine (num_any _ _).mono ?_; rintro e w4 ⟨rfl, h4⟩; subst h4)
                   go_ret
                   exact ⟨rfl, HBa.out⟩)
        · have hR : R.length = 0 := by omega
          rw [hR]
          go_wp2_with (go_at_call 8; refine (num_any _ _).mono ?_; rintro e w4 ⟨rfl, h4⟩; subst h4)
          go_ret
          exact ⟨rfl, HB.out⟩
    · go_enter Try.func3, Try.ntmps3
      go_wp2_with fail
      refine HCP.out.mono ?_
      rintro e w1 ⟨v1, R1, rfl, hn, -, how, hb⟩
      have HN1 := hide (HND.out v1 R1 w1 hn how.sw)
      have HB1 := hide hb
      clear hn how hb HCP
      go_wp2_with fail
      refine HN1.out.mono ?_
      rintro e w2 ⟨rfl, hb2⟩
      have HB2 := hide (HB1.out.trans (hb2.mono HB1.out.size))
      clear hb2 HN1 HND
      go_wp2
      go_loopw [9, 10, 11, 12, 13] (fun r e b i _ wr => r = .bool false ∧ e = .int .i64 0 ∧ b = .int .i64 0 ∧ i = .int .i64 0 ∧ Hid (Below w.heap.size w wr)) (fun _ _ _ i _ _ => R.length - (intOf i).toNat)
      case atStart => exact ⟨by first | rfl | (simp; omega), rfl, rfl, rfl, HB2.out⟩
      case round =>
        obtain ⟨rfl, rfl, rfl, rfl, HB⟩ := hrel
        by_cases hlt : 0 < R.length
        · have hlt' : (0 : Int) < (R.length : Int) := by omega
          obtain ⟨j, hj⟩ : ∃ j, j = 0 := ⟨_, rfl⟩
          rw [← hj] at hlt
          obtain ⟨b0, o0, a', c', hla, hbl, hdv, g0, g1, hsb, k1, k2⟩ := (HS.out.low HB.out).row hlt
          have hml : (R.getD j we0).l.length ≤ 140737488351232 := HM.out.2 _ (we_mem hlt)
          have hok := HO.out _ (we_mem hlt)
          have hnn := n_get hlt
          obtain ⟨e, he⟩ : ∃ e, e = R.getD j we0 := ⟨_, rfl⟩
          rw [← he] at hdv g0 g1 hsb k1 hml hok hnn
          obtain ⟨at0, dv0, l0⟩ := e
          simp only [We.n] at hdv g0 g1 hsb k1 hml hok hnn
          obtain ⟨n, hn⟩ : ∃ n, n = l0.length := ⟨_, rfl⟩
          rw [← hn] at hdv g1 hsb k1 hml hnn
          subst hla
          have HBa : Hid (Below w.heap.size w (wr.alloc (.cells #[.int .i64 at0, .slice a' n c'] 29))) := HB.out.alloc HB.out.size _
          obtain ⟨w3, hw3⟩ : ∃ y, wr.alloc (.cells #[.int .i64 at0, .slice a' n c'] 29) = y := ⟨_, rfl⟩
          have hbx : w3.heap[wr.heap.size]? = some (.cells #[.int .i64 at0, .slice a' n c'] 29) := by rw [← hw3]; exact heap_alloc_new _ _
          rw [hw3] at HBa
          have q0 := box_cells hbx 0 rfl
          have q1 := box_cells hbx 1 rfl
          have HNN := hide hnn
          clear hdv he hsb hn hnn hbx
          obtain ⟨hok0, hok1⟩ := hok
          subst hj
          rw [Nat.zero_mul, Nat.add_zero] at g0 g1
          have hcs : n = 0 ∨ (((n : Int) == 0) = false ∧ at0 < 0) ∨ (((n : Int) == 0) = false ∧ 0 ≤ at0 ∧ size < at0) ∨ (((n : Int) == 0) = false ∧ 0 ≤ at0 ∧ at0 ≤ size) := by
            by_cases q : n = 0
            · exact .inl q
            · have : ((n : Int) == 0) = false := by simp; omega
              by_cases q2 : at0 < 0
              · exact .inr (.inl ⟨this, q2⟩)
              · by_cases q3 : size < at0
                · exact .inr (.inr (.inl ⟨this, by omega, q3⟩))
                · exact .inr (.inr (.inr ⟨this, by omega, by omega⟩))
          rcases hcs with hcs | hcs | hcs | hcs
          · subst hcs
            go_wp2_with (go_at_call 8; refine (num_any _ _).mono ?_; rintro e w4 ⟨rfl, h4⟩; subst h4)
            go_ret
            exact ⟨rfl, HBa.out⟩
          · obtain ⟨z1, z2⟩ := hcs
            go_wp2_with (go_at_call 8; refine (num_any _ _).mono ?_; rintro e w4 ⟨rfl, h4⟩; subst h4)
            go_ret
            exact ⟨rfl, HBa.out⟩
          · obtain ⟨z1, z2, z3⟩ := hcs
            go_wp2_with (go_at_call 8; refine (num_any _ _).mono ?_; rintro e w4 ⟨rfl, h4⟩; subst h4)
            go_ret
            exact ⟨rfl, HBa.out⟩
          · obtain ⟨z1, z2, z3⟩ := hcs
            by_cases z4 : size - at0 < (n : Int)
            · first
                | (exfalso; omega)
                | (go_wp2_with (go_at_call 8; refine (num_any _ _).mono ?_; rintro e w4 ⟨rfl, h4⟩; subst h4)
                   go_ret
                   exact ⟨rfl, HBa.out⟩)
            · first
                | (exfalso; omega)
                | (go_wp2_with (go_at_call 8; refine (num_any _ _).mono ?_; rintro e w4 ⟨rfl, h4⟩; subst h4)
                   go_ret
                   exact ⟨rfl, HBa.out⟩)
        · have hR : R.length = 0 := by omega
          rw [hR]
          go_wp2_with (go_at_call 8; refine (num_any _ _).mono ?_; rintro e w4 ⟨rfl, h4⟩; subst h4)
          go_ret
          exact ⟨rfl, HB.out⟩
  case pos =>
    obtain ⟨hd1, hd2⟩ := hdm
    have HBAD : rgt size (nms R) 0 = false → Hid (E0 = 143 ∧ N0 = 0) := fun q => by
      have e : ndE old size (nms R) = 143 := by unfold ndE; rw [if_neg (by intro h; exact h.elim (fun q => q hd1) (fun q => q hd2)), if_pos q]
      exact ⟨hE0.trans e, hN0.trans (if_neg (by rw [e]; decide))⟩
    have HGOOD : rgt size (nms R) 0 = true → ∀ B, B = bdy (svd old (nms R)) → Hid (E0 = 0 ∧ max old size + B + 512 ≤ N0 ∧ N0 ≤ max old size + B + 2557 ∧ old < N0 ∧ (N0 - old) % 1024 = 0) := fun q B hB => by
      have e : ndE old size (nms R) = 0 := by unfold ndE; rw [if_neg (by intro h; exact h.elim (fun q => q hd1) (fun q => q hd2)), if_neg (by rw [q]; decide)]
      have e2 : N0 = filN old size B := by rw [hN0, hB]; exact if_pos e
      have := fil_bound (len := B) hd1 hd2 (by rw [hB]; exact (bdy_in q hd2).1)
      rw [← e2] at this
      exact ⟨hE0.trans e, this⟩
    have HGD := hide HGOOD
    have HBD := hide HBAD
    clear hE0 hN0 HGOOD HBAD
    obtain ⟨hd10, hd11⟩ := hd1
    obtain ⟨hd20, hd21⟩ := hd2
    go_enter Try.func3, Try.ntmps3
    go_wp2_with fail
    refine HCP.out.mono ?_
    rintro e w1 ⟨v1, R1, rfl, hn, -, how, hb⟩
    have HN1 := hide (HND.out v1 R1 w1 hn how.sw)
    have HB1 := hide hb
    clear hn how hb HCP
    go_wp2_with fail
    refine HN1.out.mono ?_
    rintro e w2 ⟨rfl, hb2⟩
    have HB2 := hide (HB1.out.trans (hb2.mono HB1.out.size))
    clear hb2 HN1 HND
    go_wp2
    go_loopw [9, 10, 11, 12, 13] (fun r e b i _ wr => ∃ (j : Nat) (E B : Int), r = .bool true ∧ e = .int .i64 E ∧ b = .int .i64 B ∧ i = .int .i64 (j : Int) ∧ j ≤ R.length ∧ ((j : Int) ≤ E ∧ E ≤ 16777216) ∧ (0 ≤ B ∧ B ≤ 16777224 * (j : Int)) ∧ Hid (rgt size ((nms R).drop j) E = rgt size (nms R) 0) ∧ Hid (bdy (svd old ((nms R).take j)) = B) ∧ Hid (Below w.heap.size w wr)) (fun _ _ _ i _ _ => R.length - (intOf i).toNat)
    case atStart => exact ⟨0, 0, 0, rfl, rfl, rfl, rfl, Nat.zero_le _, by omega, by omega, rfl, rfl, HB2.out⟩
    case round =>
      obtain ⟨j, E, B, rfl, rfl, rfl, rfl, hj, ⟨hE0, hE1⟩, ⟨hB0, hB1⟩, HR, HY, HB⟩ := hrel
      by_cases hlt : j < R.length
      · have hlt' : (j : Int) < (R.length : Int) := by omega
        obtain ⟨b0, o0, a', c', hla, hbl, hdv, g0, g1, hsb, k1, k2⟩ := (HS.out.low HB.out).row hlt
        have hml : (R.getD j we0).l.length ≤ 140737488351232 := HM.out.2 _ (we_mem hlt)
        have hok := HO.out _ (we_mem hlt)
        have hnn := n_get hlt
        obtain ⟨e, he⟩ : ∃ e, e = R.getD j we0 := ⟨_, rfl⟩
        rw [← he] at hdv g0 g1 hsb k1 hml hok hnn
        obtain ⟨at0, dv0, l0⟩ := e
        simp only [We.n] at hdv g0 g1 hsb k1 hml hok hnn
        obtain ⟨n, hn⟩ : ∃ n, n = l0.length := ⟨_, rfl⟩
        rw [← hn] at hdv g1 hsb k1 hml hnn
        subst hla
        have HBa : Hid (Below w.heap.size w (wr.alloc (.cells #[.int .i64 at0, .slice a' n c'] 29))) := HB.out.alloc HB.out.size _
        obtain ⟨w3, hw3⟩ : ∃ y, wr.alloc (.cells #[.int .i64 at0, .slice a' n c'] 29) = y := ⟨_, rfl⟩
        have hbx : w3.heap[wr.heap.size]? = some (.cells #[.int .i64 at0, .slice a' n c'] 29) := by rw [← hw3]; exact heap_alloc_new _ _
        rw [hw3] at HBa
        have q0 := box_cells hbx 0 rfl
        have q1 := box_cells hbx 1 rfl
        have HNN := hide hnn
        clear hdv he hsb hn hnn hbx
        obtain ⟨hok0, hok1⟩ := hok
        have hE9 : 0 ≤ E := by omega
        have HST := hide (rgt_step (size := size) (e := E) (by rw [nms_len]; exact hlt) HNN.out)
        have HSV := hide (svd_take (old := old) (P := nms R) (k := j) (by rw [nms_len]; exact hlt))
        by_cases hbad : n = 0 ∨ at0 < E ∨ size - (n : Int) < at0
        · have HF : Hid (E0 = 143 ∧ N0 = 0) := HBD.out (by rw [← HR.out]; exact HST.out.1 hbad)
          obtain ⟨rfl, rfl⟩ := HF.out
          clear HST HSV HF
          have hcs : n = 0 ∨ (((n : Int) == 0) = false ∧ at0 < E) ∨ (((n : Int) == 0) = false ∧ E ≤ at0 ∧ size < at0) ∨ (((n : Int) == 0) = false ∧ E ≤ at0 ∧ at0 ≤ size ∧ size - at0 < (n : Int)) := by
            by_cases q : n = 0
            · exact .inl q
            · have : ((n : Int) == 0) = false := by simp; omega
              by_cases q2 : at0 < E
              · exact .inr (.inl ⟨this, q2⟩)
              · by_cases q3 : size < at0
                · exact .inr (.inr (.inl ⟨this, by omega, q3⟩))
                · exact .inr (.inr (.inr ⟨this, by omega, by omega, by omega⟩))
          clear hbad
          rcases hcs with hcs | ⟨z1, z2⟩ | ⟨z1, z2, z3⟩ | ⟨z1, z2, z3, z4⟩
          · subst hcs
            go_wp2_with (go_at_call 8; refine (num_any _ _).mono ?_; rintro e w4 ⟨rfl, h4⟩; subst h4)
            go_ret
            exact ⟨rfl, HBa.out⟩
          · go_wp2_with (go_at_call 8; refine (num_any _ _).mono ?_; rintro e w4 ⟨rfl, h4⟩; subst h4)
            go_ret
            exact ⟨rfl, HBa.out⟩
          · go_wp2_with (go_at_call 8; refine (num_any _ _).mono ?_; rintro e w4 ⟨rfl, h4⟩; subst h4)
            go_ret
            exact ⟨rfl, HBa.out⟩
          · go_wp2_with (go_at_call 8; refine (num_any _ _).mono ?_; rintro e w4 ⟨rfl, h4⟩; subst h4)
            go_ret
            exact ⟨rfl, HBa.out⟩
        · have HF : Hid (rgt size ((nms R).drop (j + 1)) (at0 + (n : Int)) = rgt size (nms R) 0) := by have := HST.out.2 hbad; rw [HR.out] at this; exact this.symm
          have z1 : ((n : Int) == 0) = false := by simp; omega
          have z2 : E ≤ at0 := by omega
          have z3 : at0 ≤ size := by omega
          have z4 : (n : Int) ≤ size - at0 := by omega
          have z5 : 0 < n := by omega
          clear hbad HST
          rw [HNN.out] at HSV
          by_cases hao : at0 < old
          · have HY2 : Hid (bdy (svd old ((nms R).take (j + 1))) = B + 8 + min (at0 + (n : Int)) old - at0) := by
              show _ = _
              rw [HSV.out, bdy_app, HY.out]
              unfold svd1
              rw [if_pos hao]
              simp only [bdy, dif, List.length_cons, List.length_nil]
              omega
            by_cases hmn : at0 + (n : Int) ≤ old
            · have hm2 : ¬ old < at0 + (n : Int) := by omega
              go_wp2
              go_roundw
              case rel => exact ⟨j + 1, at0 + (n : Int), B + 8 + (at0 + (n : Int)) - at0, by go_num, by go_num, by go_num, by go_num, by omega, by omega, by omega, HF.out, by show _ = _; rw [HY2.out]; omega, HBa.out⟩
              case measure => simp [intOf]; omega
            · have hm2 : old < at0 + (n : Int) := by omega
              go_wp2
              go_roundw
              case rel => exact ⟨j + 1, at0 + (n : Int), B + 8 + old - at0, by go_num, by go_num, by go_num, by go_num, by omega, by omega, by omega, HF.out, by show _ = _; rw [HY2.out]; omega, HBa.out⟩
              case measure => simp [intOf]; omega
          · have HY2 : Hid (bdy (svd old ((nms R).take (j + 1))) = B) := by
              show _ = _
              rw [HSV.out, bdy_app, HY.out]
              unfold svd1
              rw [if_neg hao]
              simp [bdy, dif]
            go_wp2
            go_roundw
            case rel => exact ⟨j + 1, at0 + (n : Int), B, by go_num, by go_num, by go_num, by go_num, by omega, by omega, by omega, HF.out, HY2.out, HBa.out⟩
            case measure => simp [intOf]; omega
      · have hje : j = R.length := by omega
        subst hje
        have hrt : rgt size (nms R) 0 = true := by have := HR.out; rw [← nms_len, List.drop_length] at this; exact this.symm
        have hYY := HY.out
        rw [← nms_len, List.take_length] at hYY
        have HF := hide (HGD.out hrt B hYY.symm)
        obtain ⟨rfl, f1, f2, f3, f4⟩ := HF.out.out
        clear hrt hYY HF HGD HBD HR HY
        by_cases hmx : old < size
        · have f1' : size + B + 512 ≤ N0 := by omega
          have f2' : N0 ≤ size + B + 2557 := by omega
          clear f1 f2
          go_wp2_with (go_at_call 8; refine (num_any _ _).mono ?_; rintro e w4 ⟨rfl, h4⟩; subst h4)
          go_ret
          exact ⟨rfl, HB.out⟩
        · have f1' : old + B + 512 ≤ N0 := by omega
          have f2' : N0 ≤ old + B + 2557 := by omega
          clear f1 f2
          go_wp2_with (go_at_call 8; refine (num_any _ _).mono ?_; rintro e w4 ⟨rfl, h4⟩; subst h4)
          go_ret
          exact ⟨rfl, HB.out⟩
end Go.Proofs.Ytlleajegfeilfaa

