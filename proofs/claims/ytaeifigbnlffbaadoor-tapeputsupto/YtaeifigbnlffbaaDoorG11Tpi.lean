import Derived.Test.YtaeifigbnlffbaaDoorG10Tph
namespace Go.Proofs.YtaeifigbnlffbaaDoor
open Go.RowKit Go.Maps
set_option maxRecDepth 20000
set_option linter.unusedVariables false
set_option linter.unusedSimpArgs false

/-! putNumber and sum. -/

theorem oct_front (n : Nat) : ∀ j, oct n (j + 1) = (48 + ((n / 8 ^ j % 8 : Nat) : Int)) :: oct n j := by
  intro j
  induction j generalizing n with
  | zero => simp [oct]
  | succ j ih =>
    rw [oct, ih]
    conv => rhs; rw [oct]
    rw [List.cons_append, Nat.div_div_eq_div_mul, Nat.pow_succ, Nat.mul_comm 8]

theorem wrt_cons (L t : List Int) (i : Nat) (x : Int) (h : i + 1 + t.length ≤ L.length) : (wrt L (i + 1) t).set i x = wrt L i (x :: t) := by
  unfold wrt
  rw [List.set_append_left _ _ (by simp; omega), List.set_append_left _ _ (by simp; omega)]
  have e : (L.take (i + 1)).set i x = L.take i ++ [x] := by
    have h1 : L.take (i + 1) = L.take i ++ [L[i]'(by omega)] := by simp
    have h2 : i - (L.take i).length = 0 := by rw [List.length_take]; omega
    rw [h1, List.set_append_right _ _ (by rw [List.length_take]; omega), h2]; rfl
  rw [e, List.length_cons, show i + 1 + t.length = i + (t.length + 1) by omega]
  simp

theorem wrt_nil (L : List Int) (i : Nat) : wrt L i [] = L := by
  unfold wrt
  simp

theorem grown_set {w w' : World} {g : Nat} (h : w.grownBy w' (some g)) (i : Nat) (u : Value) : w.grownBy (w'.setCell ⟨g, i, none⟩ u) (some g) :=
  ⟨h.os, h.tape, h.output, by rw [size_setCell]; exact h.size, fun k hk hn => (setCell_others _ _ _ _ k (fun e => hn (by rw [e]))).trans (h.block k hk hn)⟩

set_option maxHeartbeats 4000000 in
theorem hputNumber (g a d n : Nat) (L : List Int) (w : World) (hg : w.heap[g]? = some (.cells (ab L) 51 (0, 0))) (hl : L.length = 512) (ha : 1 ≤ a) (hd : a + d ≤ 512) (hn : n ≤ 8589934591) :
    Calls Tryd.prog 45 #[.pointer (some ⟨g, 0, none⟩), .agg #[.int .i64 a, .int .i64 ((d : Int) + 1)], .int .i64 n] w fun e w' => e = .returned (.tuple #[]) ∧ w'.heap[g]? = some (.cells (ab (wrt L a (oct n d))) 51 (0, 0)) ∧ w.grownBy w' (some g) := by
  obtain ⟨wb, hwb⟩ : ∃ wb, w.alloc (.cells #[.int .i64 a, .int .i64 ((d : Int) + 1)] 72) = wb := ⟨_, rfl⟩
  obtain ⟨hB, hN⟩ := alloc_box hwb
  have hgl : g < w.heap.size := (Array.getElem?_eq_some_iff.1 hg).1
  have HG : Hid (wb.heap[g]? = some (.cells (ab L) 51 (0, 0))) := (hB.block g hgl).trans hg
  have HGB : Hid (w.grownBy wb (some g)) := ⟨hB.os, hB.tape, hB.output, hB.size, fun k hk _ => hB.block k hk⟩
  obtain ⟨c0, c1⟩ := box2 hN
  have HN := hide hN
  have HGL : Hid (g ≠ w.heap.size) := by show g ≠ _; omega
  have hw1 : IntKind.i64.wrap (IntKind.i64.wrap ((a : Int) + ((d : Int) + 1)) - 2) = (a : Int) + d - 1 := by simp only [IntKind.wrap_i64]; omega
  clear hB hN hgl hg
  go_enter Tryd.func45, Tryd.ntmps45
  have h8 : ∀ x : Nat, IntKind.u8.wrap (48 + ((x % 8 : Nat) : Int)) = 48 + ((x % 8 : Nat) : Int) := fun x => by rw [IntKind.wrap_u8]; omega
  go_wp2
  go_loopw [2, 6] (fun vv at' wx => ∃ j : Nat, j ≤ d ∧ vv = .int .i64 ((n / 8 ^ j : Nat) : Int) ∧ at' = .int .i64 ((a : Int) + d - 1 - j) ∧ wx.heap[g]? = some (.cells (ab (wrt L (a + d - j) (oct n j))) 51 (0, 0)) ∧ w.grownBy wx (some g) ∧ wx.heap[w.heap.size]? = some (.cells #[.int .i64 a, .int .i64 ((d : Int) + 1)] 72 (0, 0))) (fun _ at' _ => ((intOf at') - a + 1).toNat)
  case atStart => exact ⟨0, Nat.zero_le _, by simp, by go_num, by rw [oct, wrt_nil]; exact HG.out, HGB.out, HN.out⟩
  case round =>
    obtain ⟨j, hj, rfl, rfl, h1, h2, h3⟩ := hrel
    obtain ⟨c0, c1⟩ := box2 h3
    obtain ⟨m, HM⟩ : ∃ m, Hid (m = n / 8 ^ j) := ⟨_, rfl⟩
    rw [← HM.out]
    have hm : m ≤ n := by rw [HM.out]; exact Nat.div_le_self _ _
    have H1 := hide h1
    have H2 := hide h2
    have H3 := hide h3
    clear h1 h2 h3
    by_cases hjd : j < d
    · obtain ⟨q, hq⟩ : ∃ q, a + d - 1 - j = q := ⟨_, rfl⟩
      have hq2 : (a : Int) + d - 1 - j = (q : Int) := by omega
      rw [hq2]
      have hlen : (wrt L (a + d - j) (oct n j)).length = 512 := by rw [wrt_len (by rw [oct_len]; omega)]; exact hl
      have hc := ab_cell H1.out (i := q) (by rw [hlen]; omega)
      have hfz : wr.frozen? ⟨g, q, none⟩ = false := by simp [World.frozen?, H1.out]
      have HS : Hid ((wr.setCell ⟨g, q, none⟩ (.int .u8 (48 + (m : Int) % 8))).heap[g]? = some (.cells (ab (wrt L (a + d - (j + 1)) (oct n (j + 1)))) 51 (0, 0))) := by
        show _ = _
        rw [ab_setCell H1.out, oct_front, ← wrt_cons _ _ _ _ (by rw [oct_len]; omega), show a + d - (j + 1) = q by omega, show q + 1 = a + d - j by omega, HM.out]
        congr 4
      have HS2 := hide (grown_set H2.out q (.int .u8 (48 + (m : Int) % 8)))
      have HS3 : Hid ((wr.setCell ⟨g, q, none⟩ (.int .u8 (48 + (m : Int) % 8))).heap[w.heap.size]? = some (.cells #[.int .i64 a, .int .i64 ((d : Int) + 1)] 72 (0, 0))) := (setCell_others _ _ _ _ _ (fun e => HGL.out e.symm)).trans H3.out
      have HMM : Hid ((m : Int) / 8 = ((n / 8 ^ (j + 1) : Nat) : Int)) := by
        show _ = _
        rw [Nat.pow_succ, ← Nat.div_div_eq_div_mul, ← HM.out]; omega
      have hqa : (a : Int) ≤ (q : Int) := by omega
      go_wp2
      go_roundw
      case rel => exact ⟨j + 1, by omega, by rw [HMM.out], by congr 1; omega, HS.out, HS2.out, HS3.out⟩
      case measure => simp only [intOf]; omega
    · obtain rfl : j = d := by omega
      have hqa : ¬ (a : Int) ≤ (a : Int) + j - 1 - j := by omega
      rw [show a + j - j = a by omega] at H1
      go_wp2
      go_end0
      exact ⟨rfl, H1.out, H2.out⟩

def sumN (L : List Int) : Int := (wrt L 148 (List.replicate 8 32)).sum

def bl8 : ByteArray := ⟨#[32, 32, 32, 32, 32, 32, 32, 32]⟩

theorem sum_rng (l : List Int) (h : ∀ x ∈ l, 0 ≤ x ∧ x < 256) (k : Nat) : 0 ≤ (l.take k).sum ∧ (l.take k).sum ≤ 255 * k := by
  induction k with
  | zero => simp
  | succ k ih =>
    rw [List.take_add_one, List.sum_append]
    cases hk : l[k]? with
    | none => simp; omega
    | some x =>
      have := h x (List.mem_of_getElem? hk)
      simp; omega

theorem sum_next (l : List Int) {k : Nat} (hk : k < l.length) : (l.take (k + 1)).sum = (l.take k).sum + l.getD k 0 := by
  rw [List.take_add_one, List.sum_append, List.getElem?_eq_getElem hk]
  simp [hk]

theorem wrt_rng {L t : List Int} {i : Nat} (h1 : ∀ x ∈ L, 0 ≤ x ∧ x < 256) (h2 : ∀ x ∈ t, 0 ≤ x ∧ x < 256) : ∀ x ∈ wrt L i t, 0 ≤ x ∧ x < 256 := by
  intro x hx
  unfold wrt at hx
  simp only [List.mem_append] at hx
  rcases hx with (h | h) | h
  · exact h1 x (List.mem_of_mem_take h)
  · exact h2 x h
  · exact h1 x (List.mem_of_mem_drop h)

theorem bl8_is : sbs bl8 = List.replicate 8 32 := by decide

set_option maxHeartbeats 4000000 in
theorem hsum (L : List Int) (w : World) (T : Tbs w) (hl : L.length = 512) (hb : ∀ x ∈ L, 0 ≤ x ∧ x < 256) :
    Calls Tryd.prog 37 #[.agg (ab L)] w fun e w' => e = .returned (.int .i64 (sumN L)) ∧ Below w.heap.size w w' := by
  have HRP : Hid (∀ w, Calls Tryd.prog 52 #[.string ⟨#[32]⟩, .int .i64 8] w fun e w' => e = .returned (.string bl8) ∧ Below w.heap.size w w') := fun w => sh_strings_Repeat ⟨#[32]⟩ 8 w (by decide) (by decide)
  obtain ⟨wb, hwb⟩ : ∃ wb, w.alloc (.cells (ab L) 51) = wb := ⟨_, rfl⟩
  obtain ⟨hB, hN⟩ := alloc_box hwb
  obtain ⟨w2, hw2⟩ : ∃ w2, wb.alloc (.cells #[.int .i64 148, .int .i64 8] 72) = w2 := ⟨_, rfl⟩
  obtain ⟨hB2, hN2⟩ := alloc_box hw2
  have t14 := (T.mono hB).nm 14 148 rfl
  have t15 := (T.mono hB).nm 15 8 rfl
  have HB2 := hide (hB.trans (hB2.mono hB.size))
  have HG2 : Hid (w2.heap[w.heap.size]? = some (.cells (ab L) 51 (0, 0))) := (hB2.block _ (Array.getElem?_eq_some_iff.1 hN).1).trans hN
  have HZ : Hid (wb.heap.size = w.heap.size + 1 ∧ w2.heap.size = w.heap.size + 2) := by
    show _ ∧ _
    rw [← hw2, ← hwb]
    simp
  have HP : Hid (∀ wx, Below w2.heap.size w2 wx → wx.cell? ⟨wb.heap.size, 0, none⟩ = some (.int .i64 148) ∧ wx.cell? ⟨wb.heap.size, 1, none⟩ = some (.int .i64 8)) := fun wx hx => box2 ((hx.block _ (Array.getElem?_eq_some_iff.1 hN2).1).trans hN2)
  obtain ⟨A, HA⟩ : ∃ A, Hid (A = ab L) := ⟨_, rfl⟩
  have hA := HA.out.symm
  rw [hA] at hwb ⊢
  clear hA hB hN hB2 hN2 T
  go_enter Tryd.func37, Tryd.ntmps37
  go_wp2
  obtain ⟨p0, p1⟩ := HP.out w2 (Below.refl _ _)
  have hpo := HP.out
  have HST := hide (And.intro p0 p1)
  have HKQ : Hid (∀ wx wy, Below w2.heap.size w2 wx → wx.grownBy wy (some w.heap.size) → wy.cell? ⟨wb.heap.size, 0, none⟩ = some (.int .i64 148) ∧ wy.cell? ⟨wb.heap.size, 1, none⟩ = some (.int .i64 8)) := fun wx wy h1 h2 => by
    have hz := HZ.out
    have hs := h1.size
    have e := h2.block wb.heap.size (by omega) (fun e => by simp only [Option.some.injEq] at e; omega)
    have q := hpo wx h1
    exact ⟨(World.cell?_of_block e).trans q.1, (World.cell?_of_block e).trans q.2⟩
  have hw156 : IntKind.i64.wrap 156 = 156 := by decide
  have hbz1 : bl8.size ≤ 8 := by decide
  have HUN : Hid (∀ wx, Below w2.drew.heap.size w2.drew wx → Below w2.heap.size w2 wx) := fun wx h => ⟨h.os, h.tape, h.output, h.size, h.block⟩
  have hbz2 : 148 + bl8.size ≤ L.length := by rw [hl]; decide
  clear hwb hw2 t14 t15
  have hgw : ∀ i, w2.frozen? ⟨w.heap.size, i, none⟩ = false := fun i => by simp [World.frozen?, HG2.out]
  go_region_held3 (fun W => W.cell? ⟨wb.heap.size, 0, none⟩ = some (.int .i64 148) ∧ W.cell? ⟨wb.heap.size, 1, none⟩ = some (.int .i64 8)) (first | exact HS4.out | exact HS3.out | exact HST.out)
    (first
      | (go_at_call 52; refine (HRP.out _).mono ?_; rintro e w3 ⟨rfl, hb3⟩; have HB3 := hide (HUN.out _ hb3); clear hb3; have HS3 := hide (hpo w3 HB3.out); have HG3 := hide ((HB3.out.block _ (Array.getElem?_eq_some_iff.1 HG2.out).1).trans HG2.out))
      | (refine step_copyS (by rfl) _ _ (by rfl) w.heap.size 148 8 364 L 51 HG3.out (by simp [Act.eval, Act.put]) bl8 (by simp [Act.eval, Act.put]) hbz1 hbz2 ?_; intro w4 h4 g4 z4; have HG4 := hide h4.out; have HGR := hide g4; have HS4 := hide (HKQ.out _ _ HB3.out g4); clear h4 z4 g4))
  obtain ⟨M, HM⟩ : ∃ M, Hid (M = wrt L 148 (sbs bl8)) := ⟨_, rfl⟩
  rw [← HM.out] at HG4
  have HB4 : Hid (Below w.heap.size w w4) := by
    have h3 := HB2.out.trans (HB3.out.mono HB2.out.size)
    have g := HGR.out
    exact ⟨g.os.trans h3.os, g.tape.trans h3.tape, g.output.trans h3.output, Nat.le_trans h3.size g.size, fun b hb => (g.block b (by have := h3.size; omega) (fun e => by simp only [Option.some.injEq] at e; omega)).trans (h3.block b hb)⟩
  have HML : Hid (M.length = 512) := by show _ = _; rw [HM.out, wrt_len (by rw [sbs_len]; exact hbz2)]; exact hl
  have HSUM : Hid (sumN L = M.sum) := by show _ = _; rw [HM.out, bl8_is]; rfl
  have HRG : Hid (∀ x ∈ M, 0 ≤ x ∧ x < 256) := by
    show ∀ x ∈ M, _
    rw [HM.out, bl8_is]
    exact wrt_rng hb (fun x hx => by rw [List.eq_of_mem_replicate hx]; decide)
  obtain ⟨B, HBE⟩ : ∃ B, Hid (B = ab M) := ⟨_, rfl⟩
  have HIX : Hid (∀ k : Nat, k < 512 → ∀ w, (Instr.index 51 (.agg B) (.int .i64 k)).run Tryd.prog w = .ok (.int .u8 (M.getD k 0)) w) := fun k hk w => by rw [HBE.out]; exact ix512 HML.out hk w
  clear p0 p1 hpo HKQ hbz2 hgw hbz1 hw156 hb hl HUN HP HRP
  go_wp2_with ((with_reducible refine ld512 w.heap.size M HML.out ?hx HG4.out ?_); case hx => rfl)
  rw [← HBE.out]
  go_wp2
  go_loopw [4, 22] (fun n i wx => ∃ k : Nat, k ≤ 512 ∧ n = .int .i64 (M.take k).sum ∧ i = .int .i64 k ∧ wx = w4) (fun _ i _ => 512 - (intOf i).toNat)
  case atStart => exact ⟨0, Nat.zero_le _, rfl, rfl, rfl⟩
  case round =>
    obtain ⟨k, hk, rfl, rfl, hwx⟩ := hrel
    obtain ⟨q1, q2⟩ := sum_rng M HRG.out k
    obtain ⟨S, HSS⟩ : ∃ S, Hid (S = (M.take k).sum) := ⟨_, rfl⟩
    rw [← HSS.out] at q1 q2 ⊢
    by_cases hlt : k < 512
    · have hlt' : (k : Int) < 512 := by omega
      have hix := HIX.out k hlt
      have HN := hide (sum_next M (k := k) (by have := HML.out; omega))
      obtain ⟨x, hx⟩ : ∃ x, M.getD k 0 = x := ⟨_, rfl⟩
      have hxr : 0 ≤ x ∧ x < 256 := by
        have hkm : k < M.length := by have := HML.out; omega
        have := HRG.out (M[k]) (List.getElem_mem hkm)
        rw [← hx]; simpa [hkm] using this
      rw [hx] at hix HN
      rw [← HSS.out] at HN
      have hw1 : IntKind.i64.wrap x = x := by rw [IntKind.wrap_i64]; omega
      have hw2 : IntKind.i64.wrap (S + x) = S + x := by rw [IntKind.wrap_i64]; omega
      clear hx
      go_wp2
      go_roundw
      case rel => exact ⟨k + 1, by omega, by rw [HN.out], by go_num, by first | exact hwx | trivial⟩
      case measure => simp [intOf]; omega
    · obtain rfl : k = 512 := by omega
      have HS5 : Hid (S = M.sum) := by
        show _ = _
        rw [HSS.out, List.take_of_length_le (by have := HML.out; omega)]
      go_wp2
      go_ret
      exact ⟨by rw [HSUM.out, ← HS5.out]; rfl, HB4.out⟩
end Go.Proofs.YtaeifigbnlffbaaDoor

