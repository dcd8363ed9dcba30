import Derived.Test.YtiabhmdefaabgaaDoorGNx
import Derived.Test.YtiabhmdefaabgaaDoorGWj
namespace Go.Proofs.YtiabhmdefaabgaaDoor
open Go.RowKit Go.Maps
set_option maxRecDepth 20000

/-- One byte more behind the row of an object. -/
theorem WV.snoc {T : Nat} {rest : List Value} {w W w6 : World} {K : Nat → Nat} {g : Nat} {v v' : Value} {d : List Int} {q : Int} {o : Obj} (h : WV T rest w K g v d) (hW : W.heap = (w.alloc o).heap) (h1 : W.os = w.os) (h2 : W.tape = w.tape) (h3 : W.output = w.output) (ho : OB w6 0 v' (d ++ [q])) (hg : Grew W w6 v v') :
    ∃ K', WV T rest (w6.setCell ⟨g, 0, none⟩ v') K' g v' (d ++ [q]) ∧ Fr K K' w (w6.setCell ⟨g, 0, none⟩ v') := by
  have hgr : w.grownBy W v.ownBlock := ⟨h1, h2, h3, by rw [hW, size_alloc']; omega, fun k hk _ => by rw [hW]; exact Below.heap_alloc _ _ k hk⟩
  refine h.put (hgr.trans hg.by) ho ?_
  rcases hg.at with e | e
  · exact .inr (fun k hk => by rw [e, hW, size_alloc'] at hk; cases hk; omega)
  · exact .inl e

/-- What the append's step wants, for a block of one byte. -/
theorem WV.alloc1 {T : Nat} {rest : List Value} {w : World} {K : Nat → Nat} {g : Nat} {v : Value} {d : List Int} (h : WV T rest w K g v d) (q : Int) :
    (w.alloc (.cells #[.int .u8 q] 5)).cell? ⟨g, 0, none⟩ = some v ∧ (∀ W : World, W.heap = (w.alloc (.cells #[.int .u8 q] 5)).heap → OB W 0 v d) ∧
    (∀ W : World, W.heap = (w.alloc (.cells #[.int .u8 q] 5)).heap → Src Tryd.prog 1 52 (.slice (some ⟨w.heap.size, 0, none⟩) 1 1) ([q] : List Int).length (([q] : List Int).map (Value.int .u8)) W) ∧
    (∀ (W w6 : World) (u : Value), W.heap = (w.alloc (.cells #[.int .u8 q] 5)).heap → Grew W w6 v u → w6.cell? ⟨g, 0, none⟩ = some v ∧ w6.frozen? ⟨g, 0, none⟩ = false) := by
  have hgl := h.lt
  refine ⟨?_, fun W hW => OB.move (w := w) h.o fun x hx => by rw [hW]; exact Below.heap_alloc _ _ x (h.o.lt x hx).2, fun W hW => ((built_sb w [q] (by unfold maxLen; simp)).heap hW).src, fun W w6 u hW hg => ?_⟩
  · rw [((Below.refl w.heap.size w).alloc (Nat.le_refl _) _).cell hgl]; exact h.cell 0
  · have e1 : w6.heap[g]? = w.heap[g]? := (hg.by.block g (by rw [hW, size_alloc']; omega) (fun e => h.ng e.symm)).trans (by rw [hW]; exact Below.heap_alloc _ _ g hgl)
    have e2 := e1.trans h.s
    exact ⟨by simp [World.cell?, e2], by simp [World.frozen?, e2]⟩

/-- The document's reader. -/
def Rq (w : World) (K : Nat → Nat) (g : Nat) (row : List Int) (p : Nat) : Prop := ∃ v, WV 82 [.int .i64 p] w K g v row ∧ Bit row ∧ p ≤ row.length ∧ row.length ≤ 268435456 ∧ row.length % 8 = 0

theorem Rq.far {w w' : World} {K : Nat → Nat} {g : Nat} {row : List Int} {p : Nat} (h : Rq w K g row p) (hsz : w.heap.size ≤ w'.heap.size) (hb : ∀ k, K k ≠ 0 → w'.heap[k]? = w.heap[k]?) : Rq w' K g row p := by
  obtain ⟨v, h1, h2⟩ := h
  exact ⟨v, h1.far hsz hb, h2⟩

theorem Rq.drewN {w : World} {K : Nat → Nat} {g : Nat} {row : List Int} {p : Nat} (h : Rq w K g row p) (n : Nat) : Rq (w.drewN n) K g row p := h.far (Nat.le_refl _) (fun _ _ => rfl)

theorem Rq.sup {w : World} {K : Nat → Nat} {g : Nat} {row : List Int} {p : Nat} (h : Rq w K g row p) : ∀ k, K k ≠ 0 → k < w.heap.size := by
  obtain ⟨_, h, _⟩ := h
  exact h.sup

theorem Rq.move {w : World} {K : Nat → Nat} {g : Nat} {row : List Int} {p : Nat} (h : Rq w K g row p) (q : Nat) (x : Int) (hx : x = q) (hq : q ≤ row.length) : Rq (w.setCell ⟨g, 1, none⟩ (.int .i64 x)) K g row q ∧ Fr K K w (w.setCell ⟨g, 1, none⟩ (.int .i64 x)) := by
  subst hx
  obtain ⟨v, h1, h2, h3, h4⟩ := h
  obtain ⟨a1, a2⟩ := h1.set 0 (.int .i64 q)
  exact ⟨⟨v, a1, h2, hq, h4⟩, a2⟩

theorem qat_any {w : World} {K : Nat → Nat} {g : Nat} {row : List Int} {p : Nat} (h : Rq w K g row p) :
    Calls Tryd.prog 32 #[.pointer (some ⟨g, 0, none⟩)] w fun e w' => e = .returned (.int .i64 p) ∧ w' = w := by
  obtain ⟨v, h1, -⟩ := h
  have c1 : w.cell? ⟨g, 1, none⟩ = some (.int .i64 p) := h1.cell 1
  clear h1
  go_enter Tryd.func32, Tryd.ntmps32
  go_wp2
  go_ret
  exact ⟨rfl, rfl⟩

theorem qskip_any {w : World} {K : Nat → Nat} {g : Nat} {row : List Int} {p : Nat} (h : Rq w K g row p) (n : Int) :
    Calls Tryd.prog 28 #[.pointer (some ⟨g, 0, none⟩), .int .i64 n] w fun e w' => e = .returned (.int .i64 (skipE row p n)) ∧ Rq w' K g row (skipP row p n) ∧ Fr K K w w' := by
  have H := hide h
  obtain ⟨v, h1, h2, h3, h4, h5⟩ := h
  have c0 : w.cell? ⟨g, 0, none⟩ = some v := h1.cell 0
  have c1 : w.cell? ⟨g, 1, none⟩ = some (.int .i64 p) := h1.cell 1
  have cf : w.frozen? ⟨g, 1, none⟩ = false := h1.free 1
  obtain ⟨a, c, rfl⟩ := h1.o.shape
  clear h1 h2 h5
  by_cases hn : n < 0
  · have HE : Hid (skipE row p n = 1 ∧ skipP row p n = p) := ⟨if_pos hn, if_pos hn⟩
    go_enter Tryd.func28, Tryd.ntmps28
    go_wp2
    go_ret
    rw [HE.out.1, HE.out.2]
    exact ⟨rfl, H.out, Fr.refl _ _⟩
  by_cases hl : n ≤ (row.length : Int) - p
  · have HE : Hid (skipE row p n = 0 ∧ skipP row p n = p + n.toNat) := ⟨by show (if _ then _ else _) = _; rw [if_neg hn, if_pos hl], by show (if _ then _ else _) = _; rw [if_neg hn, if_pos hl]⟩
    obtain ⟨m, rfl⟩ : ∃ m : Nat, n = m := ⟨n.toNat, by omega⟩
    have HM : Hid (∀ q, Rq ((w.drewN q).setCell ⟨g, 1, none⟩ (.int .i64 ((p : Int) + m))) K g row (p + m) ∧ Fr K K w ((w.drewN q).setCell ⟨g, 1, none⟩ (.int .i64 ((p : Int) + m)))) := fun q => by
      obtain ⟨a1, a2⟩ := (H.out.drewN q).move (p + m) ((p : Int) + m) (by omega) (by omega)
      exact ⟨a1, ((Fr.refl _ _).drewN q).trans a2⟩
    go_enter Tryd.func28, Tryd.ntmps28
    go_wp2
    go_quiet (fail)
    go_wp2
    go_ret
    rw [HE.out.1, HE.out.2]
    exact ⟨rfl, HM.out _⟩
  · have HE : Hid (skipE row p n = 30 ∧ skipP row p n = p) := ⟨by show (if _ then _ else _) = _; rw [if_neg hn, if_neg hl], by show (if _ then _ else _) = _; rw [if_neg hn, if_neg hl]⟩
    go_enter Tryd.func28, Tryd.ntmps28
    go_wp2
    go_quiet (fail)
    go_wp2
    go_ret
    rw [HE.out.1, HE.out.2]
    exact ⟨rfl, H.out.drewN _, (Fr.refl _ _).drewN _⟩

end Go.Proofs.YtiabhmdefaabgaaDoor

namespace Go.Proofs.YtiabhmdefaabgaaDoor
open Go.RowKit Go.Maps
set_option maxRecDepth 20000

theorem ahead_snoc {row : List Int} {p i : Nat} (h : p + i < row.length) : ahead row p (i + 1) = ahead row p i + row.getD (p + i) 0 * 2 ^ i := by
  unfold ahead
  have hl : i < (row.drop p).length := by rw [List.length_drop]; omega
  rw [List.take_succ_eq_append_getElem hl, val_append, List.length_take, Nat.min_eq_left (by omega)]
  have e : (row.drop p)[i] = row.getD (p + i) 0 := by
    rw [List.getElem_drop]
    simp [List.getD, h]
  rw [e]
  simp only [val]
  rw [Int.mul_comm]
  simp

set_option maxHeartbeats 1000000 in
theorem qpeek_any {w : World} {K : Nat → Nat} {g : Nat} {row : List Int} {p : Nat} (h : Rq w K g row p) (n : Int) :
    Calls Tryd.prog 75 #[.pointer (some ⟨g, 0, none⟩), .int .i64 n] w fun e w' => e = .returned (.tuple #[.int .u32 (peekV row p n), .int .i64 (peekK row p n)]) ∧ ∃ q, w' = w.drewN q := by
  obtain ⟨v, h1, h2, h3, h4, h5⟩ := h
  have c0 : ∀ q, (w.drewN q).cell? ⟨g, 0, none⟩ = some v := fun q => h1.cell 0
  have c1 : ∀ q, (w.drewN q).cell? ⟨g, 1, none⟩ = some (.int .i64 p) := fun q => h1.cell 1
  have HOB := hide h1.o
  have HBT := hide h2
  obtain ⟨a, c, rfl⟩ := h1.o.shape
  obtain ⟨hcc, hcm⟩ := h1.o.sb.cap
  clear h1 h2 h5
  by_cases hc : Cnt n
  case neg =>
    have HE : Hid (peekV row p n = 0 ∧ peekK row p n = 0) := ⟨if_neg hc, if_neg hc⟩
    by_cases h0 : n < 0
    · clear hc
      go_enter Tryd.func75, Tryd.ntmps75
      go_wp2
      go_ret2
      rw [HE.out.1, HE.out.2]
      exact ⟨rfl, 0, rfl⟩
    · have h32 : 32 < n := by unfold Cnt at hc; omega
      clear hc
      go_enter Tryd.func75, Tryd.ntmps75
      go_wp2
      go_ret2
      rw [HE.out.1, HE.out.2]
      exact ⟨rfl, 0, rfl⟩
  case pos =>
    have HE : Hid (peekV row p n = ahead row p n.toNat ∧ peekK row p n = min n ((row.length : Int) - p)) := ⟨if_pos hc, if_pos hc⟩
    obtain ⟨n0, n1⟩ := hc
    obtain ⟨m, rfl⟩ : ∃ m : Nat, n = m := ⟨n.toNat, by omega⟩
    go_enter Tryd.func75, Tryd.ntmps75
    go_wp2
    go_loopw [6, 7, 8] (fun x kk i wr => ∃ j q : Nat, j ≤ m ∧ p + j ≤ row.length ∧ i = .int .i64 j ∧ kk = .int .i64 j ∧ x = .int .u32 (ahead row p j) ∧ wr = w.drewN q) (fun _ _ i _ => m - (intOf i).toNat)
    case atStart => exact ⟨0, 0, Nat.zero_le _, by omega, rfl, rfl, by simp [ahead, val], rfl⟩
    case round =>
      obtain ⟨j, q, hj, hpj, rfl, rfl, rfl, rfl⟩ := hrel
      have k0 := c0 q
      have k1 := c1 q
      have hab := ahead_bound HBT.out p j
      obtain ⟨A, HA⟩ : ∃ A, Hid (A = ahead row p j) := ⟨_, rfl⟩
      rw [← HA.out] at hab ⊢
      have h232 : (2 : Int) ^ j ≤ 2 ^ 32 := pow_le (by omega)
      by_cases hjm : j < m
      · have hjm' : (j : Int) < (m : Int) := by omega
        have hdg : decide ((j : Int) < (m : Int)) = true := decide_eq_true hjm'
        by_cases hpl : p + j < row.length
        · have hpl' : (p : Int) + j < (row.length : Int) := by omega
          obtain ⟨b, hb⟩ : ∃ b, a = some ⟨b, 0, none⟩ := by
            rcases HOB.out.2 with ⟨e, h0⟩ | ⟨gb, c', cur, e, _⟩
            · omega
            · simp only [Value.slice.injEq] at e
              exact ⟨gb, e.1⟩
          subst hb
          obtain ⟨y, HY⟩ : ∃ y, Hid (y = row.getD (p + j) 0) := ⟨_, rfl⟩
          have hy : (w.drewN q).cell? ⟨b, p + j, none⟩ = some (.int .u8 y) := by rw [HY.out]; exact HOB.out.get rfl hpl
          have hyb : y = 0 ∨ y = 1 := by
            rw [HY.out]
            have : row.getD (p + j) 0 = row[p + j] := by simp [List.getD, hpl]
            rw [this]
            exact HBT.out _ (List.getElem_mem _)
          have HS := hide (ahead_snoc hpl)
          rw [← HA.out, ← HY.out] at HS
          have h231 : (2 : Int) ^ j ≤ 2 ^ 31 := pow_le (by omega)
          have hpp := pow_pos j
          have hz : 0 ≤ y * 2 ^ j ∧ y * 2 ^ j ≤ 2 ^ j := by rcases hyb with e | e <;> rw [e] <;> omega
          have hw1 : IntKind.u32.wrap (y * 2 ^ j) = y * 2 ^ j := by rw [IntKind.wrap_u32]; omega
          have hw2 : IntKind.u32.wrap (A + y * 2 ^ j) = A + y * 2 ^ j := by rw [IntKind.wrap_u32]; omega
          have hy0 : 0 ≤ y := by omega
          have hy1 : y ≤ 1 := by omega
          have hp0 : (0 : Int) ≤ (p : Int) + j := by omega
          have htn : ((p : Int) + j).toNat = p + j := by omega
          have hwp : IntKind.i64.wrap ((p : Int) + j) = (p : Int) + j := by rw [IntKind.wrap_i64]; omega
          clear hab h232 h231 hpp hz hyb
          go_wp2
          go_quiet (fail)
          go_wp2
          rw [World.drewN_drewN]
          generalize q + _ = q' at *
          have k0 := c0 q'
          have k1 := c1 q'
          have hy1 : (w.drewN q').cell? ⟨b, p + j, none⟩ = some (.int .u8 y) := hy
          have hy2 : w.cell? ⟨b, p + j, none⟩ = some (.int .u8 y) := hy
          have hy3 : ∀ n, ((w.drewN q').drewN n).cell? ⟨b, p + j, none⟩ = some (.int .u8 y) := fun n => hy
          go_quiet (fail)
          go_wp2
          go_roundw
          case rel => exact ⟨j + 1, _, by omega, by omega, by go_num, by go_num, by rw [HS.out], by (try simp only [World.drewN_drewN]); rfl⟩
          case measure => simp [intOf]; omega
        · have hpl' : ¬ (p : Int) + j < (row.length : Int) := by omega
          have hpd : decide ((p : Int) + j < (row.length : Int)) = false := decide_eq_false hpl'
          have hjL : (j : Int) = (row.length : Int) - p := by omega
          have HJ : Hid (ahead row p m = A) := by
            show _ = _
            rw [HA.out]
            unfold ahead
            rw [List.take_of_length_le (by rw [List.length_drop]; omega), List.take_of_length_le (by rw [List.length_drop]; omega)]
          have HMn : Hid (min (m : Int) ((row.length : Int) - p) = (j : Int)) := by show _ = _; omega
          clear hjL hab h232
          go_wp2
          go_quiet (fail)
          go_wp2
          go_ret2
          refine ⟨?_, _, by (try simp only [World.drewN_drewN]); rfl⟩
          rw [HE.out.1, HE.out.2, HMn.out, Int.toNat_natCast, HJ.out]
          rfl
      · obtain rfl : j = m := by omega
        have hjm' : ¬ (j : Int) < (j : Int) := by omega
        have hdg : decide ((j : Int) < (j : Int)) = false := decide_eq_false hjm'
        have HMn : Hid (min (j : Int) ((row.length : Int) - p) = (j : Int)) := by show _ = _; omega
        clear hab h232
        go_wp2
        go_quiet (fail)
        go_wp2
        go_ret2
        refine ⟨?_, _, by (try simp only [World.drewN_drewN]); rfl⟩
        rw [HE.out.1, HE.out.2, HMn.out, Int.toNat_natCast, ← HA.out]
        rfl

theorem qtake_any {w : World} {K : Nat → Nat} {g : Nat} {row : List Int} {p : Nat} (h : Rq w K g row p) (n : Int) :
    Calls Tryd.prog 55 #[.pointer (some ⟨g, 0, none⟩), .int .i64 n] w fun e w' => e = .returned (.tuple #[.int .u32 (takeV row p n), .int .i64 (takeE row p n)]) ∧ Rq w' K g row (takeP row p n) ∧ Fr K K w w' := by
  have H := hide h
  obtain ⟨v, h1, h2, h3, h4, h5⟩ := h
  have c0 : ∀ q, (w.drewN q).cell? ⟨g, 0, none⟩ = some v := fun q => h1.cell 0
  have c1 : ∀ q, (w.drewN q).cell? ⟨g, 1, none⟩ = some (.int .i64 p) := fun q => h1.cell 1
  have c0' : w.cell? ⟨g, 0, none⟩ = some v := h1.cell 0
  have c1' : w.cell? ⟨g, 1, none⟩ = some (.int .i64 p) := h1.cell 1
  have cf : ∀ q, (w.drewN q).frozen? ⟨g, 1, none⟩ = false := fun q => h1.free 1
  obtain ⟨a, c, rfl⟩ := h1.o.shape
  clear h1 h2 h5
  by_cases hc : Cnt n
  case neg =>
    have HE : Hid (takeE row p n = 1 ∧ takeV row p n = 0 ∧ takeP row p n = p) := ⟨if_neg hc, if_neg fun h => hc h.1, if_neg fun h => hc h.1⟩
    by_cases h0 : n < 0
    · clear hc c0 c1 cf
      go_enter Tryd.func55, Tryd.ntmps55
      go_wp2
      go_ret2
      rw [HE.out.1, HE.out.2.1, HE.out.2.2]
      exact ⟨rfl, H.out, Fr.refl _ _⟩
    · have h32 : 32 < n := by unfold Cnt at hc; omega
      clear hc c0 c1 cf
      go_enter Tryd.func55, Tryd.ntmps55
      go_wp2
      go_ret2
      rw [HE.out.1, HE.out.2.1, HE.out.2.2]
      exact ⟨rfl, H.out, Fr.refl _ _⟩
  case pos =>
  have HC := hide hc
  obtain ⟨n0, n1⟩ := id hc
  by_cases hl : n ≤ (row.length : Int) - p
  case neg =>
    have HE : Hid (takeE row p n = 30 ∧ takeV row p n = 0 ∧ takeP row p n = p) := ⟨by show (if _ then _ else _) = _; rw [if_pos hc, if_neg hl], if_neg fun h => hl h.2, if_neg fun h => hl h.2⟩
    clear hc c0 c1 cf
    go_enter Tryd.func55, Tryd.ntmps55
    go_wp2
    go_quiet (fail)
    go_wp2
    go_ret2
    rw [HE.out.1, HE.out.2.1, HE.out.2.2]
    exact ⟨rfl, H.out.drewN _, (Fr.refl _ _).drewN _⟩
  case pos =>
    have HE : Hid (takeE row p n = 0 ∧ takeV row p n = peekV row p n ∧ takeP row p n = p + n.toNat) := ⟨by show (if _ then _ else _) = _; rw [if_pos hc, if_pos hl], (if_pos (show takeOk row p n from ⟨hc, hl⟩)).trans (if_pos hc).symm, if_pos ⟨hc, hl⟩⟩
    obtain ⟨m, rfl⟩ : ∃ m : Nat, n = m := ⟨n.toNat, by omega⟩
    have HM : Hid (∀ q, Rq ((w.drewN q).setCell ⟨g, 1, none⟩ (.int .i64 ((p : Int) + m))) K g row (p + m) ∧ Fr K K w ((w.drewN q).setCell ⟨g, 1, none⟩ (.int .i64 ((p : Int) + m)))) := fun q => by
      obtain ⟨a1, a2⟩ := (H.out.drewN q).move (p + m) ((p : Int) + m) (by omega) (by omega)
      exact ⟨a1, ((Fr.refl _ _).drewN q).trans a2⟩
    clear hc
    go_enter Tryd.func55, Tryd.ntmps55
    go_wp2
    go_quiet (fail)
    rename_i nq _
    go_wp2_with fail
    refine (qpeek_any (H.out.drewN nq) m).mono ?_
    rintro e w1 ⟨rfl, q2, rfl⟩
    (try rw [World.drewN_drewN])
    have k1 := c1 (nq + q2)
    have kf := cf (nq + q2)
    clear c0 c1 cf
    go_wp2
    go_ret2
    rw [HE.out.1, HE.out.2.1, HE.out.2.2]
    exact ⟨rfl, HM.out _⟩
end Go.Proofs.YtiabhmdefaabgaaDoor

namespace Go.Proofs.YtiabhmdefaabgaaDoor
open Go.RowKit Go.Maps
set_option maxRecDepth 20000

theorem pad_self {row : List Int} (h : row.length % 8 = 0) : pad row = row := by
  unfold pad
  rw [show (row.length + 7) / 8 * 8 - row.length = 0 by omega]
  simp

/-- The bytes that come off, one by one. -/
theorem rraw_get {row : List Int} (hb : Bit row) {p n : Nat} (hl : p + 8 * n ≤ row.length) :
    (pack ((row.drop p).take (8 * n))).length = n ∧ Byt (pack ((row.drop p).take (8 * n))) ∧ ∀ k, k < n → ahead row (p + 8 * k) 8 = (pack ((row.drop p).take (8 * n))).getD k 0 := by
  have hX : Bit ((row.drop p).take (8 * n)) := (hb.drop p).take _
  have hXl : ((row.drop p).take (8 * n)).length = 8 * n := by rw [List.length_take, List.length_drop]; omega
  obtain ⟨hu, hB⟩ := unpack_pack hX
  rw [pad_self (by omega)] at hu
  have hlen : (pack ((row.drop p).take (8 * n))).length = n := by rw [length_pack hX, hXl]; omega
  refine ⟨hlen, hB, fun k hk => ?_⟩
  obtain ⟨L, HL⟩ : ∃ L, L = pack ((row.drop p).take (8 * n)) := ⟨_, rfl⟩
  rw [← HL] at hu hB hlen ⊢
  have e1 : (row.drop (p + 8 * k)).take 8 = ((unpack L).drop (8 * k)).take 8 := by
    rw [hu, List.drop_take, List.drop_drop, List.take_take, Nat.min_eq_left (by omega)]
  unfold ahead
  rw [e1, ← unpack_drop, List.drop_eq_getElem_cons (by omega), unpack_cons, List.take_append_of_le_length (by rw [length_bts]; exact Nat.le_refl _), List.take_of_length_le (by rw [length_bts]; exact Nat.le_refl _)]
  have hk2 : k < L.length := by omega
  have hg : L.getD k 0 = L[k] := by simp [List.getD, hk2]
  have hb2 := hB k
  rw [hg] at hb2 ⊢
  exact val_bts_in hb2.1 (by omega)

theorem peek_in8 {row : List Int} {p : Nat} : peekV row p 8 = ahead row p 8 := by
  have hc : Cnt 8 := ⟨by omega, by omega⟩
  unfold peekV; rw [if_pos hc]; rfl

end Go.Proofs.YtiabhmdefaabgaaDoor

namespace Go.Proofs.YtiabhmdefaabgaaDoor
open Go.RowKit Go.Maps
set_option maxRecDepth 20000

/-- A reader of the document's just made. -/
def MadeQ (w : World) (row : List Int) (e : Ending) (w' : World) : Prop := ∃ g K, e = .returned (.pointer (some ⟨g, 0, none⟩)) ∧ Rq w' K g row 0 ∧ (∀ k, K k ≠ 0 → w.heap.size ≤ k) ∧ Below w.heap.size w w'

/-- The document's reader while it is filled. -/
def Fill (w : World) (g : Nat) (U : List Int) (n : Nat) (wr : World) : Prop := ∃ K1 v1, WV 82 [.int .i64 0] wr K1 g v1 (U.take n) ∧ (∀ k, K1 k ≠ 0 → w.heap.size ≤ k) ∧ Below w.heap.size w wr

set_option linter.unusedSimpArgs false in
set_option maxHeartbeats 4000000 in
theorem qnewReader_any (u : Value) (l : List Int) (w : World) (h : SB w u l) (hB : Byt l) (hl : l.length ≤ 33554432) :
    Calls Tryd.prog 26 #[u] w fun e w' => MadeQ w (unpack l) e w' := by
  obtain ⟨ao, cap, hu⟩ := h.len
  subst hu
  obtain ⟨hcap1, hcap2⟩ := h.cap
  have HS := hide h
  have HBy := hide hB
  obtain ⟨U, HU⟩ : ∃ U, Hid (U = unpack l) := ⟨_, rfl⟩
  have HUl : Hid (U.length = 8 * l.length) := by show _ = _; rw [HU.out, length_unpack]
  rw [← HU.out]
  clear h hB
  have HST : Hid (Fill w w.heap.size U 0 (w.alloc (.cells #[.slice none 0 0, .int .i64 0] 82))) := by
    refine ⟨fun k => if k = w.heap.size then 1 else 0, .slice none 0 0, ⟨heap_alloc_new w _, by simp, World.ownsRow_nil _ _ _ _, (fun k hk => by simp [Value.ownBlock] at hk), fun k hk => ?_⟩, fun k hk => ?_, (Below.refl _ _).alloc (Nat.le_refl _) _⟩
    · by_cases e : k = w.heap.size
      · rw [e, size_alloc']; omega
      · simp [e] at hk
    · by_cases e : k = w.heap.size
      · omega
      · simp [e] at hk
  obtain ⟨g, HG⟩ : ∃ g, Hid (g = w.heap.size) := ⟨_, rfl⟩
  go_enter Tryd.func26, Tryd.ntmps26
  go_wp2
  rw [← HG.out] at HST ⊢
  go_loopw [4] (fun i wr => ∃ k : Nat, k ≤ l.length ∧ i = .int .i64 k ∧ Hid (Fill w g U (8 * k) wr)) (fun i _ => l.length - (intOf i).toNat)
  case atStart => exact ⟨0, Nat.zero_le _, rfl, HST.out⟩
  case round =>
    clear HST
    obtain ⟨k, hk, rfl, HQ⟩ := hrel
    by_cases hlt : k < l.length
    · have hlt' : (k : Int) < (l.length : Int) := by omega
      go_wp2
      go_loopw [5] (fun i wr => ∃ j : Nat, j ≤ 8 ∧ i = .int .i64 j ∧ Hid (Fill w g U (8 * k + j) wr)) (fun i _ => 8 - (intOf i).toNat)
      case atStart => exact ⟨0, by omega, rfl, HQ.out⟩
      case round =>
        clear HQ
        obtain ⟨j, hj, rfl, HQ⟩ := hrel
        obtain ⟨K1, v1, hW, hN, hBe⟩ := HQ.out
        have HW := hide hW
        have HN := hide hN
        have HBE := hide hBe
        clear HQ hW hN hBe
        by_cases hj8 : j < 8
        · have hj8' : (j : Int) < 8 := by omega
          obtain ⟨x, hx⟩ : ∃ x, l[k]? = some x := ⟨l[k], by simp [hlt]⟩
          have hbit := unpack_get hx hj8
          rw [← HU.out] at hbit
          obtain ⟨b, o, hao, hc⟩ := HS.out.byte HBE.out hlt
          have hxd : l.getD k 0 = x := by rw [List.getD, hx]; rfl
          rw [hxd] at hc
          obtain ⟨hx0, hx1⟩ := HBy.out.get hx
          subst hao
          have HTO := hide (take_one hbit)
          obtain ⟨q, HQ⟩ : ∃ q, Hid (q = x / 2 ^ j % 2) := ⟨_, rfl⟩
          rw [← HQ.out] at HTO
          obtain ⟨D, HD⟩ : ∃ D, Hid (D = U.take (8 * k + j)) := ⟨_, rfl⟩
          have hDl : D.length ≤ 268435456 := by rw [HD.out, List.length_take, HUl.out]; omega
          rw [← HD.out] at HW HTO
          clear hbit hxd hx
          go_wp2_with fail
          refine (bit_any x j (by omega) hx0 (by omega) _).mono ?_
          rintro e wx ⟨rfl, hwx⟩
          subst hwx
          rw [← HQ.out]
          obtain ⟨a1, p1, hv⟩ := HW.out.o.shape
          subst hv
          have c0 : wx.cell? ⟨g, 0, none⟩ = some (.slice a1 D.length p1) := HW.out.cell 0
          have hfz := HW.out.free
          obtain ⟨k1, r1, r2, r3⟩ := HW.out.alloc1 q
          have HROW := hide r1
          have HSRC := hide r2
          have HG6 := hide r3
          have HLEN : Hid (D.length + ([q] : List Int).length ≤ 140737488355328) := by show _ ≤ _; simp; omega
          clear r1 r2 r3
          go_wp2_with (at_builtin; refine wpList_app rfl _ _ 52 rfl 0 _ _ D [q] rfl (HROW.out _ rfl) rfl (HSRC.out _ rfl) HLEN.out (Nat.zero_le _) ?_)
          intro v6 w6 ho6 hg6
          obtain ⟨t0, tf⟩ := HG6.out _ w6 _ rfl hg6
          have HNX : Hid (Fill w g U (8 * k + (j + 1)) (w6.setCell ⟨g, 0, none⟩ v6)) := by
            obtain ⟨K', n1, n2⟩ := HW.out.snoc rfl rfl rfl rfl ho6 hg6
            refine ⟨K', v6, ?_, n2.up HN.out HBE.out.size, HBE.out.trans (n2.below HN.out HBE.out.size)⟩
            rw [show 8 * k + (j + 1) = 8 * k + j + 1 by omega, HTO.out]
            exact n1
          obtain ⟨a6, p6, rfl⟩ := ho6.shape
          clear ho6 hg6 HROW HSRC HG6 k1
          go_wp2
          go_roundw
          case rel => exact ⟨j + 1, by omega, by go_num, by show Fill _ _ _ _ _; simpa using HNX.out⟩
          case measure => simp [intOf]; omega
        · obtain rfl : j = 8 := by omega
          go_wp2
          go_roundw
          case rel => exact ⟨k + 1, by omega, by go_num, K1, v1, by rw [show 8 * (k + 1) = 8 * k + 8 by omega]; exact HW.out, HN.out, HBE.out⟩
          case measure => simp [intOf]; omega
    · obtain rfl : k = l.length := by omega
      have hlt' : ¬ (l.length : Int) < (l.length : Int) := by omega
      obtain ⟨K1, v1, hW, hN, hBe⟩ := HQ.out
      rw [List.take_of_length_le (by rw [HUl.out]; exact Nat.le_refl _)] at hW
      have HFIN : Hid (MadeQ w U (.returned (.pointer (some ⟨g, 0, none⟩))) wr) := ⟨g, K1, rfl, ⟨v1, hW, by rw [HU.out]; exact bit_unpack _, Nat.zero_le _, by rw [HUl.out]; omega, by rw [HUl.out]; omega⟩, hN, hBe⟩
      clear hW hN hBe HQ
      go_wp2
      go_ret
      exact HFIN.out
end Go.Proofs.YtiabhmdefaabgaaDoor

namespace Go.Proofs.YtiabhmdefaabgaaDoor
open Go.RowKit Go.Maps
set_option maxRecDepth 20000

structure It where
  kind : Int
  v : Int
  n : Int
  d : Value
  l : List Int

/-- The items in memory. -/
def ISc (w : World) (v : Value) (ops : List It) : Prop :=
  ∃ ao cap, v = .slice ao ops.length cap ∧ ops.length ≤ cap ∧ cap ≤ maxLen ∧ ∀ (i : Nat) (o : It), ops[i]? = some o → ∃ b of, ao = some ⟨b, of, none⟩ ∧ w.cell? ⟨b, of + i * 4, none⟩ = some (.int .i64 o.kind) ∧ w.cell? ⟨b, of + i * 4 + 1, none⟩ = some (.int .u32 o.v) ∧ w.cell? ⟨b, of + i * 4 + 2, none⟩ = some (.int .i64 o.n) ∧ w.cell? ⟨b, of + i * 4 + 3, none⟩ = some o.d

def IOk (w : World) (ops : List It) : Prop := ∀ o ∈ ops, (0 ≤ o.v ∧ o.v < 4294967296) ∧ SB w o.d o.l ∧ Byt o.l ∧ o.l.length ≤ 1048576

def isize (ops : List It) : Nat := (ops.map fun o => 47 + 8 * o.l.length).sum

def wid (o : It) : Nat := (o.n % 33).toNat
def low (o : It) : Int := o.v % 2 ^ wid o

theorem wid_le (o : It) : wid o ≤ 32 := by unfold wid; omega
theorem wid_eq (o : It) : o.n % 33 = (wid o : Int) := by unfold wid; omega

def layStep (row : List Int) (o : It) : List Int := if o.kind % 3 = 0 then row ++ bts (low o) (wid o) else if o.kind % 3 = 1 then pad row else pad row ++ unpack o.l
def layRow (ops : List It) : List Int := ops.foldl layStep []

theorem take_snoc {α : Type} {l : List α} {k : Nat} {o : α} (h : l[k]? = some o) : l.take (k + 1) = l.take k ++ [o] := by
  obtain ⟨hk, rfl⟩ := List.getElem?_eq_some_iff.1 h
  exact List.take_succ_eq_append_getElem hk

theorem layRow_snoc {ops : List It} {k : Nat} {o : It} (h : ops[k]? = some o) : layRow (ops.take (k + 1)) = layStep (layRow (ops.take k)) o := by
  unfold layRow
  rw [take_snoc h, List.foldl_append]
  rfl

theorem isize_snoc {ops : List It} {k : Nat} {o : It} (h : ops[k]? = some o) : isize (ops.take (k + 1)) = isize (ops.take k) + (47 + 8 * o.l.length) := by
  unfold isize
  rw [take_snoc h]
  simp

theorem isize_le (ops : List It) (k : Nat) : isize (ops.take k) ≤ isize ops := by
  have e : isize ops = isize (ops.take k) + isize (ops.drop k) := by
    unfold isize
    rw [← List.sum_append, ← List.map_append, List.take_append_drop]
  omega

theorem isize_bound {w : World} {ops : List It} (h : IOk w ops) : isize ops ≤ 8388655 * ops.length := by
  induction ops with
  | nil => simp [isize]
  | cons o r ih =>
    have h1 := (h o (by simp)).2.2.2
    have h2 := ih (fun x hx => h x (by simp [hx]))
    unfold isize at h2 ⊢
    simp only [List.map_cons, List.sum_cons, List.length_cons]
    omega

theorem IOk.take {w : World} {ops : List It} (h : IOk w ops) (k : Nat) : IOk w (ops.take k) := fun o ho => h o (List.mem_of_mem_take ho)

theorem layStep_len (row : List Int) (o : It) : (layStep row o).length ≤ row.length + (47 + 8 * o.l.length) := by
  have hw := wid_le o
  unfold layStep
  split
  · rw [List.length_append, length_bts]; omega
  · split
    · rw [length_pad]; omega
    · rw [List.length_append, length_pad, length_unpack]; omega

theorem layRow_len (ops : List It) (k : Nat) : (layRow (ops.take k)).length ≤ isize (ops.take k) := by
  induction k with
  | zero => simp [layRow, isize]
  | succ k ih =>
    by_cases hk : k < ops.length
    · obtain ⟨o, ho⟩ : ∃ o, ops[k]? = some o := ⟨ops[k], by simp [hk]⟩
      rw [layRow_snoc ho, isize_snoc ho]
      have := layStep_len (layRow (ops.take k)) o
      omega
    · rw [List.take_of_length_le (by omega)] at ih ⊢
      exact ih

theorem layStep_ext (row : List Int) (o : It) : ∃ s, layStep row o = row ++ s := by
  unfold layStep pad
  split
  · exact ⟨_, rfl⟩
  · split
    · exact ⟨_, rfl⟩
    · exact ⟨_, List.append_assoc _ _ _⟩

theorem fold_ext (ops : List It) : ∀ row, ∃ s, ops.foldl layStep row = row ++ s := by
  induction ops with
  | nil => intro row; exact ⟨[], by simp⟩
  | cons o r ih =>
    intro row
    obtain ⟨s1, h1⟩ := layStep_ext row o
    obtain ⟨s2, h2⟩ := ih (layStep row o)
    exact ⟨s1 ++ s2, by rw [List.foldl_cons, h2, h1, List.append_assoc]⟩

theorem layRow_ext (ops : List It) (k : Nat) : ∃ s, layRow ops = layRow (ops.take k) ++ s := by
  obtain ⟨s, h⟩ := fold_ext (ops.drop k) (layRow (ops.take k))
  refine ⟨s, ?_⟩
  rw [← h]
  unfold layRow
  rw [← List.foldl_append, List.take_append_drop]

theorem Herd.pop {W w : World} {xs : List ((Nat → Nat) × Thing)} {y : (Nat → Nat) × Thing} (h : Herd W w (xs ++ [y])) : Herd W w xs := by
  have e : ∀ (i : Nat) (d : (Nat → Nat) × Thing), xs[i]? = some d → (xs ++ [y])[i]? = some d := fun i d hd => by
    rw [List.getElem?_append_left (List.getElem?_eq_some_iff.1 hd).1]; exact hd
  exact ⟨h.bel, fun i d hd => h.rep i d (e i d hd), fun i d hd => h.up i d (e i d hd), fun i j d d' hd hd' => h.sep i j d d' (e i d hd) (e j d' hd')⟩

theorem Herd.box {W w : World} {xs : List ((Nat → Nat) × Thing)} (H : Herd W w xs) (i : Nat) {K : Nat → Nat} {B T : Nat} {cs : Array Value} (hi : xs[i]? = some (K, tb B (.cells cs T (0, 0)))) (j : Nat) : w.cell? ⟨B, j, none⟩ = cs[j]? := by
  have h : (tb B (.cells cs T (0, 0))).P w K := H.rep i _ hi
  have h1 : w.heap[B]? = some (.cells cs T (0, 0)) := h.1
  simp [World.cell?, h1]

/-- A block just made comes in. -/
theorem Herd.alloc {W w : World} {xs : List ((Nat → Nat) × Thing)} (h : Herd W w xs) (o : Obj) : ∃ K, Herd W (w.alloc o) (xs ++ [(K, tb w.heap.size o)]) := by
  refine ⟨fun k => if k = w.heap.size then 1 else 0, h.push ((Below.refl _ _).alloc (Nat.le_refl _) _) ⟨heap_alloc_new w o, by simp, fun k hk => ?_⟩ fun k hk => ?_⟩
  · by_cases e : k = w.heap.size
    · rw [e, size_alloc']; omega
    · simp [e] at hk
  · by_cases e : k = w.heap.size
    · omega
    · simp [e] at hk

/-- What an item shows in a later world. -/
theorem ISc.item {W w : World} {ao : Option Addr} {cap : Nat} {ops : List It} (h : ISc W (.slice ao ops.length cap) ops) (hb : Below W.heap.size W w) {k : Nat} {o : It} (ho : ops[k]? = some o) :
    ∃ b of, ao = some ⟨b, of, none⟩ ∧ w.cell? ⟨b, of + k * 4, none⟩ = some (.int .i64 o.kind) ∧ w.cell? ⟨b, of + k * 4 + 1, none⟩ = some (.int .u32 o.v) ∧ w.cell? ⟨b, of + k * 4 + 2, none⟩ = some (.int .i64 o.n) ∧ w.cell? ⟨b, of + k * 4 + 3, none⟩ = some o.d := by
  obtain ⟨ao', cap', hue, hc1, hc2, hc3⟩ := h
  simp only [Value.slice.injEq] at hue
  obtain ⟨rfl, -, rfl⟩ := hue
  obtain ⟨b, of, rfl, h0, h1, h2, h3⟩ := hc3 k o ho
  have hk : ∀ {i : Nat} {u : Value}, W.cell? ⟨b, i, none⟩ = some u → w.cell? ⟨b, i, none⟩ = some u := fun hc => (hb.cell (World.block_lt_of_cell? _ _ hc)).trans hc
  exact ⟨b, of, rfl, hk h0, hk h1, hk h2, hk h3⟩

theorem ISc.len {w : World} {v : Value} {ops : List It} (h : ISc w v ops) : ∃ a c, v = .slice a ops.length c ∧ ops.length ≤ c ∧ c ≤ 9223372036854775807 := by
  obtain ⟨a, c, h, h1, h2, _⟩ := h
  unfold maxLen at h2
  exact ⟨a, c, h, h1, h2⟩

end Go.Proofs.YtiabhmdefaabgaaDoor

namespace Go.Proofs.YtiabhmdefaabgaaDoor
open Go.RowKit Go.Maps
set_option maxRecDepth 20000

/-- Where the bits of the next item lie. -/
theorem drop_at {U a b c : List Int} (h : U = a ++ (b ++ c)) : U.drop a.length = b ++ c := by
  rw [h, List.drop_left' rfl]

theorem rraw_ok {U : List Int} {p n : Nat} (hp : p ≤ U.length) (h8 : p % 8 = 0) {l rest : List Int} (hl : l.length = n) (hB : Byt l) (hd : U.drop p = unpack l ++ rest) : rrawE U p n = 0 ∧ rrawL U p n = l ∧ rrawP U p n = p + 8 * n := by
  have hlen : U.length - p = 8 * n + rest.length := by
    have := congrArg List.length hd
    rwa [List.length_drop, List.length_append, length_unpack, hl] at this
  have he : rrawE U p n = 0 := by
    unfold rrawE
    rw [if_neg (by omega), if_neg (by omega)]
    rw [if_pos (by omega)]
  refine ⟨he, ?_, by unfold rrawP; rw [if_pos he]; rfl⟩
  unfold rrawL
  rw [if_pos he, hd, Int.toNat_natCast, List.take_append_of_le_length (by rw [length_unpack, hl]; exact Nat.le_refl _), List.take_of_length_le (by rw [length_unpack, hl]; exact Nat.le_refl _), pack_unpack hB]

theorem Herd.only {W w : World} {xs : List ((Nat → Nat) × Thing)} (h : Herd W w xs) (i : Nat) {d : (Nat → Nat) × Thing} (hi : xs[i]? = some d) : Herd W w [d] := by
  have e : ∀ (j : Nat) (d' : (Nat → Nat) × Thing), [d][j]? = some d' → j = 0 ∧ d' = d := fun j d' h => by
    cases j with
    | zero => simp at h; exact ⟨rfl, h.symm⟩
    | succ j => simp at h
  refine ⟨h.bel, fun j d' hd => ?_, fun j d' hd => ?_, fun j j' d' e' hd he hne => ?_⟩
  · obtain ⟨_, rfl⟩ := e j d' hd; exact h.rep i _ hi
  · obtain ⟨_, rfl⟩ := e j d' hd; exact h.up i _ hi
  · have := (e j d' hd).1; have := (e j' e' he).1; omega

/-- The row behind an item. -/
theorem row_at {ops : List It} {U rest : List Int} (hU : U = layRow ops ++ rest) {k : Nat} {o : It} (ho : ops[k]? = some o) : ∃ s, U = layStep (layRow (ops.take k)) o ++ s := by
  obtain ⟨s, hs⟩ := layRow_ext ops (k + 1)
  rw [layRow_snoc ho] at hs
  exact ⟨s ++ rest, by rw [hU, hs, List.append_assoc]⟩

end Go.Proofs.YtiabhmdefaabgaaDoor

namespace Go.Proofs.YtiabhmdefaabgaaDoor
open Go.RowKit Go.Maps
set_option maxRecDepth 20000

/-- A reader of the document's. -/
def tq (g : Nat) (row : List Int) (p : Nat) : Thing := ⟨fun w K => Rq w K g row p, fun h a b => h.far a b, fun h => h.sup⟩

theorem hqnew {W w : World} {xs : List ((Nat → Nat) × Thing)} (H : Herd W w xs) (u : Value) (l : List Int) (h : SB w u l) (hB : Byt l) (hl : l.length ≤ 33554432) :
    Calls Tryd.prog 26 #[u] w fun e w' => ∃ g K, e = .returned (.pointer (some ⟨g, 0, none⟩)) ∧ Herd W w' (xs ++ [(K, tq g (unpack l) 0)]) := by
  refine (qnewReader_any u l w h hB hl).mono ?_
  rintro e w1 ⟨g, K, rfl, hR, hn, hb⟩
  exact ⟨g, K, rfl, H.push hb hR hn⟩

theorem hqtake {W w : World} {xs : List ((Nat → Nat) × Thing)} (H : Herd W w xs) (i : Nat) {K : Nat → Nat} {g : Nat} {row : List Int} {p : Nat} (hi : xs[i]? = some (K, tq g row p)) (n : Int) :
    Calls Tryd.prog 55 #[.pointer (some ⟨g, 0, none⟩), .int .i64 n] w fun e w' => e = .returned (.tuple #[.int .u32 (takeV row p n), .int .i64 (takeE row p n)]) ∧ Herd W w' (xs.set i (K, tq g row (takeP row p n))) := by
  have hw : Rq w K g row p := H.rep i _ hi
  refine (qtake_any hw n).mono ?_
  rintro e w1 ⟨rfl, h1, h2⟩
  exact ⟨rfl, H.op i hi (x' := tq g row (takeP row p n)) h1 h2⟩

theorem hqpeek {W w : World} {xs : List ((Nat → Nat) × Thing)} (H : Herd W w xs) (i : Nat) {K : Nat → Nat} {g : Nat} {row : List Int} {p : Nat} (hi : xs[i]? = some (K, tq g row p)) (n : Int) :
    Calls Tryd.prog 75 #[.pointer (some ⟨g, 0, none⟩), .int .i64 n] w fun e w' => e = .returned (.tuple #[.int .u32 (peekV row p n), .int .i64 (peekK row p n)]) ∧ Herd W w' xs := by
  have hw : Rq w K g row p := H.rep i _ hi
  refine (qpeek_any hw n).mono ?_
  rintro e w1 ⟨rfl, q, rfl⟩
  exact ⟨rfl, H.drewN q⟩

theorem hqskip {W w : World} {xs : List ((Nat → Nat) × Thing)} (H : Herd W w xs) (i : Nat) {K : Nat → Nat} {g : Nat} {row : List Int} {p : Nat} (hi : xs[i]? = some (K, tq g row p)) (n : Int) :
    Calls Tryd.prog 28 #[.pointer (some ⟨g, 0, none⟩), .int .i64 n] w fun e w' => e = .returned (.int .i64 (skipE row p n)) ∧ Herd W w' (xs.set i (K, tq g row (skipP row p n))) := by
  have hw : Rq w K g row p := H.rep i _ hi
  refine (qskip_any hw n).mono ?_
  rintro e w1 ⟨rfl, h1, h2⟩
  exact ⟨rfl, H.op i hi (x' := tq g row (skipP row p n)) h1 h2⟩

theorem hqat {W w : World} {xs : List ((Nat → Nat) × Thing)} (H : Herd W w xs) (i : Nat) {K : Nat → Nat} {g : Nat} {row : List Int} {p : Nat} (hi : xs[i]? = some (K, tq g row p)) :
    Calls Tryd.prog 32 #[.pointer (some ⟨g, 0, none⟩)] w fun e w' => e = .returned (.int .i64 p) ∧ Herd W w' xs := by
  have hw : Rq w K g row p := H.rep i _ hi
  refine (qat_any hw).mono ?_
  rintro e w1 ⟨rfl, rfl⟩
  exact ⟨rfl, H⟩

/-- A list that a call made beside what it did to its own. -/
theorem Herd.oplist {W w w' : World} {xs : List ((Nat → Nat) × Thing)} (H : Herd W w xs) (i : Nat) {K : Nat → Nat} {x x' : Thing} (hi : xs[i]? = some (K, x)) (h1 : x'.P w' K) (h2 : Fr K K w w') {v : Value} {l : List Int} (h0 : OB w' w.heap.size v l) :
    ∃ K', Herd W w' (xs.set i (K, x') ++ [(K', tl v l)]) := by
  have hw := H.rep i _ hi
  have H1 := H.op i hi (x' := x') h1 h2
  refine ⟨fun k => if v.ownBlock = some k then 1 else 0, H1.bel, fun j d hd => ?_, fun j d hd k hk => ?_, fun j j' d e hd he hne k hk => ?_⟩
  · rcases get_snoc hd with hd | ⟨_, rfl⟩
    · exact H1.rep j d hd
    · refine ⟨h0.base (Nat.zero_le _), fun k hk => by simp [hk], fun k hk => ?_⟩
      by_cases e : v.ownBlock = some k
      · exact (h0.lt k e).2
      · simp [e] at hk
  · rcases get_snoc hd with hd | ⟨_, rfl⟩
    · exact H1.up j d hd k hk
    · by_cases e : v.ownBlock = some k
      · have := (h0.lt k e).1; have := H.bel.size; omega
      · simp [e] at hk
  · have old : ∀ j' (e' : (Nat → Nat) × Thing), (xs.set i (K, x'))[j']? = some e' → ∀ k, e'.1 k ≠ 0 → k < w.heap.size := fun j' e' he' k hk => by
      rcases get_set he' with ⟨_, he2⟩ | ⟨_, rfl⟩
      · exact e'.2.sup (H.rep j' e' he2) k hk
      · exact x.sup hw k hk
    rcases get_snoc hd with hd | ⟨e1, rfl⟩
    · rcases get_snoc he with he | ⟨e2, rfl⟩
      · exact H1.sep j j' d e hd he hne k hk
      · by_cases e0 : v.ownBlock = some k
        · have := (h0.lt k e0).1; have := old j d hd k hk; omega
        · simp [e0]
    · rcases get_snoc he with he | ⟨e2, rfl⟩
      · by_cases e0 : v.ownBlock = some k
        · by_cases ez : e.1 k = 0
          · exact ez
          · have := (h0.lt k e0).1; have := old j' e he k ez; omega
        · simp [e0] at hk
      · omega

end Go.Proofs.YtiabhmdefaabgaaDoor

