import Derived.Test.YtdpoggapenjjfaaGreatDoorG05Wr3
import Derived.Test.YtdpoggapenjjfaaGreatDoorG06Rhn
namespace Go.Proofs.YtdpoggapenjjfaaGreatDoor
open Go.RowKit Go.Maps
set_option maxRecDepth 20000

end Go.Proofs.YtdpoggapenjjfaaGreatDoor

namespace Go.Proofs.YtdpoggapenjjfaaGreatDoor
open Go.RowKit Go.Maps
set_option maxRecDepth 20000

theorem SB.len {w : World} {u : Value} {l : List Int} (h : SB w u l) : ∃ a c, u = .slice a l.length c := by
  obtain ⟨a, c, h, _⟩ := h
  exact ⟨a, c, h⟩

end Go.Proofs.YtdpoggapenjjfaaGreatDoor

namespace Go.Proofs.YtdpoggapenjjfaaGreatDoor
open Go.RowKit Go.Maps
set_option maxRecDepth 20000

end Go.Proofs.YtdpoggapenjjfaaGreatDoor

namespace Go.Proofs.YtdpoggapenjjfaaGreatDoor
open Go.RowKit Go.Maps
set_option maxRecDepth 20000

theorem WV.snoc {T : Nat} {rest : List Value} {w W w6 : World} {K : Nat → Nat} {g : Nat} {v v' : Value} {d : List Int} {q : Int} {o : Obj} (h : WV T rest w K g v d) (hW : W.heap = (w.alloc o).heap) (h1 : W.os = w.os) (h2 : W.tape = w.tape) (h3 : W.output = w.output) (ho : OB w6 0 v' (d ++ [q])) (hg : Grew W w6 v v') :
    ∃ K', WV T rest (w6.setCell ⟨g, 0, none⟩ v') K' g v' (d ++ [q]) ∧ Fr K K' w (w6.setCell ⟨g, 0, none⟩ v') := by
  have hgr : w.grownBy W v.ownBlock := ⟨h1, h2, h3, by rw [hW, size_alloc']; omega, fun k hk _ => by rw [hW]; exact Below.heap_alloc _ _ k hk⟩
  refine h.put (hgr.trans hg.by) ho ?_
  rcases hg.at with e | e
  · exact .inr (fun k hk => by rw [e, hW, size_alloc'] at hk; cases hk; omega)
  · exact .inl e

theorem WV.alloc1 {T : Nat} {rest : List Value} {w : World} {K : Nat → Nat} {g : Nat} {v : Value} {d : List Int} (h : WV T rest w K g v d) (q : Int) :
    (w.alloc (.cells #[.int .u8 q] 5)).cell? ⟨g, 0, none⟩ = some v ∧ (∀ W : World, W.heap = (w.alloc (.cells #[.int .u8 q] 5)).heap → OB W 0 v d) ∧
    (∀ W : World, W.heap = (w.alloc (.cells #[.int .u8 q] 5)).heap → Src Tryz.prog 1 22 (.slice (some ⟨w.heap.size, 0, none⟩) 1 1) ([q] : List Int).length (([q] : List Int).map (Value.int .u8)) W) ∧
    (∀ (W w6 : World) (u : Value), W.heap = (w.alloc (.cells #[.int .u8 q] 5)).heap → Grew W w6 v u → w6.cell? ⟨g, 0, none⟩ = some v ∧ w6.frozen? ⟨g, 0, none⟩ = false) := by
  have hgl := h.lt
  refine ⟨?_, fun W hW => OB.move (w := w) h.o fun x hx => by rw [hW]; exact Below.heap_alloc _ _ x (h.o.lt x hx).2, fun W hW => ((built_sb w [q] (by unfold maxLen; simp)).heap hW).src, fun W w6 u hW hg => ?_⟩
  · rw [((Below.refl w.heap.size w).alloc (Nat.le_refl _) _).cell hgl]; exact h.cell 0
  · have e1 : w6.heap[g]? = w.heap[g]? := (hg.by.block g (by rw [hW, size_alloc']; omega) (fun e => h.ng e.symm)).trans (by rw [hW]; exact Below.heap_alloc _ _ g hgl)
    have e2 := e1.trans h.s
    exact ⟨by simp [World.cell?, e2], by simp [World.frozen?, e2]⟩

def Rq (w : World) (K : Nat → Nat) (g : Nat) (row : List Int) (p : Nat) : Prop := ∃ v, WV 64 [.int .i64 p] w K g v row ∧ Bit row ∧ p ≤ row.length ∧ row.length ≤ 268435456 ∧ row.length % 8 = 0

theorem Rq.far {w w' : World} {K : Nat → Nat} {g : Nat} {row : List Int} {p : Nat} (h : Rq w K g row p) (hsz : w.heap.size ≤ w'.heap.size) (hb : ∀ k, K k ≠ 0 → w'.heap[k]? = w.heap[k]?) : Rq w' K g row p := by
  obtain ⟨v, h1, h2⟩ := h
  exact ⟨v, h1.far hsz hb, h2⟩

theorem Rq.drewN {w : World} {K : Nat → Nat} {g : Nat} {row : List Int} {p : Nat} (h : Rq w K g row p) (n : Nat) : Rq (w.drewN n) K g row p := h.far (Nat.le_refl _) (fun _ _ => rfl)

theorem Rq.sup {w : World} {K : Nat → Nat} {g : Nat} {row : List Int} {p : Nat} (h : Rq w K g row p) : ∀ k, K k ≠ 0 → k < w.heap.size := by
  obtain ⟨_, h, _⟩ := h
  exact h.sup

theorem Rq.move {w : World} {K : Nat → Nat} {g : Nat} {row : List Int} {p : Nat} (h : Rq w K g row p) (q : Nat) (x : Int) (hx : x = q) (hq : q ≤ row.length) : Rq (w.setCell ⟨g, 1, none⟩ (.int .i64 x)) K g row q ∧ Fr K K w (w.setCell ⟨g, 1, none⟩ (.int .i64 x)) := by
  subst hx
  obtain ⟨v, h1, h2, h3, h4⟩ := h
  obtain ⟨a1, a2⟩ := h1.set 0 (.int .i64 q)
  exact ⟨⟨v, a1, h2, hq, h4⟩, a2⟩

theorem qat_any {w : World} {K : Nat → Nat} {g : Nat} {row : List Int} {p : Nat} (h : Rq w K g row p) :
    Calls Tryz.prog 31 #[.pointer (some ⟨g, 0, none⟩)] w fun e w' => e = .returned (.int .i64 p) ∧ w' = w := by
  obtain ⟨v, h1, -⟩ := h
  have c1 : w.cell? ⟨g, 1, none⟩ = some (.int .i64 p) := h1.cell 1
  clear h1
  go_enter Tryz.func31, Tryz.ntmps31
  go_wp2
  go_ret
  exact ⟨rfl, rfl⟩

theorem qleft_any {w : World} {K : Nat → Nat} {g : Nat} {row : List Int} {p : Nat} (h : Rq w K g row p) :
    Calls Tryz.prog 53 #[.pointer (some ⟨g, 0, none⟩)] w fun e w' => e = .returned (.int .i64 ((row.length : Int) - p)) ∧ ∃ n, w' = w.drewN n := by
  obtain ⟨v, h1, h2, h3, h4, h5⟩ := h
  have c0 : w.cell? ⟨g, 0, none⟩ = some v := h1.cell 0
  have c1 : w.cell? ⟨g, 1, none⟩ = some (.int .i64 p) := h1.cell 1
  obtain ⟨a, c, rfl⟩ := h1.o.shape
  clear h1 h2 h5
  go_enter Tryz.func53, Tryz.ntmps53
  go_wp2
  go_quiet (fail)
  go_wp2
  go_ret
  exact ⟨rfl, _, rfl⟩

theorem qskip_any {w : World} {K : Nat → Nat} {g : Nat} {row : List Int} {p : Nat} (h : Rq w K g row p) (n : Int) :
    Calls Tryz.prog 95 #[.pointer (some ⟨g, 0, none⟩), .int .i64 n] w fun e w' => e = .returned (.int .i64 (skipE row p n)) ∧ Rq w' K g row (skipP row p n) ∧ Fr K K w w' := by
  have H := hide h
  obtain ⟨v, h1, h2, h3, h4, h5⟩ := h
  have c0 : w.cell? ⟨g, 0, none⟩ = some v := h1.cell 0
  have c1 : w.cell? ⟨g, 1, none⟩ = some (.int .i64 p) := h1.cell 1
  have cf : w.frozen? ⟨g, 1, none⟩ = false := h1.free 1
  obtain ⟨a, c, rfl⟩ := h1.o.shape
  clear h1 h2 h5
  by_cases hn : n < 0
  · have HE : Hid (skipE row p n = 1 ∧ skipP row p n = p) := ⟨if_pos hn, if_pos hn⟩
    go_enter Tryz.func95, Tryz.ntmps95
    go_wp2
    go_ret
    rw [HE.out.1, HE.out.2]
    exact ⟨rfl, H.out, Fr.refl _ _⟩
  by_cases hl : n ≤ (row.length : Int) - p
  · have HE : Hid (skipE row p n = 0 ∧ skipP row p n = p + n.toNat) := ⟨by show (if _ then _ else _) = _; rw [if_neg hn, if_pos hl], by show (if _ then _ else _) = _; rw [if_neg hn, if_pos hl]⟩
    obtain ⟨m, rfl⟩ : ∃ m : Nat, n = m := ⟨n.toNat, by omega⟩
    have HM : Hid (∀ q, Rq ((w.drewN q).setCell ⟨g, 1, none⟩ (.int .i64 ((p : Int) + m))) K g row (p + m) ∧ Fr K K w ((w.drewN q).setCell ⟨g, 1, none⟩ (.int .i64 ((p : Int) + m)))) := fun q => by
      obtain ⟨a1, a2⟩ := (H.out.drewN q).move (p + m) ((p : Int) + m) (by omega) (by omega)
      exact ⟨a1, ((Fr.refl _ _).drewN q).trans a2⟩
    go_enter Tryz.func95, Tryz.ntmps95
    go_wp2
    go_quiet (fail)
    go_wp2
    go_ret
    rw [HE.out.1, HE.out.2]
    exact ⟨rfl, HM.out _⟩
  · have HE : Hid (skipE row p n = 30 ∧ skipP row p n = p) := ⟨by show (if _ then _ else _) = _; rw [if_neg hn, if_neg hl], by show (if _ then _ else _) = _; rw [if_neg hn, if_neg hl]⟩
    go_enter Tryz.func95, Tryz.ntmps95
    go_wp2
    go_quiet (fail)
    go_wp2
    go_ret
    rw [HE.out.1, HE.out.2]
    exact ⟨rfl, H.out.drewN _, (Fr.refl _ _).drewN _⟩

theorem qalign_any {w : World} {K : Nat → Nat} {g : Nat} {row : List Int} {p : Nat} (h : Rq w K g row p) :
    Calls Tryz.prog 52 #[.pointer (some ⟨g, 0, none⟩)] w fun e w' => e = .returned (.tuple #[]) ∧ Rq w' K g row (algn p) ∧ Fr K K w w' := by
  have H := hide h
  obtain ⟨v, h1, h2, h3, h4, h5⟩ := h
  clear h1 h2
  go_enter Tryz.func52, Tryz.ntmps52
  go_wp2
  go_loopw [] (fun wr => ∃ q : Nat, p ≤ q ∧ q ≤ algn p ∧ Hid (Rq wr K g row q ∧ Fr K K w wr)) (fun wr => algn p - (intOf ((wr.cell? ⟨g, 1, none⟩).getD undef)).toNat)
  case atStart => exact ⟨p, Nat.le_refl _, by unfold algn; omega, H.out, Fr.refl _ _⟩
  case round =>
    obtain ⟨q, hq1, hq2, HQ⟩ := hrel
    obtain ⟨v', k1, -⟩ := HQ.out.1
    have c1 : wr.cell? ⟨g, 1, none⟩ = some (.int .i64 q) := k1.cell 1
    have cf : wr.frozen? ⟨g, 1, none⟩ = false := k1.free 1
    clear k1
    have hal : algn p ≤ row.length := by unfold algn; omega
    have hqa : algn p = algn q := by unfold algn at *; omega
    by_cases h8 : q % 8 = 0
    · have h8' : (q : Int) % 8 = 0 := by omega
      have HE : Hid (algn p = q) := by show _ = _; unfold algn at *; omega
      clear hqa
      go_wp2
      (try simp only [Exit.inBlock, Exit.then]); refine bodyPost_end (results_none rfl _ _ _) rfl ?_
      rw [HE.out]
      exact ⟨rfl, HQ.out⟩
    · have h8' : ((q : Int) % 8 == 0) = false := by simp; omega
      have h8b : ((q : Int) % 8 != 0) = true := by simp; omega
      have hlt : q < algn p := by unfold algn at *; omega
      have HM := hide (HQ.out.1.move (q + 1) ((q : Int) + 1) (by omega) (by omega))
      have HMS : Hid (algn p - (intOf (((wr.setCell ⟨g, 1, none⟩ (.int .i64 ((q : Int) + 1))).cell? ⟨g, 1, none⟩).getD undef)).toNat < algn p - (intOf ((wr.cell? ⟨g, 1, none⟩).getD undef)).toNat) := by
        obtain ⟨v2, z1, -⟩ := HM.out.1
        have z2 : (wr.setCell ⟨g, 1, none⟩ (.int .i64 ((q : Int) + 1))).cell? ⟨g, 1, none⟩ = some (.int .i64 ((q + 1 : Nat) : Int)) := z1.cell 1
        show _ < _
        rw [z2, c1]
        simp [intOf]
        omega
      clear hqa
      go_wp2
      go_roundw
      case rel => exact ⟨q + 1, by omega, by omega, HM.out.1, HQ.out.2.trans HM.out.2⟩
      case measure => exact HMS.out
end Go.Proofs.YtdpoggapenjjfaaGreatDoor

namespace Go.Proofs.YtdpoggapenjjfaaGreatDoor
open Go.RowKit Go.Maps
set_option maxRecDepth 20000

theorem ahead_snoc {row : List Int} {p i : Nat} (h : p + i < row.length) : ahead row p (i + 1) = ahead row p i + row.getD (p + i) 0 * 2 ^ i := by
  unfold ahead
  have hl : i < (row.drop p).length := by rw [List.length_drop]; omega
  rw [List.take_succ_eq_append_getElem hl, val_append, List.length_take, Nat.min_eq_left (by omega)]
  have e : (row.drop p)[i] = row.getD (p + i) 0 := by
    rw [List.getElem_drop]
    simp [List.getD, h]
  rw [e]
  simp only [val]
  rw [Int.mul_comm]
  simp

set_option maxHeartbeats 1000000 in
theorem qpeek_any {w : World} {K : Nat → Nat} {g : Nat} {row : List Int} {p : Nat} (h : Rq w K g row p) (n : Int) :
    Calls Tryz.prog 51 #[.pointer (some ⟨g, 0, none⟩), .int .i64 n] w fun e w' => e = .returned (.tuple #[.int .u32 (peekV row p n), .int .i64 (peekK row p n)]) ∧ ∃ q, w' = w.drewN q := by
  obtain ⟨v, h1, h2, h3, h4, h5⟩ := h
  have c0 : ∀ q, (w.drewN q).cell? ⟨g, 0, none⟩ = some v := fun q => h1.cell 0
  have c1 : ∀ q, (w.drewN q).cell? ⟨g, 1, none⟩ = some (.int .i64 p) := fun q => h1.cell 1
  have HOB := hide h1.o
  have HBT := hide h2
  obtain ⟨a, c, rfl⟩ := h1.o.shape
  obtain ⟨hcc, hcm⟩ := h1.o.sb.cap
  clear h1 h2 h5
  by_cases hc : Cnt n
  case neg =>
    have HE : Hid (peekV row p n = 0 ∧ peekK row p n = 0) := ⟨if_neg hc, if_neg hc⟩
    by_cases h0 : n < 0
    · clear hc
      go_enter Tryz.func51, Tryz.ntmps51
      go_wp2
      go_ret2
      rw [HE.out.1, HE.out.2]
      exact ⟨rfl, 0, rfl⟩
    · have h32 : 32 < n := by unfold Cnt at hc; omega
      clear hc
      go_enter Tryz.func51, Tryz.ntmps51
      go_wp2
      go_ret2
      rw [HE.out.1, HE.out.2]
      exact ⟨rfl, 0, rfl⟩
  case pos =>
    have HE : Hid (peekV row p n = ahead row p n.toNat ∧ peekK row p n = min n ((row.length : Int) - p)) := ⟨if_pos hc, if_pos hc⟩
    obtain ⟨n0, n1⟩ := hc
    obtain ⟨m, rfl⟩ : ∃ m : Nat, n = m := ⟨n.toNat, by omega⟩
    go_enter Tryz.func51, Tryz.ntmps51
    go_wp2
    go_loopw [6, 7, 8] (fun x kk i wr => ∃ j q : Nat, j ≤ m ∧ p + j ≤ row.length ∧ i = .int .i64 j ∧ kk = .int .i64 j ∧ x = .int .u32 (ahead row p j) ∧ wr = w.drewN q) (fun _ _ i _ => m - (intOf i).toNat)
    case atStart => exact ⟨0, 0, Nat.zero_le _, by omega, rfl, rfl, by simp [ahead, val], rfl⟩
    case round =>
      obtain ⟨j, q, hj, hpj, rfl, rfl, rfl, rfl⟩ := hrel
      have k0 := c0 q
      have k1 := c1 q
      have hab := ahead_bound HBT.out p j
      obtain ⟨A, HA⟩ : ∃ A, Hid (A = ahead row p j) := ⟨_, rfl⟩
      rw [← HA.out] at hab ⊢
      have h232 : (2 : Int) ^ j ≤ 2 ^ 32 := pow_le (by omega)
      by_cases hjm : j < m
      · have hjm' : (j : Int) < (m : Int) := by omega
        have hdg : decide ((j : Int) < (m : Int)) = true := decide_eq_true hjm'
        by_cases hpl : p + j < row.length
        · have hpl' : (p : Int) + j < (row.length : Int) := by omega
          obtain ⟨b, hb⟩ : ∃ b, a = some ⟨b, 0, none⟩ := by
            rcases HOB.out.2 with ⟨e, h0⟩ | ⟨gb, c', cur, e, _⟩
            · omega
            · simp only [Value.slice.injEq] at e
              exact ⟨gb, e.1⟩
          subst hb
          obtain ⟨y, HY⟩ : ∃ y, Hid (y = row.getD (p + j) 0) := ⟨_, rfl⟩
          have hy : (w.drewN q).cell? ⟨b, p + j, none⟩ = some (.int .u8 y) := by rw [HY.out]; exact HOB.out.get rfl hpl
          have hyb : y = 0 ∨ y = 1 := by
            rw [HY.out]
            have : row.getD (p + j) 0 = row[p + j] := by simp [List.getD, hpl]
            rw [this]
            exact HBT.out _ (List.getElem_mem _)
          have HS := hide (ahead_snoc hpl)
          rw [← HA.out, ← HY.out] at HS
          have h231 : (2 : Int) ^ j ≤ 2 ^ 31 := pow_le (by omega)
          have hpp := pow_pos j
          have hz : 0 ≤ y * 2 ^ j ∧ y * 2 ^ j ≤ 2 ^ j := by rcases hyb with e | e <;> rw [e] <;> omega
          have hw1 : IntKind.u32.wrap (y * 2 ^ j) = y * 2 ^ j := by rw [IntKind.wrap_u32]; omega
          have hw2 : IntKind.u32.wrap (A + y * 2 ^ j) = A + y * 2 ^ j := by rw [IntKind.wrap_u32]; omega
          have hy0 : 0 ≤ y := by omega
          have hy1 : y ≤ 1 := by omega
          have hp0 : (0 : Int) ≤ (p : Int) + j := by omega
          have htn : ((p : Int) + j).toNat = p + j := by omega
          have hwp : IntKind.i64.wrap ((p : Int) + j) = (p : Int) + j := by rw [IntKind.wrap_i64]; omega
          clear hab h232 h231 hpp hz hyb
          go_wp2
          go_quiet (fail)
          go_wp2
          rw [World.drewN_drewN]
          generalize q + _ = q' at *
          have k0 := c0 q'
          have k1 := c1 q'
          have hy1 : (w.drewN q').cell? ⟨b, p + j, none⟩ = some (.int .u8 y) := hy
          have hy2 : w.cell? ⟨b, p + j, none⟩ = some (.int .u8 y) := hy
          have hy3 : ∀ n, ((w.drewN q').drewN n).cell? ⟨b, p + j, none⟩ = some (.int .u8 y) := fun n => hy
          go_quiet (fail)
          go_wp2
          go_roundw
          case rel => exact ⟨j + 1, _, by omega, by omega, by go_num, by go_num, by rw [HS.out], by (try simp only [World.drewN_drewN]); rfl⟩
          case measure => simp [intOf]; omega
        · have hpl' : ¬ (p : Int) + j < (row.length : Int) := by omega
          have hpd : decide ((p : Int) + j < (row.length : Int)) = false := decide_eq_false hpl'
          have hjL : (j : Int) = (row.length : Int) - p := by omega
          have HJ : Hid (ahead row p m = A) := by
            show _ = _
            rw [HA.out]
            unfold ahead
            rw [List.take_of_length_le (by rw [List.length_drop]; omega), List.take_of_length_le (by rw [List.length_drop]; omega)]
          have HMn : Hid (min (m : Int) ((row.length : Int) - p) = (j : Int)) := by show _ = _; omega
          clear hjL hab h232
          go_wp2
          go_quiet (fail)
          go_wp2
          go_ret2
          refine ⟨?_, _, by (try simp only [World.drewN_drewN]); rfl⟩
          rw [HE.out.1, HE.out.2, HMn.out, Int.toNat_natCast, HJ.out]
          rfl
      · obtain rfl : j = m := by omega
        have hjm' : ¬ (j : Int) < (j : Int) := by omega
        have hdg : decide ((j : Int) < (j : Int)) = false := decide_eq_false hjm'
        have HMn : Hid (min (j : Int) ((row.length : Int) - p) = (j : Int)) := by show _ = _; omega
        clear hab h232
        go_wp2
        go_quiet (fail)
        go_wp2
        go_ret2
        refine ⟨?_, _, by (try simp only [World.drewN_drewN]); rfl⟩
        rw [HE.out.1, HE.out.2, HMn.out, Int.toNat_natCast, ← HA.out]
        rfl

theorem qtake_any {w : World} {K : Nat → Nat} {g : Nat} {row : List Int} {p : Nat} (h : Rq w K g row p) (n : Int) :
    Calls Tryz.prog 32 #[.pointer (some ⟨g, 0, none⟩), .int .i64 n] w fun e w' => e = .returned (.tuple #[.int .u32 (takeV row p n), .int .i64 (takeE row p n)]) ∧ Rq w' K g row (takeP row p n) ∧ Fr K K w w' := by
  have H := hide h
  obtain ⟨v, h1, h2, h3, h4, h5⟩ := h
  have c0 : ∀ q, (w.drewN q).cell? ⟨g, 0, none⟩ = some v := fun q => h1.cell 0
  have c1 : ∀ q, (w.drewN q).cell? ⟨g, 1, none⟩ = some (.int .i64 p) := fun q => h1.cell 1
  have c0' : w.cell? ⟨g, 0, none⟩ = some v := h1.cell 0
  have c1' : w.cell? ⟨g, 1, none⟩ = some (.int .i64 p) := h1.cell 1
  have cf : ∀ q, (w.drewN q).frozen? ⟨g, 1, none⟩ = false := fun q => h1.free 1
  obtain ⟨a, c, rfl⟩ := h1.o.shape
  clear h1 h2 h5
  by_cases hc : Cnt n
  case neg =>
    have HE : Hid (takeE row p n = 1 ∧ takeV row p n = 0 ∧ takeP row p n = p) := ⟨if_neg hc, if_neg fun h => hc h.1, if_neg fun h => hc h.1⟩
    by_cases h0 : n < 0
    · clear hc c0 c1 cf
      go_enter Tryz.func32, Tryz.ntmps32
      go_wp2
      go_ret2
      rw [HE.out.1, HE.out.2.1, HE.out.2.2]
      exact ⟨rfl, H.out, Fr.refl _ _⟩
    · have h32 : 32 < n := by unfold Cnt at hc; omega
      clear hc c0 c1 cf
      go_enter Tryz.func32, Tryz.ntmps32
      go_wp2
      go_ret2
      rw [HE.out.1, HE.out.2.1, HE.out.2.2]
      exact ⟨rfl, H.out, Fr.refl _ _⟩
  case pos =>
  have HC := hide hc
  obtain ⟨n0, n1⟩ := id hc
  by_cases hl : n ≤ (row.length : Int) - p
  case neg =>
    have HE : Hid (takeE row p n = 30 ∧ takeV row p n = 0 ∧ takeP row p n = p) := ⟨by show (if _ then _ else _) = _; rw [if_pos hc, if_neg hl], if_neg fun h => hl h.2, if_neg fun h => hl h.2⟩
    clear hc c0 c1 cf
    go_enter Tryz.func32, Tryz.ntmps32
    go_wp2
    go_quiet (fail)
    go_wp2
    go_ret2
    rw [HE.out.1, HE.out.2.1, HE.out.2.2]
    exact ⟨rfl, H.out.drewN _, (Fr.refl _ _).drewN _⟩
  case pos =>
    have HE : Hid (takeE row p n = 0 ∧ takeV row p n = peekV row p n ∧ takeP row p n = p + n.toNat) := ⟨by show (if _ then _ else _) = _; rw [if_pos hc, if_pos hl], (if_pos (show takeOk row p n from ⟨hc, hl⟩)).trans (if_pos hc).symm, if_pos ⟨hc, hl⟩⟩
    obtain ⟨m, rfl⟩ : ∃ m : Nat, n = m := ⟨n.toNat, by omega⟩
    have HM : Hid (∀ q, Rq ((w.drewN q).setCell ⟨g, 1, none⟩ (.int .i64 ((p : Int) + m))) K g row (p + m) ∧ Fr K K w ((w.drewN q).setCell ⟨g, 1, none⟩ (.int .i64 ((p : Int) + m)))) := fun q => by
      obtain ⟨a1, a2⟩ := (H.out.drewN q).move (p + m) ((p : Int) + m) (by omega) (by omega)
      exact ⟨a1, ((Fr.refl _ _).drewN q).trans a2⟩
    clear hc
    go_enter Tryz.func32, Tryz.ntmps32
    go_wp2
    go_quiet (fail)
    rename_i nq _
    go_wp2_with fail
    refine (qpeek_any (H.out.drewN nq) m).mono ?_
    rintro e w1 ⟨rfl, q2, rfl⟩
    (try rw [World.drewN_drewN])
    have k1 := c1 (nq + q2)
    have kf := cf (nq + q2)
    clear c0 c1 cf
    go_wp2
    go_ret2
    rw [HE.out.1, HE.out.2.1, HE.out.2.2]
    exact ⟨rfl, HM.out _⟩
end Go.Proofs.YtdpoggapenjjfaaGreatDoor

namespace Go.Proofs.YtdpoggapenjjfaaGreatDoor
open Go.RowKit Go.Maps
set_option maxRecDepth 20000

end Go.Proofs.YtdpoggapenjjfaaGreatDoor

namespace Go.Proofs.YtdpoggapenjjfaaGreatDoor
open Go.RowKit Go.Maps
set_option maxRecDepth 20000

def MadeQ (w : World) (row : List Int) (e : Ending) (w' : World) : Prop := ∃ g K, e = .returned (.pointer (some ⟨g, 0, none⟩)) ∧ Rq w' K g row 0 ∧ (∀ k, K k ≠ 0 → w.heap.size ≤ k) ∧ Below w.heap.size w w'

def Fill (w : World) (g : Nat) (U : List Int) (n : Nat) (wr : World) : Prop := ∃ K1 v1, WV 64 [.int .i64 0] wr K1 g v1 (U.take n) ∧ (∀ k, K1 k ≠ 0 → w.heap.size ≤ k) ∧ Below w.heap.size w wr

set_option linter.unusedSimpArgs false in
set_option maxHeartbeats 4000000 in
theorem qnewReader_any (u : Value) (l : List Int) (w : World) (h : SB w u l) (hB : Byt l) (hl : l.length ≤ 33554432) :
    Calls Tryz.prog 19 #[u] w fun e w' => MadeQ w (unpack l) e w' := by
  obtain ⟨ao, cap, hu⟩ := h.len
  subst hu
  obtain ⟨hcap1, hcap2⟩ := h.cap
  have HS := hide h
  have HBy := hide hB
  obtain ⟨U, HU⟩ : ∃ U, Hid (U = unpack l) := ⟨_, rfl⟩
  have HUl : Hid (U.length = 8 * l.length) := by show _ = _; rw [HU.out, length_unpack]
  rw [← HU.out]
  clear h hB
  have HST : Hid (Fill w w.heap.size U 0 (w.alloc (.cells #[.slice none 0 0, .int .i64 0] 64))) := by
    refine ⟨fun k => if k = w.heap.size then 1 else 0, .slice none 0 0, ⟨heap_alloc_new w _, by simp, World.ownsRow_nil _ _ _ _, (fun k hk => by simp [Value.ownBlock] at hk), fun k hk => ?_⟩, fun k hk => ?_, (Below.refl _ _).alloc (Nat.le_refl _) _⟩
    · by_cases e : k = w.heap.size
      · rw [e, size_alloc']; omega
      · simp [e] at hk
    · by_cases e : k = w.heap.size
      · omega
      · simp [e] at hk
  obtain ⟨g, HG⟩ : ∃ g, Hid (g = w.heap.size) := ⟨_, rfl⟩
  go_enter Tryz.func19, Tryz.ntmps19
  go_wp2
  rw [← HG.out] at HST ⊢
  go_loopw [4] (fun i wr => ∃ k : Nat, k ≤ l.length ∧ i = .int .i64 k ∧ Hid (Fill w g U (8 * k) wr)) (fun i _ => l.length - (intOf i).toNat)
  case atStart => exact ⟨0, Nat.zero_le _, rfl, HST.out⟩
  case round =>
    clear HST
    obtain ⟨k, hk, rfl, HQ⟩ := hrel
    by_cases hlt : k < l.length
    · have hlt' : (k : Int) < (l.length : Int) := by omega
      go_wp2
      go_loopw [5] (fun i wr => ∃ j : Nat, j ≤ 8 ∧ i = .int .i64 j ∧ Hid (Fill w g U (8 * k + j) wr)) (fun i _ => 8 - (intOf i).toNat)
      case atStart => exact ⟨0, by omega, rfl, HQ.out⟩
      case round =>
        clear HQ
        obtain ⟨j, hj, rfl, HQ⟩ := hrel
        obtain ⟨K1, v1, hW, hN, hBe⟩ := HQ.out
        have HW := hide hW
        have HN := hide hN
        have HBE := hide hBe
        clear HQ hW hN hBe
        by_cases hj8 : j < 8
        · have hj8' : (j : Int) < 8 := by omega
          obtain ⟨x, hx⟩ : ∃ x, l[k]? = some x := ⟨l[k], by simp [hlt]⟩
          have hbit := unpack_get hx hj8
          rw [← HU.out] at hbit
          obtain ⟨b, o, hao, hc⟩ := HS.out.byte HBE.out hlt
          have hxd : l.getD k 0 = x := by rw [List.getD, hx]; rfl
          rw [hxd] at hc
          obtain ⟨hx0, hx1⟩ := HBy.out.get hx
          subst hao
          have HTO := hide (take_one hbit)
          obtain ⟨q, HQ⟩ : ∃ q, Hid (q = x / 2 ^ j % 2) := ⟨_, rfl⟩
          rw [← HQ.out] at HTO
          obtain ⟨D, HD⟩ : ∃ D, Hid (D = U.take (8 * k + j)) := ⟨_, rfl⟩
          have hDl : D.length ≤ 268435456 := by rw [HD.out, List.length_take, HUl.out]; omega
          rw [← HD.out] at HW HTO
          clear hbit hxd hx
          go_wp2_with fail
          refine (bit_any x j (by omega) hx0 (by omega) _).mono ?_
          rintro e wx ⟨rfl, hwx⟩
          subst hwx
          rw [← HQ.out]
          obtain ⟨a1, p1, hv⟩ := HW.out.o.shape
          subst hv
          have c0 : wx.cell? ⟨g, 0, none⟩ = some (.slice a1 D.length p1) := HW.out.cell 0
          have hfz := HW.out.free
          obtain ⟨k1, r1, r2, r3⟩ := HW.out.alloc1 q
          have HROW := hide r1
          have HSRC := hide r2
          have HG6 := hide r3
          have HLEN : Hid (D.length + ([q] : List Int).length ≤ 140737488355328) := by show _ ≤ _; simp; omega
          clear r1 r2 r3
          go_wp2_with (at_builtin; refine wpList_app rfl _ _ 22 rfl 0 _ _ D [q] rfl (HROW.out _ rfl) rfl (HSRC.out _ rfl) HLEN.out (Nat.zero_le _) ?_)
          intro v6 w6 ho6 hg6
          obtain ⟨t0, tf⟩ := HG6.out _ w6 _ rfl hg6
          have HNX : Hid (Fill w g U (8 * k + (j + 1)) (w6.setCell ⟨g, 0, none⟩ v6)) := by
            obtain ⟨K', n1, n2⟩ := HW.out.snoc rfl rfl rfl rfl ho6 hg6
            refine ⟨K', v6, ?_, n2.up HN.out HBE.out.size, HBE.out.trans (n2.below HN.out HBE.out.size)⟩
            rw [show 8 * k + (j + 1) = 8 * k + j + 1 by omega, HTO.out]
            exact n1
          obtain ⟨a6, p6, rfl⟩ := ho6.shape
          clear ho6 hg6 HROW HSRC HG6 k1
          go_wp2
          go_roundw
          case rel => exact ⟨j + 1, by omega, by go_num, by show Fill _ _ _ _ _; simpa using HNX.out⟩
          case measure => simp [intOf]; omega
        · obtain rfl : j = 8 := by omega
          go_wp2
          go_roundw
          case rel => exact ⟨k + 1, by omega, by go_num, K1, v1, by rw [show 8 * (k + 1) = 8 * k + 8 by omega]; exact HW.out, HN.out, HBE.out⟩
          case measure => simp [intOf]; omega
    · obtain rfl : k = l.length := by omega
      have hlt' : ¬ (l.length : Int) < (l.length : Int) := by omega
      obtain ⟨K1, v1, hW, hN, hBe⟩ := HQ.out
      rw [List.take_of_length_le (by rw [HUl.out]; exact Nat.le_refl _)] at hW
      have HFIN : Hid (MadeQ w U (.returned (.pointer (some ⟨g, 0, none⟩))) wr) := ⟨g, K1, rfl, ⟨v1, hW, by rw [HU.out]; exact bit_unpack _, Nat.zero_le _, by rw [HUl.out]; omega, by rw [HUl.out]; omega⟩, hN, hBe⟩
      clear hW hN hBe HQ
      go_wp2
      go_ret
      exact HFIN.out
end Go.Proofs.YtdpoggapenjjfaaGreatDoor

