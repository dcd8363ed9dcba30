import Derived.Test.YtmjdpfigkojolaaGreatDoorG15Qr
import Derived.Test.YtmjdpfigkojolaaGreatDoorG05Rw3
import Derived.Test.YtmjdpfigkojolaaGreatDoorG08Ifa
import Derived.Test.YtmjdpfigkojolaaGreatDoorG04Nxt
namespace Go.Proofs.YtmjdpfigkojolaaGreatDoor
open Go.RowKit Go.Maps
set_option maxRecDepth 20000

theorem ahead_snoc {row : List Int} {p i : Nat} (h : p + i < row.length) : ahead row p (i + 1) = ahead row p i + row.getD (p + i) 0 * 2 ^ i := by
  unfold ahead
  have hl : i < (row.drop p).length := by rw [List.length_drop]; omega
  rw [List.take_succ_eq_append_getElem hl, val_append, List.length_take, Nat.min_eq_left (by omega)]
  have e : (row.drop p)[i] = row.getD (p + i) 0 := by
    rw [List.getElem_drop]
    simp [List.getD, h]
  rw [e]
  simp only [val]
  rw [Int.mul_comm]
  simp

set_option maxHeartbeats 1000000 in
theorem qpeek_any {w : World} {K : Nat → Nat} {g : Nat} {row : List Int} {p : Nat} (h : Rq w K g row p) (n : Int) :
    Calls Tryz.prog 93 #[.pointer (some ⟨g, 0, none⟩), .int .i64 n] w fun e w' => e = .returned (.tuple #[.int .u32 (peekV row p n), .int .i64 (peekK row p n)]) ∧ ∃ q, w' = w.drewN q := by
  obtain ⟨v, h1, h2, h3, h4, h5⟩ := h
  have c0 : ∀ q, (w.drewN q).cell? ⟨g, 0, none⟩ = some v := fun q => h1.cell 0
  have c1 : ∀ q, (w.drewN q).cell? ⟨g, 1, none⟩ = some (.int .i64 p) := fun q => h1.cell 1
  have HOB := hide h1.o
  have HBT := hide h2
  obtain ⟨a, c, rfl⟩ := h1.o.shape
  obtain ⟨hcc, hcm⟩ := h1.o.sb.cap
  clear h1 h2 h5
  by_cases hc : Cnt n
  case neg =>
    have HE : Hid (peekV row p n = 0 ∧ peekK row p n = 0) := ⟨if_neg hc, if_neg hc⟩
    by_cases h0 : n < 0
    · clear hc
      go_enter Tryz.func93, Tryz.ntmps93
      go_wp2
      go_ret2
      rw [HE.out.1, HE.out.2]
      exact ⟨rfl, 0, rfl⟩
    · have h32 : 32 < n := by unfold Cnt at hc; omega
      clear hc
      go_enter Tryz.func93, Tryz.ntmps93
      go_wp2
      go_ret2
      rw [HE.out.1, HE.out.2]
      exact ⟨rfl, 0, rfl⟩
  case pos =>
    have HE : Hid (peekV row p n = ahead row p n.toNat ∧ peekK row p n = min n ((row.length : Int) - p)) := ⟨if_pos hc, if_pos hc⟩
    obtain ⟨n0, n1⟩ := hc
    obtain ⟨m, rfl⟩ : ∃ m : Nat, n = m := ⟨n.toNat, by omega⟩
    go_enter Tryz.func93, Tryz.ntmps93
    go_wp2
    go_loopw [6, 7, 8] (fun x kk i wr => ∃ j q : Nat, j ≤ m ∧ p + j ≤ row.length ∧ i = .int .i64 j ∧ kk = .int .i64 j ∧ x = .int .u32 (ahead row p j) ∧ wr = w.drewN q) (fun _ _ i _ => m - (intOf i).toNat)
    case atStart => exact ⟨0, 0, Nat.zero_le _, by omega, rfl, rfl, by simp [ahead, val], rfl⟩
    case round =>
      obtain ⟨j, q, hj, hpj, rfl, rfl, rfl, rfl⟩ := hrel
      have k0 := c0 q
      have k1 := c1 q
      have hab := ahead_bound HBT.out p j
      obtain ⟨A, HA⟩ : ∃ A, Hid (A = ahead row p j) := ⟨_, rfl⟩
      rw [← HA.out] at hab ⊢
      have h232 : (2 : Int) ^ j ≤ 2 ^ 32 := pow_le (by omega)
      by_cases hjm : j < m
      · have hjm' : (j : Int) < (m : Int) := by omega
        have hdg : decide ((j : Int) < (m : Int)) = true := decide_eq_true hjm'
        by_cases hpl : p + j < row.length
        · have hpl' : (p : Int) + j < (row.length : Int) := by omega
          obtain ⟨b, hb⟩ : ∃ b, a = some ⟨b, 0, none⟩ := by
            rcases HOB.out.2 with ⟨e, h0⟩ | ⟨gb, c', cur, e, _⟩
            · omega
            · simp only [Value.slice.injEq] at e
              exact ⟨gb, e.1⟩
          subst hb
          obtain ⟨y, HY⟩ : ∃ y, Hid (y = row.getD (p + j) 0) := ⟨_, rfl⟩
          have hy : (w.drewN q).cell? ⟨b, p + j, none⟩ = some (.int .u8 y) := by rw [HY.out]; exact HOB.out.get rfl hpl
          have hyb : y = 0 ∨ y = 1 := by
            rw [HY.out]
            have : row.getD (p + j) 0 = row[p + j] := by simp [List.getD, hpl]
            rw [this]
            exact HBT.out _ (List.getElem_mem _)
          have HS := hide (ahead_snoc hpl)
          rw [← HA.out, ← HY.out] at HS
          have h231 : (2 : Int) ^ j ≤ 2 ^ 31 := pow_le (by omega)
          have hpp := pow_pos j
          have hz : 0 ≤ y * 2 ^ j ∧ y * 2 ^ j ≤ 2 ^ j := by rcases hyb with e | e <;> rw [e] <;> omega
          have hw1 : IntKind.u32.wrap (y * 2 ^ j) = y * 2 ^ j := by rw [IntKind.wrap_u32]; omega
          have hw2 : IntKind.u32.wrap (A + y * 2 ^ j) = A + y * 2 ^ j := by rw [IntKind.wrap_u32]; omega
          have hy0 : 0 ≤ y := by omega
          have hy1 : y ≤ 1 := by omega
          have hp0 : (0 : Int) ≤ (p : Int) + j := by omega
          have htn : ((p : Int) + j).toNat = p + j := by omega
          have hwp : IntKind.i64.wrap ((p : Int) + j) = (p : Int) + j := by rw [IntKind.wrap_i64]; omega
          clear hab h232 h231 hpp hz hyb
          go_wp2
          go_quiet (fail)
          go_wp2
          rw [World.drewN_drewN]
          generalize q + _ = q' at *
          have k0 := c0 q'
          have k1 := c1 q'
          have hy1 : (w.drewN q').cell? ⟨b, p + j, none⟩ = some (.int .u8 y) := hy
          have hy2 : w.cell? ⟨b, p + j, none⟩ = some (.int .u8 y) := hy
          have hy3 : ∀ n, ((w.drewN q').drewN n).cell? ⟨b, p + j, none⟩ = some (.int .u8 y) := fun n => hy
          go_quiet (fail)
          go_wp2
          go_roundw
          case rel => exact ⟨j + 1, _, by omega, by omega, by go_num, by go_num, by rw [HS.out], by (try simp only [World.drewN_drewN]); rfl⟩
          case measure => simp [intOf]; omega
        · have hpl' : ¬ (p : Int) + j < (row.length : Int) := by omega
          have hpd : decide ((p : Int) + j < (row.length : Int)) = false := decide_eq_false hpl'
          have hjL : (j : Int) = (row.length : Int) - p := by omega
          have HJ : Hid (ahead row p m = A) := by
            show _ = _
            rw [HA.out]
            unfold ahead
            rw [List.take_of_length_le (by rw [List.length_drop]; omega), List.take_of_length_le (by rw [List.length_drop]; omega)]
          have HMn : Hid (min (m : Int) ((row.length : Int) - p) = (j : Int)) := by show _ = _; omega
          clear hjL hab h232
          go_wp2
          go_quiet (fail)
          go_wp2
          go_ret2
          refine ⟨?_, _, by (try simp only [World.drewN_drewN]); rfl⟩
          rw [HE.out.1, HE.out.2, HMn.out, Int.toNat_natCast, HJ.out]
          rfl
      · obtain rfl : j = m := by omega
        have hjm' : ¬ (j : Int) < (j : Int) := by omega
        have hdg : decide ((j : Int) < (j : Int)) = false := decide_eq_false hjm'
        have HMn : Hid (min (j : Int) ((row.length : Int) - p) = (j : Int)) := by show _ = _; omega
        clear hab h232
        go_wp2
        go_quiet (fail)
        go_wp2
        go_ret2
        refine ⟨?_, _, by (try simp only [World.drewN_drewN]); rfl⟩
        rw [HE.out.1, HE.out.2, HMn.out, Int.toNat_natCast, ← HA.out]
        rfl

theorem qtake_any {w : World} {K : Nat → Nat} {g : Nat} {row : List Int} {p : Nat} (h : Rq w K g row p) (n : Int) :
    Calls Tryz.prog 72 #[.pointer (some ⟨g, 0, none⟩), .int .i64 n] w fun e w' => e = .returned (.tuple #[.int .u32 (takeV row p n), .int .i64 (takeE row p n)]) ∧ Rq w' K g row (takeP row p n) ∧ Fr K K w w' := by
  have H := hide h
  obtain ⟨v, h1, h2, h3, h4, h5⟩ := h
  have c0 : ∀ q, (w.drewN q).cell? ⟨g, 0, none⟩ = some v := fun q => h1.cell 0
  have c1 : ∀ q, (w.drewN q).cell? ⟨g, 1, none⟩ = some (.int .i64 p) := fun q => h1.cell 1
  have c0' : w.cell? ⟨g, 0, none⟩ = some v := h1.cell 0
  have c1' : w.cell? ⟨g, 1, none⟩ = some (.int .i64 p) := h1.cell 1
  have cf : ∀ q, (w.drewN q).frozen? ⟨g, 1, none⟩ = false := fun q => h1.free 1
  obtain ⟨a, c, rfl⟩ := h1.o.shape
  clear h1 h2 h5
  by_cases hc : Cnt n
  case neg =>
    have HE : Hid (takeE row p n = 1 ∧ takeV row p n = 0 ∧ takeP row p n = p) := ⟨if_neg hc, if_neg fun h => hc h.1, if_neg fun h => hc h.1⟩
    by_cases h0 : n < 0
    · clear hc c0 c1 cf
      go_enter Tryz.func72, Tryz.ntmps72
      go_wp2
      go_ret2
      rw [HE.out.1, HE.out.2.1, HE.out.2.2]
      exact ⟨rfl, H.out, Fr.refl _ _⟩
    · have h32 : 32 < n := by unfold Cnt at hc; omega
      clear hc c0 c1 cf
      go_enter Tryz.func72, Tryz.ntmps72
      go_wp2
      go_ret2
      rw [HE.out.1, HE.out.2.1, HE.out.2.2]
      exact ⟨rfl, H.out, Fr.refl _ _⟩
  case pos =>
  have HC := hide hc
  obtain ⟨n0, n1⟩ := id hc
  by_cases hl : n ≤ (row.length : Int) - p
  case neg =>
    have HE : Hid (takeE row p n = 30 ∧ takeV row p n = 0 ∧ takeP row p n = p) := ⟨by show (if _ then _ else _) = _; rw [if_pos hc, if_neg hl], if_neg fun h => hl h.2, if_neg fun h => hl h.2⟩
    clear hc c0 c1 cf
    go_enter Tryz.func72, Tryz.ntmps72
    go_wp2
    go_quiet (fail)
    go_wp2
    go_ret2
    rw [HE.out.1, HE.out.2.1, HE.out.2.2]
    exact ⟨rfl, H.out.drewN _, (Fr.refl _ _).drewN _⟩
  case pos =>
    have HE : Hid (takeE row p n = 0 ∧ takeV row p n = peekV row p n ∧ takeP row p n = p + n.toNat) := ⟨by show (if _ then _ else _) = _; rw [if_pos hc, if_pos hl], (if_pos (show takeOk row p n from ⟨hc, hl⟩)).trans (if_pos hc).symm, if_pos ⟨hc, hl⟩⟩
    obtain ⟨m, rfl⟩ : ∃ m : Nat, n = m := ⟨n.toNat, by omega⟩
    have HM : Hid (∀ q, Rq ((w.drewN q).setCell ⟨g, 1, none⟩ (.int .i64 ((p : Int) + m))) K g row (p + m) ∧ Fr K K w ((w.drewN q).setCell ⟨g, 1, none⟩ (.int .i64 ((p : Int) + m)))) := fun q => by
      obtain ⟨a1, a2⟩ := (H.out.drewN q).move (p + m) ((p : Int) + m) (by omega) (by omega)
      exact ⟨a1, ((Fr.refl _ _).drewN q).trans a2⟩
    clear hc
    go_enter Tryz.func72, Tryz.ntmps72
    go_wp2
    go_quiet (fail)
    rename_i nq _
    go_wp2_with fail
    refine (qpeek_any (H.out.drewN nq) m).mono ?_
    rintro e w1 ⟨rfl, q2, rfl⟩
    (try rw [World.drewN_drewN])
    have k1 := c1 (nq + q2)
    have kf := cf (nq + q2)
    clear c0 c1 cf
    go_wp2
    go_ret2
    rw [HE.out.1, HE.out.2.1, HE.out.2.2]
    exact ⟨rfl, HM.out _⟩
end Go.Proofs.YtmjdpfigkojolaaGreatDoor

namespace Go.Proofs.YtmjdpfigkojolaaGreatDoor
open Go.RowKit Go.Maps
set_option maxRecDepth 20000

end Go.Proofs.YtmjdpfigkojolaaGreatDoor

namespace Go.Proofs.YtmjdpfigkojolaaGreatDoor
open Go.RowKit Go.Maps
set_option maxRecDepth 20000

def MadeQ (w : World) (row : List Int) (e : Ending) (w' : World) : Prop := ∃ g K, e = .returned (.pointer (some ⟨g, 0, none⟩)) ∧ Rq w' K g row 0 ∧ (∀ k, K k ≠ 0 → w.heap.size ≤ k) ∧ Below w.heap.size w w'

def Fill (w : World) (g : Nat) (U : List Int) (n : Nat) (wr : World) : Prop := ∃ K1 v1, WV 118 [.int .i64 0] wr K1 g v1 (U.take n) ∧ (∀ k, K1 k ≠ 0 → w.heap.size ≤ k) ∧ Below w.heap.size w wr

set_option linter.unusedSimpArgs false in
set_option maxHeartbeats 4000000 in
theorem qnewReader_any (u : Value) (l : List Int) (w : World) (h : SB w u l) (hB : Byt l) (hl : l.length ≤ 33554432) :
    Calls Tryz.prog 50 #[u] w fun e w' => MadeQ w (unpack l) e w' := by
  obtain ⟨ao, cap, hu⟩ := h.len
  subst hu
  obtain ⟨hcap1, hcap2⟩ := h.cap
  have HS := hide h
  have HBy := hide hB
  obtain ⟨U, HU⟩ : ∃ U, Hid (U = unpack l) := ⟨_, rfl⟩
  have HUl : Hid (U.length = 8 * l.length) := by show _ = _; rw [HU.out, length_unpack]
  rw [← HU.out]
  clear h hB
  have HST : Hid (Fill w w.heap.size U 0 (w.alloc (.cells #[.slice none 0 0, .int .i64 0] 118))) := by
    refine ⟨fun k => if k = w.heap.size then 1 else 0, .slice none 0 0, ⟨heap_alloc_new w _, by simp, World.ownsRow_nil _ _ _ _, (fun k hk => by simp [Value.ownBlock] at hk), fun k hk => ?_⟩, fun k hk => ?_, (Below.refl _ _).alloc (Nat.le_refl _) _⟩
    · by_cases e : k = w.heap.size
      · rw [e, size_alloc']; omega
      · simp [e] at hk
    · by_cases e : k = w.heap.size
      · omega
      · simp [e] at hk
  obtain ⟨g, HG⟩ : ∃ g, Hid (g = w.heap.size) := ⟨_, rfl⟩
  go_enter Tryz.func50, Tryz.ntmps50
  go_wp2
  rw [← HG.out] at HST ⊢
  go_loopw [4] (fun i wr => ∃ k : Nat, k ≤ l.length ∧ i = .int .i64 k ∧ Hid (Fill w g U (8 * k) wr)) (fun i _ => l.length - (intOf i).toNat)
  case atStart => exact ⟨0, Nat.zero_le _, rfl, HST.out⟩
  case round =>
    clear HST
    obtain ⟨k, hk, rfl, HQ⟩ := hrel
    by_cases hlt : k < l.length
    · have hlt' : (k : Int) < (l.length : Int) := by omega
      go_wp2
      go_loopw [5] (fun i wr => ∃ j : Nat, j ≤ 8 ∧ i = .int .i64 j ∧ Hid (Fill w g U (8 * k + j) wr)) (fun i _ => 8 - (intOf i).toNat)
      case atStart => exact ⟨0, by omega, rfl, HQ.out⟩
      case round =>
        clear HQ
        obtain ⟨j, hj, rfl, HQ⟩ := hrel
        obtain ⟨K1, v1, hW, hN, hBe⟩ := HQ.out
        have HW := hide hW
        have HN := hide hN
        have HBE := hide hBe
        clear HQ hW hN hBe
        by_cases hj8 : j < 8
        · have hj8' : (j : Int) < 8 := by omega
          obtain ⟨x, hx⟩ : ∃ x, l[k]? = some x := ⟨l[k], by simp [hlt]⟩
          have hbit := unpack_get hx hj8
          rw [← HU.out] at hbit
          obtain ⟨b, o, hao, hc⟩ := HS.out.byte HBE.out hlt
          have hxd : l.getD k 0 = x := by rw [List.getD, hx]; rfl
          rw [hxd] at hc
          obtain ⟨hx0, hx1⟩ := HBy.out.get hx
          subst hao
          have HTO := hide (take_one hbit)
          obtain ⟨q, HQ⟩ : ∃ q, Hid (q = x / 2 ^ j % 2) := ⟨_, rfl⟩
          rw [← HQ.out] at HTO
          obtain ⟨D, HD⟩ : ∃ D, Hid (D = U.take (8 * k + j)) := ⟨_, rfl⟩
          have hDl : D.length ≤ 268435456 := by rw [HD.out, List.length_take, HUl.out]; omega
          rw [← HD.out] at HW HTO
          clear hbit hxd hx
          go_wp2_with fail
          refine (bit_any x j (by omega) hx0 (by omega) _).mono ?_
          rintro e wx ⟨rfl, hwx⟩
          subst hwx
          rw [← HQ.out]
          obtain ⟨a1, p1, hv⟩ := HW.out.o.shape
          subst hv
          have c0 : wx.cell? ⟨g, 0, none⟩ = some (.slice a1 D.length p1) := HW.out.cell 0
          have hfz := HW.out.free
          obtain ⟨k1, r1, r2, r3⟩ := HW.out.alloc1 q
          have HROW := hide r1
          have HSRC := hide r2
          have HG6 := hide r3
          have HLEN : Hid (D.length + ([q] : List Int).length ≤ 140737488355328) := by show _ ≤ _; simp; omega
          clear r1 r2 r3
          go_wp2_with (at_builtin; refine wpList_app rfl _ _ 22 rfl 0 _ _ D [q] rfl (HROW.out _ rfl) rfl (HSRC.out _ rfl) HLEN.out (Nat.zero_le _) ?_)
          intro v6 w6 ho6 hg6
          obtain ⟨t0, tf⟩ := HG6.out _ w6 _ rfl hg6
          have HNX : Hid (Fill w g U (8 * k + (j + 1)) (w6.setCell ⟨g, 0, none⟩ v6)) := by
            obtain ⟨K', n1, n2⟩ := HW.out.snoc rfl rfl rfl rfl ho6 hg6
            refine ⟨K', v6, ?_, n2.up HN.out HBE.out.size, HBE.out.trans (n2.below HN.out HBE.out.size)⟩
            rw [show 8 * k + (j + 1) = 8 * k + j + 1 by omega, HTO.out]
            exact n1
          obtain ⟨a6, p6, rfl⟩ := ho6.shape
          clear ho6 hg6 HROW HSRC HG6 k1
          go_wp2
          go_roundw
          case rel => exact ⟨j + 1, by omega, by go_num, by show Fill _ _ _ _ _; simpa using HNX.out⟩
          case measure => simp [intOf]; omega
        · obtain rfl : j = 8 := by omega
          go_wp2
          go_roundw
          case rel => exact ⟨k + 1, by omega, by go_num, K1, v1, by rw [show 8 * (k + 1) = 8 * k + 8 by omega]; exact HW.out, HN.out, HBE.out⟩
          case measure => simp [intOf]; omega
    · obtain rfl : k = l.length := by omega
      have hlt' : ¬ (l.length : Int) < (l.length : Int) := by omega
      obtain ⟨K1, v1, hW, hN, hBe⟩ := HQ.out
      rw [List.take_of_length_le (by rw [HUl.out]; exact Nat.le_refl _)] at hW
      have HFIN : Hid (MadeQ w U (.returned (.pointer (some ⟨g, 0, none⟩))) wr) := ⟨g, K1, rfl, ⟨v1, hW, by rw [HU.out]; exact bit_unpack _, Nat.zero_le _, by rw [HUl.out]; omega, by rw [HUl.out]; omega⟩, hN, hBe⟩
      clear hW hN hBe HQ
      go_wp2
      go_ret
      exact HFIN.out
end Go.Proofs.YtmjdpfigkojolaaGreatDoor

namespace Go.Proofs.YtmjdpfigkojolaaGreatDoor
open Go.RowKit Go.Maps
set_option maxRecDepth 20000

structure It where
  kind : Int
  v : Int
  n : Int
  d : Value
  l : List Int

def ISc (w : World) (v : Value) (ops : List It) : Prop :=
  ∃ ao cap, v = .slice ao ops.length cap ∧ ops.length ≤ cap ∧ cap ≤ maxLen ∧ ∀ (i : Nat) (o : It), ops[i]? = some o → ∃ b of, ao = some ⟨b, of, none⟩ ∧ w.cell? ⟨b, of + i * 4, none⟩ = some (.int .i64 o.kind) ∧ w.cell? ⟨b, of + i * 4 + 1, none⟩ = some (.int .u32 o.v) ∧ w.cell? ⟨b, of + i * 4 + 2, none⟩ = some (.int .i64 o.n) ∧ w.cell? ⟨b, of + i * 4 + 3, none⟩ = some o.d

def IOk (w : World) (ops : List It) : Prop := ∀ o ∈ ops, (0 ≤ o.v ∧ o.v < 4294967296) ∧ SB w o.d o.l ∧ Byt o.l ∧ o.l.length ≤ 1048576

def wid (o : It) : Nat := (o.n % 33).toNat
def low (o : It) : Int := o.v % 2 ^ wid o

theorem IOk.take {w : World} {ops : List It} (h : IOk w ops) (k : Nat) : IOk w (ops.take k) := fun o ho => h o (List.mem_of_mem_take ho)

theorem ISc.len {w : World} {v : Value} {ops : List It} (h : ISc w v ops) : ∃ a c, v = .slice a ops.length c ∧ ops.length ≤ c ∧ c ≤ 9223372036854775807 := by
  obtain ⟨a, c, h, h1, h2, _⟩ := h
  unfold maxLen at h2
  exact ⟨a, c, h, h1, h2⟩

end Go.Proofs.YtmjdpfigkojolaaGreatDoor

namespace Go.Proofs.YtmjdpfigkojolaaGreatDoor
open Go.RowKit Go.Maps
set_option maxRecDepth 20000

theorem Herd.only {W w : World} {xs : List ((Nat → Nat) × Thing)} (h : Herd W w xs) (i : Nat) {d : (Nat → Nat) × Thing} (hi : xs[i]? = some d) : Herd W w [d] := by
  have e : ∀ (j : Nat) (d' : (Nat → Nat) × Thing), [d][j]? = some d' → j = 0 ∧ d' = d := fun j d' h => by
    cases j with
    | zero => simp at h; exact ⟨rfl, h.symm⟩
    | succ j => simp at h
  refine ⟨h.bel, fun j d' hd => ?_, fun j d' hd => ?_, fun j j' d' e' hd he hne => ?_⟩
  · obtain ⟨_, rfl⟩ := e j d' hd; exact h.rep i _ hi
  · obtain ⟨_, rfl⟩ := e j d' hd; exact h.up i _ hi
  · have := (e j d' hd).1; have := (e j' e' he).1; omega

end Go.Proofs.YtmjdpfigkojolaaGreatDoor

namespace Go.Proofs.YtmjdpfigkojolaaGreatDoor
open Go.RowKit Go.Maps
set_option maxRecDepth 20000

def tq (g : Nat) (row : List Int) (p : Nat) : Thing := ⟨fun w K => Rq w K g row p, fun h a b => h.far a b, fun h => h.sup⟩

theorem hqnew {W w : World} {xs : List ((Nat → Nat) × Thing)} (H : Herd W w xs) (u : Value) (l : List Int) (h : SB w u l) (hB : Byt l) (hl : l.length ≤ 33554432) :
    Calls Tryz.prog 50 #[u] w fun e w' => ∃ g K, e = .returned (.pointer (some ⟨g, 0, none⟩)) ∧ Herd W w' (xs ++ [(K, tq g (unpack l) 0)]) := by
  refine (qnewReader_any u l w h hB hl).mono ?_
  rintro e w1 ⟨g, K, rfl, hR, hn, hb⟩
  exact ⟨g, K, rfl, H.push hb hR hn⟩

theorem hqtake {W w : World} {xs : List ((Nat → Nat) × Thing)} (H : Herd W w xs) (i : Nat) {K : Nat → Nat} {g : Nat} {row : List Int} {p : Nat} (hi : xs[i]? = some (K, tq g row p)) (n : Int) :
    Calls Tryz.prog 72 #[.pointer (some ⟨g, 0, none⟩), .int .i64 n] w fun e w' => e = .returned (.tuple #[.int .u32 (takeV row p n), .int .i64 (takeE row p n)]) ∧ Herd W w' (xs.set i (K, tq g row (takeP row p n))) := by
  have hw : Rq w K g row p := H.rep i _ hi
  refine (qtake_any hw n).mono ?_
  rintro e w1 ⟨rfl, h1, h2⟩
  exact ⟨rfl, H.op i hi (x' := tq g row (takeP row p n)) h1 h2⟩

theorem hqpeek {W w : World} {xs : List ((Nat → Nat) × Thing)} (H : Herd W w xs) (i : Nat) {K : Nat → Nat} {g : Nat} {row : List Int} {p : Nat} (hi : xs[i]? = some (K, tq g row p)) (n : Int) :
    Calls Tryz.prog 93 #[.pointer (some ⟨g, 0, none⟩), .int .i64 n] w fun e w' => e = .returned (.tuple #[.int .u32 (peekV row p n), .int .i64 (peekK row p n)]) ∧ Herd W w' xs := by
  have hw : Rq w K g row p := H.rep i _ hi
  refine (qpeek_any hw n).mono ?_
  rintro e w1 ⟨rfl, q, rfl⟩
  exact ⟨rfl, H.drewN q⟩

theorem hqskip {W w : World} {xs : List ((Nat → Nat) × Thing)} (H : Herd W w xs) (i : Nat) {K : Nat → Nat} {g : Nat} {row : List Int} {p : Nat} (hi : xs[i]? = some (K, tq g row p)) (n : Int) :
    Calls Tryz.prog 140 #[.pointer (some ⟨g, 0, none⟩), .int .i64 n] w fun e w' => e = .returned (.int .i64 (skipE row p n)) ∧ Herd W w' (xs.set i (K, tq g row (skipP row p n))) := by
  have hw : Rq w K g row p := H.rep i _ hi
  refine (qskip_any hw n).mono ?_
  rintro e w1 ⟨rfl, h1, h2⟩
  exact ⟨rfl, H.op i hi (x' := tq g row (skipP row p n)) h1 h2⟩

theorem hqalign {W w : World} {xs : List ((Nat → Nat) × Thing)} (H : Herd W w xs) (i : Nat) {K : Nat → Nat} {g : Nat} {row : List Int} {p : Nat} (hi : xs[i]? = some (K, tq g row p)) :
    Calls Tryz.prog 94 #[.pointer (some ⟨g, 0, none⟩)] w fun e w' => e = .returned (.tuple #[]) ∧ Herd W w' (xs.set i (K, tq g row (algn p))) := by
  have hw : Rq w K g row p := H.rep i _ hi
  refine (qalign_any hw).mono ?_
  rintro e w1 ⟨rfl, h1, h2⟩
  exact ⟨rfl, H.op i hi (x' := tq g row (algn p)) h1 h2⟩

theorem hqleft {W w : World} {xs : List ((Nat → Nat) × Thing)} (H : Herd W w xs) (i : Nat) {K : Nat → Nat} {g : Nat} {row : List Int} {p : Nat} (hi : xs[i]? = some (K, tq g row p)) :
    Calls Tryz.prog 95 #[.pointer (some ⟨g, 0, none⟩)] w fun e w' => e = .returned (.int .i64 ((row.length : Int) - p)) ∧ Herd W w' xs := by
  have hw : Rq w K g row p := H.rep i _ hi
  refine (qleft_any hw).mono ?_
  rintro e w1 ⟨rfl, q, rfl⟩
  exact ⟨rfl, H.drewN q⟩

end Go.Proofs.YtmjdpfigkojolaaGreatDoor

namespace Go.Proofs.YtmjdpfigkojolaaGreatDoor
open Go.RowKit Go.Maps
set_option maxRecDepth 20000

structure Dx (w : World) (K : Nat → Nat) (g : Nat) (l : List Int) : Prop where
  d : ∃ vl vw, w.heap[g]? = some (.cells #[vl, vw, .int .i64 (shp l)] 183 (0, 0)) ∧ OI w 0 vl l ∧ OI w 0 vw (wds l) ∧ (∀ k, vl.ownBlock = some k → K k ≠ 0) ∧ (∀ k, vw.ownBlock = some k → K k ≠ 0)
  k : K g ≠ 0
  sup : ∀ k, K k ≠ 0 → k < w.heap.size
  ok : dcE l = 0

theorem Dx.far {w w' : World} {K : Nat → Nat} {g : Nat} {l : List Int} (h : Dx w K g l) (hsz : w.heap.size ≤ w'.heap.size) (hb : ∀ k, K k ≠ 0 → w'.heap[k]? = w.heap[k]?) : Dx w' K g l := by
  obtain ⟨vl, vw, a1, a2, a3, a4, a5⟩ := h.d
  exact ⟨⟨vl, vw, (hb g h.k).trans a1, a2.move fun k hk => hb k (a4 k hk), a3.move fun k hk => hb k (a5 k hk), a4, a5⟩, h.k, fun k hk => Nat.lt_of_lt_of_le (h.sup k hk) hsz, h.ok⟩

def tdx (g : Nat) (l : List Int) : Thing := ⟨fun w K => Dx w K g l, fun h a b => h.far a b, fun h => h.sup⟩

def MadeDx (w : World) (l : List Int) (e : Ending) (w' : World) : Prop := Below w.heap.size w w' ∧ ((dcE l ≠ 0 ∧ e = .returned (.tuple #[.pointer none, .int .i64 (dcE l)])) ∨ (dcE l = 0 ∧ ∃ g K, e = .returned (.tuple #[.pointer (some ⟨g, 0, none⟩), .int .i64 0]) ∧ Dx w' K g l ∧ ∀ k, K k ≠ 0 → w.heap.size ≤ k))

theorem cd_of_dc {l : List Int} (h : dcE l = 0) : cdE l = 0 ∧ cdL l = wds l := by
  obtain ⟨h1, h2⟩ := (dcE_iff l).1 h
  have e : cdE l = 0 := by unfold cdE; rw [if_neg (by simp [h1]), if_neg (by omega)]
  exact ⟨e, if_pos e⟩

set_option maxHeartbeats 1000000 in
theorem xnewDecoder_any (v : Value) (l : List Int) (w : World) (h : SI w v l) :
    Calls Tryz.prog 96 #[v] w fun e w' => MadeDx w l e w' := by
  have HS := hide h
  obtain ⟨ao, cap, rfl, hlc, hcm⟩ := h.open
  clear h
  by_cases h0 : chkE l = 0
  case neg =>
    have h1 : (chkE l == 0) = false := by simpa using h0
    have hb : bkE l = chkE l := if_pos h0
    have hE : dcE l = chkE l := by unfold dcE; rw [if_pos (by rw [hb]; exact h0), hb]
    have HE := hide hE
    have HNE : Hid (dcE l ≠ 0) := by show _ ≠ _; rw [hE]; exact h0
    obtain ⟨q, HQ⟩ : ∃ q, Hid (q = chkE l) := ⟨_, rfl⟩
    obtain ⟨r, HR⟩ : ∃ q, Hid (q = chkS l) := ⟨_, rfl⟩
    rw [← HQ.out] at h0 h1 HE
    clear hb hE
    go_enter Tryz.func96, Tryz.ntmps96
    go_wp2_with fail
    refine (xcheck_any _ l _ HS.out).mono ?_
    rintro e w1 ⟨rfl, rfl⟩
    rw [← HQ.out, ← HR.out]
    go_wp2
    go_ret2
    exact ⟨Below.refl _ _, .inl ⟨HNE.out, by rw [HE.out]; rfl⟩⟩
  obtain ⟨hl, hs⟩ := chkE_zero h0
  have HL := hide hl
  have h288 := hl.1
  have HR := hide hs
  have HQ := hide h0
  have hbk : bkE l = if shp l = 2 then 52 else if shp l = 3 then 51 else 0 := by unfold bkE; rw [if_neg (by simp [h0])]
  clear hl hs h0
  by_cases c0 : shp l = 0
  · have hE : dcE l = 53 := by unfold dcE; rw [if_neg (by rw [hbk, if_neg (by omega), if_neg (by omega)]; simp), if_pos c0]
    have HE := hide hE
    clear hE hbk
    go_enter Tryz.func96, Tryz.ntmps96
    go_wp2_with fail
    refine (xcheck_any _ l _ HS.out).mono ?_
    rintro e w1 ⟨rfl, rfl⟩
    rw [HQ.out, HR.out, c0]
    go_wp2
    go_ret2
    exact ⟨Below.refl _ _, .inl ⟨by rw [HE.out]; decide, by rw [HE.out]; rfl⟩⟩
  by_cases c2 : shp l = 2
  · have hE : dcE l = 52 := by unfold dcE; rw [if_pos (by rw [hbk, if_pos c2]; decide), hbk, if_pos c2]
    have HE := hide hE
    clear hE hbk c0
    go_enter Tryz.func96, Tryz.ntmps96
    go_wp2_with fail
    refine (xcheck_any _ l _ HS.out).mono ?_
    rintro e w1 ⟨rfl, rfl⟩
    rw [HQ.out, HR.out, c2]
    go_wp2
    go_ret2
    exact ⟨Below.refl _ _, .inl ⟨by rw [HE.out]; decide, by rw [HE.out]; rfl⟩⟩
  by_cases c3 : shp l = 3
  · have hE : dcE l = 51 := by unfold dcE; rw [if_pos (by rw [hbk, if_neg c2, if_pos c3]; decide), hbk, if_neg c2, if_pos c3]
    have HE := hide hE
    clear hE hbk c0 c2
    go_enter Tryz.func96, Tryz.ntmps96
    go_wp2_with fail
    refine (xcheck_any _ l _ HS.out).mono ?_
    rintro e w1 ⟨rfl, rfl⟩
    rw [HQ.out, HR.out, c3]
    go_wp2
    go_ret2
    exact ⟨Below.refl _ _, .inl ⟨by rw [HE.out]; decide, by rw [HE.out]; rfl⟩⟩
  have hE : dcE l = 0 := by unfold dcE; rw [if_neg (by rw [hbk, if_neg c2, if_neg c3]; simp), if_neg c0]
  have HE := hide hE
  have HCD := hide (cd_of_dc hE)
  obtain ⟨r, HR2⟩ : ∃ q, Hid (q = shp l) := ⟨_, rfl⟩
  rw [← HR2.out] at c0 c2 c3
  have c0' : (r == 0) = false := by simpa using c0
  have c2' : (r == 2) = false := by simpa using c2
  have c3' : (r == 3) = false := by simpa using c3
  clear hE hbk
  go_enter Tryz.func96, Tryz.ntmps96
  go_wp2_with fail
  refine (xcheck_any _ l _ HS.out).mono ?_
  rintro e w1 ⟨rfl, rfl⟩
  rw [HQ.out, HR.out, ← HR2.out]
  go_wp2_with fail
  refine (xcodes_any _ l _ HS.out).mono ?_
  rintro e w2 ⟨a2, c2, rfl, ho2, hb2⟩
  rw [HCD.out.2, wds_len] at ho2
  rw [HCD.out.1, HCD.out.2, wds_len]
  have HO2 := hide ho2
  have HB2 := hide hb2
  have HS2 := hide (HS.out.below hb2)
  clear ho2 hb2
  obtain ⟨V, HV⟩ : ∃ V, Hid (V = w2.alloc (.cells #[.slice none 0 0, .slice a2 l.length c2, .int .i64 r] 183)) := ⟨_, rfl⟩
  have hbox : V.heap[w2.heap.size]? = some (.cells #[.slice none 0 0, .slice a2 l.length c2, .int .i64 r] 183 (0, 0)) := by rw [HV.out]; exact heap_alloc_new w2 _
  have hbV : Below w2.heap.size w2 V := by rw [HV.out]; exact (Below.refl _ _).alloc (Nat.le_refl _) _
  have HBOX := hide hbox
  have HSR : Hid (Src Tryz.prog 1 113 (.slice ao l.length cap) l.length (l.map (Value.int .i64)) (w2.alloc (.cells #[.slice none 0 0, .slice a2 l.length c2, .int .i64 r] 183))) := by rw [← HV.out]; exact (HS2.out.below hbV).src
  have HOV := hide (HO2.out.below hbV (Nat.le_refl _))
  have HBV := hide (HB2.out.trans (hbV.mono HB2.out.size))
  have HSZ : Hid (V.heap.size = w2.heap.size + 1) := by show _ = _; rw [HV.out]; simp
  have hw12 : w1.heap.size ≤ w2.heap.size := HB2.out.size
  clear hbox hbV
  go_wp2_with (at_builtin; refine wpList_appI rfl _ _ 113 rfl w1.heap.size _ _ [] l rfl (World.ownsRow_nil _ _ _ _) rfl HSR.out (by simp; omega) (by simp; omega) ?_)
  rw [← HV.out]
  intro v3 w3 ho3 hgr3
  have hB3 : w3.heap[w2.heap.size]? = some (.cells #[.slice none 0 0, .slice a2 l.length c2, .int .i64 r] 183 (0, 0)) := (hgr3.by.block _ (by rw [HSZ.out]; omega) (by simp [Value.ownBlock])).trans HBOX.out
  have k0 : w3.cell? ⟨w2.heap.size, 0, none⟩ = some (.slice none 0 0) := by rw [cell_of_row _ _ _ _ _ _ hB3]; rfl
  have f0 : w3.frozen? ⟨w2.heap.size, 0, none⟩ = false := frozen_of_row _ _ _ _ _ hB3
  obtain ⟨a3, c3', hv3⟩ := ho3.shape
  have HF : Hid (MadeDx w1 l (.returned (.tuple #[.pointer (some ⟨w2.heap.size, 0, none⟩), .int .i64 0])) (w3.setCell ⟨w2.heap.size, 0, none⟩ v3)) := by
    have hnb : ∀ k, v3.ownBlock = some k → k ≠ w2.heap.size := fun k hk e => by
      rcases hgr3.at with h | h
      · rw [h, HSZ.out] at hk; simp at hk; omega
      · rw [h] at hk; simp [Value.ownBlock] at hk
    have p1 : OI (w3.setCell ⟨w2.heap.size, 0, none⟩ v3) w1.heap.size v3 l := (show OI w3 w1.heap.size v3 l from ho3).move fun k hk => setCell_others w3 _ _ _ _ (hnb k hk)
    have q2 : OI w3 w1.heap.size (.slice a2 l.length c2) (wds l) := HOV.out.move fun k hk => hgr3.by.block k (HOV.out.lt k hk).2 (by simp [Value.ownBlock])
    have p2 : OI (w3.setCell ⟨w2.heap.size, 0, none⟩ v3) w1.heap.size (.slice a2 l.length c2) (wds l) := q2.move fun k hk => setCell_others w3 _ _ _ _ (fun e => by have := (HO2.out.lt k hk).2; omega)
    have hsz3 : w2.heap.size < w3.heap.size := by have := hgr3.by.size; rw [HSZ.out] at this; omega
    have hbel : Below w1.heap.size w1 (w3.setCell ⟨w2.heap.size, 0, none⟩ v3) := by
      have h1 : Below w1.heap.size w1 w3 := HBV.out.grown hgr3.by HBV.out.size (fun k hk => by simp [Value.ownBlock] at hk)
      exact h1.setCell (by show _ ≤ w2.heap.size; omega) _
    refine ⟨hbel, .inr ⟨HE.out, w2.heap.size, fun k => if k = w2.heap.size ∨ v3.ownBlock = some k ∨ (Value.slice a2 l.length c2).ownBlock = some k then 1 else 0, rfl, ⟨⟨v3, .slice a2 l.length c2, ?_, p1.base (Nat.zero_le _), p2.base (Nat.zero_le _), fun k hk => by simp [hk], fun k hk => by simp [hk]⟩, by simp, fun k hk => ?_, HE.out⟩, fun k hk => ?_⟩⟩
    · rw [heap_setCell_same _ _ _ _ _ _ hB3, ← HR2.out]; rfl
    · by_cases c : k = w2.heap.size ∨ v3.ownBlock = some k ∨ (Value.slice a2 l.length c2).ownBlock = some k
      · rcases c with rfl | c | c
        · rw [size_setCell]; exact hsz3
        · exact (p1.lt k c).2
        · exact (p2.lt k c).2
      · simp [c] at hk
    · by_cases c : k = w2.heap.size ∨ v3.ownBlock = some k ∨ (Value.slice a2 l.length c2).ownBlock = some k
      · rcases c with rfl | c | c
        · exact hw12
        · exact (p1.lt k c).1
        · exact (p2.lt k c).1
      · simp [c] at hk
  subst hv3
  clear ho3 hgr3 hB3
  go_wp2
  go_ret2
  exact HF.out

def At (l : List Int) (n y s : Nat) : Prop := s < l.length ∧ ln l s = n ∧ wd l s = y

theorem at_hit {l : List Int} (v : Int) {n s : Nat} (hn : n ≤ 15) (h0 : 0 < n) {y : Nat} (hy : mir v n = (y : Int)) : At l n y s ↔ Hit l (rowN v) s ∧ ln l s = n := by
  have hr := mir_row v hn
  rw [hy] at hr
  have hr' : rowN v / 2 ^ (15 - n) = y := by exact_mod_cast hr.symm
  rw [hit_iff]
  constructor
  · rintro ⟨h1, h2, h3⟩
    exact ⟨⟨⟨h1, by omega⟩, by rw [h2, h3]; exact hr'⟩, h2⟩
  · rintro ⟨⟨h1, h2⟩, h3⟩
    exact ⟨h1.1, h3, by rw [← h2, h3]; exact hr'⟩

theorem ahead_mod {row : List Int} (hb : Bit row) (p : Nat) {n : Nat} (h : n ≤ 15) : bts (ahead row p n) n = bts (ahead row p 15) n := by
  have e : ahead row p n = ahead row p 15 % 2 ^ n := by
    unfold ahead
    rw [← val_take ((hb.drop p).take 15), List.take_take, Nat.min_eq_left h]
  rw [e, bts_mod]

theorem mir_ahead {row : List Int} (hb : Bit row) (p : Nat) {n : Nat} (h : n ≤ 15) : mir (ahead row p n) n = mir (ahead row p 15) n := by unfold mir; rw [ahead_mod hb p h]

theorem top_bit {v : Int} {n : Nat} (h0 : 0 ≤ v) (h1 : v < 2 ^ (n + 1)) : v / 2 ^ n = v / 2 ^ n % 2 := by
  have hp := pow_pos n
  rw [pow_add1] at h1
  have : v / 2 ^ n < 2 := by rw [Int.ediv_lt_iff_lt_mul hp]; omega
  have h2 := Int.ediv_nonneg h0 (Int.le_of_lt hp)
  omega
end Go.Proofs.YtmjdpfigkojolaaGreatDoor

namespace Go.Proofs.YtmjdpfigkojolaaGreatDoor
open Go.RowKit Go.Maps
set_option maxRecDepth 20000

theorem us_four {l : List Int} (hl : Lens l) (h : shp l = 4) : us l 16 = 32768 := by
  rw [us_sum hl.2]
  unfold shp at h
  by_cases c0 : tsum l = 0
  · rw [if_pos c0] at h; omega
  · rw [if_neg c0] at h
    by_cases c1 : tsum l = 1 ∧ usum l = 16384
    · rw [if_pos c1] at h; omega
    · rw [if_neg c1] at h
      by_cases c2 : 32768 < usum l
      · rw [if_pos c2] at h; omega
      · rw [if_neg c2] at h
        by_cases c3 : usum l = 32768
        · exact c3
        · rw [if_neg c3] at h; omega

theorem us_one {l : List Int} (hl : Lens l) (h : shp l = 1) : us l 16 = 16384 ∧ ∀ s, Has l s → ln l s = 1 := by
  have hs : tsum l = 1 ∧ usum l = 16384 := by
    unfold shp at h
    by_cases c0 : tsum l = 0
    · rw [if_pos c0] at h; omega
    · rw [if_neg c0] at h
      by_cases c1 : tsum l = 1 ∧ usum l = 16384
      · exact c1
      · rw [if_neg c1] at h
        by_cases c2 : 32768 < usum l
        · rw [if_pos c2] at h; omega
        · rw [if_neg c2] at h
          by_cases c3 : usum l = 32768
          · rw [if_pos c3] at h; omega
          · rw [if_neg c3] at h; omega
  refine ⟨by rw [us_sum hl.2]; exact hs.2, fun s hh => ?_⟩
  have h1 := (single_iff hl).1 hs (ln l s) (by have := (hl.ln s).2; omega)
  have h2 := hh.rk_lt hl
  by_cases e : ln l s = 1
  · exact e
  · rw [if_neg e] at h1; omega

theorem nx_end {l row : List Int} {p k : Nat} (hd : dcE l = 0) (hpl : p ≤ row.length) (h : row.length < p + (k + 1)) (hinv : ∀ s, Hit l (rowAt row p) s → k < ln l s) (h1 : shp l = 1 → k = 0) : nxE l row p = 54 ∧ nxS l row p = 0 ∧ nxP l row p = p := by
  obtain ⟨_, hs⟩ := (dcE_iff l).1 hd
  have hl := (dcE_zero hd).1
  have hR : rowAt row p < us l 16 := by
    rcases hs with hs | hs
    · have hk := h1 hs
      have hp : row.length = p := by omega
      have : rowAt row p = 0 := by
        unfold rowAt ahead
        rw [List.drop_of_length_le (by omega)]
        show rowN 0 = 0
        unfold rowN mir
        rw [bts_zero, List.reverse_replicate, val_zeros]
        rfl
      rw [this, (us_one hl hs).1]; omega
    · rw [us_four hl hs]; exact row_lt _
  obtain ⟨s, hs'⟩ := hit_ex hR
  obtain ⟨f1, f2⟩ := fd_hit hl hs'
  have := hinv s hs'
  have hE : nxE l row p = 54 := by unfold nxE; rw [if_pos f2, f1, if_neg (by omega)]
  exact ⟨hE, by unfold nxS; rw [if_neg (by rw [hE]; decide)], by unfold nxP; rw [if_neg (by rw [hE]; decide)]⟩

theorem nx_none {l row : List Int} {p : Nat} (h : ¬ ∃ s, Hit l (rowAt row p) s) : nxE l row p = 55 ∧ nxS l row p = 0 ∧ nxP l row p = p := by
  have hE : nxE l row p = 55 := by unfold nxE; rw [if_neg (by rw [(fd_none h).2]; decide)]
  exact ⟨hE, by unfold nxS; rw [if_neg (by rw [hE]; decide)], by unfold nxP; rw [if_neg (by rw [hE]; decide)]⟩

theorem nx_found {l row : List Int} {p s : Nat} (hl : Lens l) (h : Hit l (rowAt row p) s) (hp : p + ln l s ≤ row.length) : nxE l row p = 0 ∧ nxS l row p = s ∧ nxP l row p = p + ln l s := by
  obtain ⟨f1, f2⟩ := fd_hit hl h
  have hE : nxE l row p = 0 := by unfold nxE; rw [if_pos f2, f1, if_pos hp]
  exact ⟨hE, by unfold nxS; rw [if_pos hE, f1], by unfold nxP; rw [if_pos hE, f1]⟩

theorem tk_step {row : List Int} (hb : Bit row) {p k : Nat} (hk : k < 15) : mir (ahead row p 15) (k + 1) = 2 * mir (ahead row p 15) k + ahead row p (k + 1) / 2 ^ k ∧ 0 ≤ ahead row p (k + 1) ∧ ahead row p (k + 1) < 2 ^ (k + 1) := by
  have hbd := ahead_bound hb p (k + 1)
  have h1 := mir_ahead hb p (n := k + 1) (by omega)
  have h2 := mir_succ (ahead row p (k + 1)) k
  have h3 : mir (ahead row p (k + 1)) k = mir (ahead row p 15) k := by
    unfold mir
    rw [← bts_take (ahead row p (k + 1)) (show k ≤ k + 1 by omega), ahead_mod hb p (show k + 1 ≤ 15 by omega), bts_take _ (by omega)]
  have h4 := top_bit hbd.1 hbd.2
  rw [h1, h3] at h2
  exact ⟨by rw [h2, ← h4]; omega, hbd⟩

set_option maxHeartbeats 4000000 in
theorem hxnext {W w : World} {xs : List ((Nat → Nat) × Thing)} (H : Herd W w xs) (i j : Nat) {K Kr : Nat → Nat} {g r : Nat} {l row : List Int} {p : Nat} (hi : xs[i]? = some (K, tdx g l)) (hj : xs[j]? = some (Kr, tq r row p)) :
    Calls Tryz.prog 118 #[.pointer (some ⟨g, 0, none⟩), .pointer (some ⟨r, 0, none⟩)] w fun e w' => e = .returned (.tuple #[.int .i64 (nxS l row p), .int .i64 (nxE l row p)]) ∧ Herd W w' (xs.set j (Kr, tq r row (nxP l row p))) := by
  have hD : Dx w K g l := H.rep i _ hi
  have hR : Rq w Kr r row p := H.rep j _ hj
  have HD := hide hD.ok
  have HL := hide (dcE_zero hD.ok).1
  have hle : p ≤ row.length ∧ row.length ≤ 268435456 := by obtain ⟨_, _, _, h1, h2, _⟩ := hR; exact ⟨h1, h2⟩
  have HBI : Hid (Bit row) := by obtain ⟨_, _, h1, _⟩ := hR; exact h1
  have HI := hide hi
  have HJ := hide hj
  have h288 := HL.out.1
  have HSET : Hid (xs.set j (Kr, tq r row p) = xs) := by
    show _ = _
    apply List.ext_getElem?
    intro n
    rw [List.getElem?_set]
    by_cases c : j = n
    · subst c
      rw [if_pos rfl, hj, if_pos (List.getElem?_eq_some_iff.1 hj).1]
    · rw [if_neg c]
  have HH := hide H
  have hsh : shp l = 1 ∨ shp l = 4 := ((dcE_iff l).1 HD.out).2
  clear hD hR H hi hj
  obtain ⟨V, HV⟩ : ∃ V, Hid (V = ahead row p 15) := ⟨_, rfl⟩
  have HRV : Hid (rowN V = rowAt row p) := by show _ = _; rw [HV.out]; rfl
  obtain ⟨S, HSP⟩ : ∃ S, Hid (S = shp l) := ⟨_, rfl⟩
  rw [← HSP.out] at hsh
  go_enter Tryz.func118, Tryz.ntmps118
  go_wp2
  go_loopw [6, 7] (fun t i wr => ∃ k : Nat, k ≤ 15 ∧ i = .int .i64 ((k : Int) + 1) ∧ t = .int .i64 (mir V k) ∧ p + k ≤ row.length ∧ (S = 1 → k = 0) ∧ Hid (Herd W wr xs) ∧ Hid (∀ s, Hit l (rowAt row p) s → k < ln l s)) (fun _ i _ => 16 - (intOf i).toNat)
  case atStart => exact ⟨0, Nat.zero_le _, rfl, rfl, by omega, fun _ => rfl, HH, fun s hs => hs.1.2⟩
  case round =>
    clear HH
    obtain ⟨k, hk, rfl, rfl, hpk, hS1, HT, HINV⟩ := hrel
    by_cases hlt : k < 15
    · have hlt' : (k : Int) + 1 ≤ 15 := by omega
      have hks : (k : Int) + 1 = ((k + 1 : Nat) : Int) := by omega
      have hpv : peekV row p ((k : Int) + 1) = ahead row p (k + 1) ∧ peekK row p ((k : Int) + 1) = min ((k : Int) + 1) ((row.length : Int) - p) := by
        have hc : Cnt ((k : Int) + 1) := ⟨by omega, by omega⟩
        refine ⟨?_, if_pos hc⟩
        unfold peekV
        rw [if_pos hc, hks]; rfl
      have HPV := hide hpv
      clear hks hpv
      go_wp2_with fail
      refine (hqpeek HT.out j HJ.out ((k : Int) + 1)).mono ?_
      rintro e w1 ⟨rfl, h1⟩
      have H1 := hide h1
      rw [HPV.out.1, HPV.out.2]
      clear h1
      by_cases hfit : p + (k + 1) ≤ row.length
      case neg =>
        have hmin : min ((k : Int) + 1) ((row.length : Int) - p) = (row.length : Int) - p := by omega
        have hlt2 : (row.length : Int) - p < (k : Int) + 1 := by omega
        rw [hmin]
        have HN := hide (nx_end HD.out hle.1 (by omega) HINV.out (by rw [← HSP.out]; exact hS1))
        obtain ⟨z, HZ⟩ : ∃ z, Hid (z = ahead row p (k + 1)) := ⟨_, rfl⟩
        rw [← HZ.out]
        clear hmin
        go_wp2
        go_ret2
        rw [HN.out.1, HN.out.2.1, HN.out.2.2, HSET.out]
        exact ⟨rfl, H1.out⟩
      have hmin : min ((k : Int) + 1) ((row.length : Int) - p) = (k : Int) + 1 := by omega
      rw [hmin]
      obtain ⟨t1, t2, t3⟩ := tk_step HBI.out (p := p) hlt
      have hmb := mir_bound V k
      have hmb1 := mir_bound V (k + 1)
      have hp15 : (2 : Int) ^ k ≤ 2 ^ 15 := pow_le (by omega)
      have hp16 : (2 : Int) ^ (k + 1) ≤ 2 ^ 15 := pow_le (by omega)
      rw [← HV.out] at t1
      obtain ⟨y, hy⟩ : ∃ y : Nat, mir V (k + 1) = (y : Int) := ⟨(mir V (k + 1)).toNat, by omega⟩
      have HY := hide hy
      obtain ⟨z, HZ⟩ : ∃ z, Hid (z = ahead row p (k + 1)) := ⟨_, rfl⟩
      obtain ⟨t, HTK⟩ : ∃ t, Hid (t = mir V k) := ⟨_, rfl⟩
      rw [← HZ.out] at t1 t2 t3 ⊢
      rw [← HTK.out] at t1 hmb ⊢
      rw [hy] at t1 hmb1
      obtain ⟨q, hq⟩ : ∃ q, q = z / 2 ^ k := ⟨_, rfl⟩
      have hq0 : 0 ≤ q := by rw [hq]; exact Int.ediv_nonneg t2 (Int.le_of_lt (pow_pos k))
      rw [← hq] at t1
      have hqe : z / 2 ^ k = q := hq.symm
      have hq1 : q ≤ 1 := by
        have : z / 2 ^ k < 2 := by rw [Int.ediv_lt_iff_lt_mul (pow_pos k)]; rw [pow_add1] at t3; omega
        omega
      have hsum : 2 * t + q = (y : Int) := by omega
      have hwq : IntKind.i64.wrap q = q := by rw [IntKind.wrap_i64]; omega
      have hyb : (y : Int) < 32768 := by omega
      have hz32 : z < 4294967296 := by omega
      have ek : (k : Int) + 1 - 1 = k := by omega
      have hDx : Dx w1 K g l := H1.out.rep i _ HI.out
      obtain ⟨vl, vw, a1, a2, a3, _⟩ := hDx.d
      rw [← HSP.out] at a1
      have c0 : w1.cell? ⟨g, 0, none⟩ = some vl := by rw [cell_of_row _ _ _ _ _ _ a1]; rfl
      have c1 : w1.cell? ⟨g, 1, none⟩ = some vw := by rw [cell_of_row _ _ _ _ _ _ a1]; rfl
      have c2 : w1.cell? ⟨g, 2, none⟩ = some (.int .i64 S) := by rw [cell_of_row _ _ _ _ _ _ a1]; rfl
      have HOL := hide a2
      have HOW := hide a3
      obtain ⟨al, cl, hvl⟩ := a2.shape
      obtain ⟨aw, cw, hvw⟩ := a3.shape
      rw [wds_len] at hvw
      subst hvl hvw
      have hcl : l.length ≤ cl ∧ cl ≤ 9223372036854775807 := by
        obtain ⟨_, _, e1, e2, e3⟩ := a2.sb.open
        simp only [Value.slice.injEq] at e1
        obtain ⟨-, -, rfl⟩ := e1
        exact ⟨e2, e3⟩
      have hcw : l.length ≤ cw ∧ cw ≤ 9223372036854775807 := by
        obtain ⟨_, _, e1, e2, e3⟩ := a3.sb.open
        simp only [Value.slice.injEq] at e1
        obtain ⟨-, e4, rfl⟩ := e1
        rw [← e4] at e2
        exact ⟨e2, e3⟩
      obtain ⟨hcl1, hcl2⟩ := hcl
      obtain ⟨hcw1, hcw2⟩ := hcw
      have HAT : Hid (∀ s, At l (k + 1) y s ↔ Hit l (rowAt row p) s ∧ ln l s = k + 1) := fun s => by
        rw [← HRV.out]
        exact at_hit V (by omega) (by omega) HY.out
      clear a1 a2 a3 hDx t1 hmb hmb1 hp15 hp16 hmin hq HT HPV t3 hy
      go_wp2
      go_loopw [10] (fun i wr2 => ∃ s : Nat, s ≤ l.length ∧ i = .int .i64 s ∧ wr2 = w1 ∧ Hid (∀ t, t < s → ¬ At l (k + 1) y t)) (fun i _ => l.length - (intOf i).toNat)
      case atStart => exact ⟨0, Nat.zero_le _, rfl, rfl, fun t ht => by omega⟩
      case round =>
        obtain ⟨s, hs, rfl, rfl, HNA⟩ := hrel
        by_cases hsl : s < l.length
        · have hsl' : (s : Int) < (l.length : Int) := by omega
          obtain ⟨bl, _, hal, _⟩ := HOL.out.form (by omega)
          simp only [Value.slice.injEq] at hal
          obtain ⟨rfl, -, rfl⟩ := hal
          obtain ⟨bw, _, haw, _⟩ := HOW.out.form (by rw [wds_len]; omega)
          simp only [Value.slice.injEq] at haw
          obtain ⟨rfl, -, rfl⟩ := haw
          have d1 := HOL.out.get (b := bl) rfl hsl
          have d2 := HOW.out.get (b := bw) rfl (i := s) (by rw [wds_len]; exact hsl)
          rw [(HL.out.ln s).1] at d1
          rw [wds_get hsl] at d2
          obtain ⟨A, HA⟩ : ∃ A, Hid (ln l s = A) := ⟨_, rfl⟩
          obtain ⟨X, HX⟩ : ∃ X, Hid (wd l s = X) := ⟨_, rfl⟩
          rw [HA.out] at d1
          rw [HX.out] at d2
          by_cases hA : A = k + 1
          · have hA' : ((A : Int) == (k : Int) + 1) = true := by simp; omega
            have hAe : (A : Int) = (k : Int) + 1 := by omega
            rw [hAe] at d1
            by_cases hX : X = y
            · subst hX
              have hat : At l (k + 1) X s := ⟨hsl, by rw [HA.out]; exact hA, HX.out⟩
              have hhit := ((HAT.out s).1 hat).1
              have HNF := hide (nx_found HL.out hhit (by rw [HA.out, hA]; exact hfit))
              have hsk : skipE row p ((k : Int) + 1) = 0 ∧ skipP row p ((k : Int) + 1) = p + (k + 1) := ⟨by unfold skipE; rw [if_neg (by omega), if_pos (by omega)], by unfold skipP; rw [if_neg (by omega), if_pos (by omega)]; omega⟩
              have HSK := hide hsk
              clear hat hhit hsk HNA hA'
              go_wp2_with fail
              refine (hqskip H1.out j HJ.out ((k : Int) + 1)).mono ?_
              rintro e w5 ⟨rfl, h5⟩
              rw [HSK.out.2] at h5
              rw [HSK.out.1]
              have H5 := hide h5
              clear h5
              go_wp2
              go_ret2
              rw [HNF.out.1, HNF.out.2.1, HNF.out.2.2, HA.out, hA]
              exact ⟨rfl, H5.out⟩
            · have hX' : ((X : Int) == (y : Int)) = false := by simp; omega
              have hXn : ¬ (X : Int) = (y : Int) := by omega
              have HN : Hid (∀ t, t < s + 1 → ¬ At l (k + 1) y t) := fun t ht hat => by
                by_cases e : t = s
                · subst e; exact hX (by rw [← HX.out]; exact hat.2.2)
                · exact HNA.out t (by omega) hat
              clear HNA hA'
              go_wp2
              go_roundw
              case rel => exact ⟨s + 1, by omega, by go_num, by trivial, HN⟩
              case measure => simp [intOf]; omega
          · have hA' : ((A : Int) == (k : Int) + 1) = false := by simp; omega
            have hAn : ¬ (A : Int) = (k : Int) + 1 := by omega
            have HN : Hid (∀ t, t < s + 1 → ¬ At l (k + 1) y t) := fun t ht hat => by
              by_cases e : t = s
              · subst e; exact hA (by rw [← HA.out]; exact hat.2.1)
              · exact HNA.out t (by omega) hat
            clear HNA
            go_wp2
            go_roundw
            case rel => exact ⟨s + 1, by omega, by go_num, by trivial, HN⟩
            case measure => simp [intOf]; omega
        · obtain rfl : s = l.length := by omega
          have hsl' : ¬ (l.length : Int) < (l.length : Int) := by omega
          have HNV : Hid (∀ s, Hit l (rowAt row p) s → k + 1 < ln l s) := fun s hh => by
            have h1 := HINV.out s hh
            have h2 : ¬ ln l s = k + 1 := fun e => HNA.out s hh.1.1 ((HAT.out s).2 ⟨hh, e⟩)
            omega
          rcases hsh with hsh | hsh
          · subst hsh
            have hno : ¬ ∃ s, Hit l (rowAt row p) s := fun ⟨s, hs⟩ => by
              have h1 := HNV.out s hs
              have h2 := (us_one HL.out HSP.out.symm).2 s hs.1
              omega
            have HN := hide (nx_none hno)
            clear hno HNA
            go_wp2
            go_ret2
            rw [HN.out.1, HN.out.2.1, HN.out.2.2, HSET.out]
            exact ⟨rfl, H1.out⟩
          · subst hsh
            clear HNA
            go_wp2
            go_roundw
            case rel => exact ⟨k + 1, by omega, by go_num, by rw [HY.out], by omega, fun h => by omega, H1, HNV⟩
            case measure => simp [intOf]; omega
    · obtain rfl : k = 15 := by omega
      have hlt' : ¬ ((15 : Nat) : Int) + 1 ≤ 15 := by omega
      have hno : ¬ ∃ s, Hit l (rowAt row p) s := fun ⟨s, hs⟩ => by have h1 := HINV.out s hs; have h2 := (HL.out.ln s).2; omega
      have HN := hide (nx_none hno)
      clear hno
      go_wp2
      go_ret2
      rw [HN.out.1, HN.out.2.1, HN.out.2.2, HSET.out]
      exact ⟨rfl, HT.out⟩
end Go.Proofs.YtmjdpfigkojolaaGreatDoor

namespace Go.Proofs.YtmjdpfigkojolaaGreatDoor
open Go.RowKit Go.Maps
set_option maxRecDepth 20000

theorem hxdecode {W w : World} {xs : List ((Nat → Nat) × Thing)} (H : Herd W w xs) (v : Value) (l : List Int) (h : SI w v l) :
    Calls Tryz.prog 96 #[v] w fun e w' => (dcE l ≠ 0 ∧ e = .returned (.tuple #[.pointer none, .int .i64 (dcE l)]) ∧ Herd W w' xs) ∨ (dcE l = 0 ∧ ∃ g K, e = .returned (.tuple #[.pointer (some ⟨g, 0, none⟩), .int .i64 0]) ∧ Herd W w' (xs ++ [(K, tdx g l)])) := by
  refine (xnewDecoder_any v l w h).mono ?_
  rintro e w1 ⟨hb, h | ⟨h0, g, K, rfl, hd, hk⟩⟩
  · exact .inl ⟨h.1, h.2, H.below hb⟩
  · exact .inr ⟨h0, g, K, rfl, H.push hb hd hk⟩

end Go.Proofs.YtmjdpfigkojolaaGreatDoor

