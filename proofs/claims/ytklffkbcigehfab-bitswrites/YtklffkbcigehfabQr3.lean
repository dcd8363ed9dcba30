import Derived.Test.YtklffkbcigehfabQr2
namespace Go.Proofs.Ytklffkbcigehfab
open Go.RowKit Go.Maps
set_option maxRecDepth 20000

theorem pad_self {row : List Int} (h : row.length % 8 = 0) : pad row = row := by
  unfold pad
  rw [show (row.length + 7) / 8 * 8 - row.length = 0 by omega]
  simp

/-- The bytes that come off, one by one. -/
theorem rraw_get {row : List Int} (hb : Bit row) {p n : Nat} (hl : p + 8 * n ≤ row.length) :
    (pack ((row.drop p).take (8 * n))).length = n ∧ Byt (pack ((row.drop p).take (8 * n))) ∧ ∀ k, k < n → ahead row (p + 8 * k) 8 = (pack ((row.drop p).take (8 * n))).getD k 0 := by
  have hX : Bit ((row.drop p).take (8 * n)) := (hb.drop p).take _
  have hXl : ((row.drop p).take (8 * n)).length = 8 * n := by rw [List.length_take, List.length_drop]; omega
  obtain ⟨hu, hB⟩ := unpack_pack hX
  rw [pad_self (by omega)] at hu
  have hlen : (pack ((row.drop p).take (8 * n))).length = n := by rw [length_pack hX, hXl]; omega
  refine ⟨hlen, hB, fun k hk => ?_⟩
  obtain ⟨L, HL⟩ : ∃ L, L = pack ((row.drop p).take (8 * n)) := ⟨_, rfl⟩
  rw [← HL] at hu hB hlen ⊢
  have e1 : (row.drop (p + 8 * k)).take 8 = ((unpack L).drop (8 * k)).take 8 := by
    rw [hu, List.drop_take, List.drop_drop, List.take_take, Nat.min_eq_left (by omega)]
  unfold ahead
  rw [e1, ← unpack_drop, List.drop_eq_getElem_cons (by omega), unpack_cons, List.take_append_of_le_length (by rw [length_bts]; exact Nat.le_refl _), List.take_of_length_le (by rw [length_bts]; exact Nat.le_refl _)]
  have hk2 : k < L.length := by omega
  have hg : L.getD k 0 = L[k] := by simp [List.getD, hk2]
  have hb2 := hB k
  rw [hg] at hb2 ⊢
  exact val_bts_in hb2.1 (by omega)

theorem peek_in8 {row : List Int} {p : Nat} : peekV row p 8 = ahead row p 8 := by
  have hc : Cnt 8 := ⟨by omega, by omega⟩
  unfold peekV; rw [if_pos hc]; rfl

set_option maxHeartbeats 2000000 in
theorem qraw_any {w : World} {K : Nat → Nat} {g : Nat} {row : List Int} {p : Nat} (h : Rq w K g row p) (n : Int) :
    Calls Try.prog 57 #[.pointer (some ⟨g, 0, none⟩), .int .i64 n] w fun e w' => ∃ a c, e = .returned (.tuple #[.slice a (rrawL row p n).length c, .int .i64 (rrawE row p n)]) ∧ OB w' w.heap.size (.slice a (rrawL row p n).length c) (rrawL row p n) ∧ Rq w' K g row (rrawP row p n) ∧ Fr K K w w' := by
  have H := hide h
  obtain ⟨v, h1, h2, h3, h4, h5⟩ := h
  have c0 : w.cell? ⟨g, 0, none⟩ = some v := h1.cell 0
  have c1 : w.cell? ⟨g, 1, none⟩ = some (.int .i64 p) := h1.cell 1
  obtain ⟨a, c, rfl⟩ := h1.o.shape
  have HBT := hide h2
  have hgl := h1.lt
  have HKG : Hid (K g ≠ 0) := by show _ ≠ _; rw [h1.kg]; omega
  have HNil : Hid (∀ q, OB (w.drewN q) w.heap.size (.slice none 0 0) []) := fun q => World.ownsRow_nil _ _ _ _
  clear h1 h2
  by_cases hn : n < 0
  · have he : rrawE row p n = 1 := if_pos hn
    have HE : Hid (rrawE row p n = 1 ∧ rrawL row p n = [] ∧ rrawP row p n = p) := ⟨he, if_neg (by rw [he]; omega), if_neg (by rw [he]; omega)⟩
    clear he
    go_enter Try.func57, Try.ntmps57
    go_wp2
    go_ret2
    rw [HE.out.1, HE.out.2.1, HE.out.2.2]
    exact ⟨_, _, rfl, HNil.out 0, H.out, Fr.refl _ _⟩
  by_cases hp : p % 8 ≠ 0
  · have he : rrawE row p n = 31 := by unfold rrawE; rw [if_neg hn, if_pos hp]
    have HE : Hid (rrawE row p n = 31 ∧ rrawL row p n = [] ∧ rrawP row p n = p) := ⟨he, if_neg (by rw [he]; omega), if_neg (by rw [he]; omega)⟩
    have hp' : ((p : Int) % 8 != 0) = true := by simp; omega
    have hp2 : ((p : Int) % 8 == 0) = false := by simp; omega
    clear he
    go_enter Try.func57, Try.ntmps57
    go_wp2
    go_ret2
    rw [HE.out.1, HE.out.2.1, HE.out.2.2]
    exact ⟨_, _, rfl, HNil.out 0, H.out, Fr.refl _ _⟩
  have hp' : (p : Int) % 8 = 0 := by omega
  by_cases hl : n ≤ ((row.length : Int) - p) / 8
  case neg =>
    have he : rrawE row p n = 30 := by unfold rrawE; rw [if_neg hn, if_neg hp, if_neg hl]
    have HE : Hid (rrawE row p n = 30 ∧ rrawL row p n = [] ∧ rrawP row p n = p) := ⟨he, if_neg (by rw [he]; omega), if_neg (by rw [he]; omega)⟩
    have hl' : ((row.length : Int) - p) / 8 < n := by omega
    clear he hl
    go_enter Try.func57, Try.ntmps57
    go_wp2
    go_quiet (fail)
    go_wp2
    go_ret2
    rw [HE.out.1, HE.out.2.1, HE.out.2.2]
    exact ⟨_, _, rfl, HNil.out _, H.out.drewN _, (Fr.refl _ _).drewN _⟩
  case pos =>
    have he : rrawE row p n = 0 := by unfold rrawE; rw [if_neg hn, if_neg hp, if_pos hl]
    obtain ⟨m, rfl⟩ : ∃ m : Nat, n = m := ⟨n.toNat, by omega⟩
    have hpm : p + 8 * m ≤ row.length := by omega
    obtain ⟨g1, g2, g3⟩ := rraw_get HBT.out hpm
    obtain ⟨L, HL⟩ : ∃ L, Hid (L = pack ((row.drop p).take (8 * m))) := ⟨_, rfl⟩
    rw [← HL.out] at g1 g2 g3
    have HE : Hid (rrawE row p m = 0 ∧ rrawL row p m = L ∧ rrawP row p m = p + 8 * m) := ⟨he, by unfold rrawL; rw [if_pos he, HL.out]; rfl, by unfold rrawP; rw [if_pos he]; rfl⟩
    have HLB := hide g2
    have HLG := hide g3
    have HLL := hide g1
    have hl' : ¬ ((row.length : Int) - p) / 8 < m := by omega
    clear he hl g1 g2 g3
    go_enter Try.func57, Try.ntmps57
    go_wp2
    go_quiet (fail)
    rename_i nq _
    go_wp2
    clear c0 c1
    go_loopw [6, 7] (fun u i wr => ∃ k : Nat, k ≤ m ∧ i = .int .i64 k ∧ Hid (OB wr w.heap.size u (L.take k)) ∧ Hid (Rq wr K g row (p + 8 * k) ∧ Fr K K w wr)) (fun _ i _ => m - (intOf i).toNat)
    case atStart => exact ⟨0, Nat.zero_le _, rfl, HNil.out nq, H.out.drewN nq, (Fr.refl _ _).drewN nq⟩
    case round =>
      obtain ⟨k, hk, rfl, HO, HQ⟩ := hrel
      by_cases hlt : k < m
      · have hlt' : (k : Int) < (m : Int) := by omega
        have HPK := hide (peek_in8 (row := row) (p := p + 8 * k))
        have HG := hide (HLG.out k hlt)
        obtain ⟨q, HQq⟩ : ∃ q, Hid (q = L.getD k 0) := ⟨_, rfl⟩
        rw [← HQq.out] at HG
        have hq : 0 ≤ q ∧ q < 256 := by rw [HQq.out]; exact HLB.out k
        obtain ⟨hq0, hq1⟩ := hq
        have hqw : IntKind.u8.wrap q = q := by rw [IntKind.wrap_u8]; omega
        go_wp2_with fail
        refine (qpeek_any HQ.out.1 8).mono ?_
        rintro e w1 ⟨rfl, n1, rfl⟩
        rw [HPK.out, HG.out]
        have HO1 : Hid (OB (wr.drewN n1) w.heap.size u6 (L.take k)) := HO.out.move fun _ _ => rfl
        have HQ1 : Hid (Rq (wr.drewN n1) K g row (p + 8 * k) ∧ Fr K K w (wr.drewN n1)) := ⟨HQ.out.1.drewN n1, HQ.out.2.drewN n1⟩
        obtain ⟨W, HWW⟩ : ∃ W, Hid (W = wr.drewN n1) := ⟨_, rfl⟩
        rw [← HWW.out] at HO1 HQ1 ⊢
        obtain ⟨a1, p1, hu⟩ := HO1.out.shape
        have htl : (L.take k).length = k := by rw [List.length_take, HLL.out]; omega
        rw [htl] at hu
        subst hu
        have HTL := hide htl
        have hWs : w.heap.size ≤ W.heap.size := HQ1.out.2.size
        have HALC : Hid (OB (W.alloc (.cells #[.int .u8 q] 5)) w.heap.size (.slice a1 k p1) (L.take k)) := HO1.out.alloc _
        have HSR : Hid (Src Try.prog 1 25 (.slice (some ⟨W.heap.size, 0, none⟩) 1 1) ([q] : List Int).length (([q] : List Int).map (Value.int .u8)) (W.alloc (.cells #[.int .u8 q] 5))) := (built_sb W [q] (by unfold maxLen; simp)).src
        clear htl HO HQ
        go_wp2_with (at_builtin; refine wpList_app rfl _ _ 25 rfl w.heap.size _ _ (L.take k) [q] rfl HALC.out rfl HSR.out (by rw [HTL.out]; simp; omega) (by simp; omega) ?_)
        intro v3 w3 ho3 hgr3
        have HR3 : Hid (Rq w3 K g row (p + 8 * k) ∧ Fr K K w w3) := by
          have hsub : ∀ j, j < w.heap.size → w3.heap[j]? = W.heap[j]? := fun j hj => (hgr3.by.block j (by simp; omega) (fun e => by have := (HO1.out.lt j e.symm).1; omega)).trans (Below.heap_alloc W _ j (by omega))
          have hz : W.heap.size ≤ w3.heap.size := by have := hgr3.by.size; simp at this; omega
          have hsK : ∀ j, K j ≠ 0 → j < w.heap.size := H.out.sup
          have hF := HQ1.out.2
          exact ⟨HQ1.out.1.far hz fun j hj => hsub j (hsK j hj), hgr3.by.os.trans hF.os, hgr3.by.tape.trans hF.tape, hgr3.by.output.trans hF.output, Nat.le_trans hF.size hz, fun j hj h0 => (hsub j hj).trans (hF.block j hj h0), fun _ _ => rfl⟩
        have HO3 : Hid (OB w3 w.heap.size v3 (L.take (k + 1))) := by
          have hkL : k < L.length := by rw [HLL.out]; exact hlt
          rw [List.take_succ_eq_append_getElem hkL]
          rw [HQq.out] at ho3
          have e : L.getD k 0 = L[k] := by simp [hkL]
          rw [e] at ho3
          exact ho3
        obtain ⟨v', z1, -⟩ := HR3.out.1
        have z2 : w3.cell? ⟨g, 1, none⟩ = some (.int .i64 ((p : Int) + 8 * k)) := by
          have := z1.cell 1
          rw [this]
          show some (Value.int .i64 ((p + 8 * k : Nat) : Int)) = _
          congr 2
        have zf : w3.frozen? ⟨g, 1, none⟩ = false := z1.free 1
        have HM := hide (HR3.out.1.move (p + 8 * (k + 1)) ((p : Int) + 8 * k + 8) (by omega) (by omega))
        have HN : Hid (OB (w3.setCell ⟨g, 1, none⟩ (.int .i64 ((p : Int) + 8 * k + 8))) w.heap.size v3 (L.take (k + 1)) ∧ Rq (w3.setCell ⟨g, 1, none⟩ (.int .i64 ((p : Int) + 8 * k + 8))) K g row (p + 8 * (k + 1)) ∧ Fr K K w (w3.setCell ⟨g, 1, none⟩ (.int .i64 ((p : Int) + 8 * k + 8)))) :=
          ⟨HO3.out.move fun j hj => setCell_others _ g 1 _ j (fun e => by have := (HO3.out.lt j hj).1; omega), HM.out.1, HR3.out.2.trans HM.out.2⟩
        obtain ⟨a3, p3, rfl⟩ := ho3.shape
        clear ho3 hgr3 z1
        go_wp2
        go_roundw
        case rel => exact ⟨k + 1, by omega, by go_num, by show OB _ _ _ _; simpa using HN.out.1, HN.out.2⟩
        case measure => simp [intOf]; omega
      · obtain rfl : k = m := by omega
        have hlt' : ¬ (k : Int) < (k : Int) := by omega
        have HT : Hid (OB wr w.heap.size u6 L) := by have := HO.out; rwa [List.take_of_length_le (by rw [HLL.out]; exact Nat.le_refl _)] at this
        clear HO
        obtain ⟨a1, p1, rfl⟩ := HT.out.shape
        go_wp2
        go_ret2
        rw [HE.out.1, HE.out.2.1, HE.out.2.2]
        exact ⟨_, _, rfl, HT.out, HQ.out⟩
end Go.Proofs.Ytklffkbcigehfab
