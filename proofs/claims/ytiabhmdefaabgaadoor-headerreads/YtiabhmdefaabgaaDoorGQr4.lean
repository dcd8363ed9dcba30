import Derived.Test.YtiabhmdefaabgaaDoorGQr3
namespace Go.Proofs.YtiabhmdefaabgaaDoor
open Go.RowKit Go.Maps
set_option maxRecDepth 20000

/-- A reader of the document's just made. -/
def MadeQ (w : World) (row : List Int) (e : Ending) (w' : World) : Prop := ∃ g K, e = .returned (.pointer (some ⟨g, 0, none⟩)) ∧ Rq w' K g row 0 ∧ (∀ k, K k ≠ 0 → w.heap.size ≤ k) ∧ Below w.heap.size w w'

/-- The document's reader while it is filled. -/
def Fill (w : World) (g : Nat) (U : List Int) (n : Nat) (wr : World) : Prop := ∃ K1 v1, WV 82 [.int .i64 0] wr K1 g v1 (U.take n) ∧ (∀ k, K1 k ≠ 0 → w.heap.size ≤ k) ∧ Below w.heap.size w wr

set_option linter.unusedSimpArgs false in
set_option maxHeartbeats 4000000 in
theorem qnewReader_any (u : Value) (l : List Int) (w : World) (h : SB w u l) (hB : Byt l) (hl : l.length ≤ 33554432) :
    Calls Tryd.prog 26 #[u] w fun e w' => MadeQ w (unpack l) e w' := by
  obtain ⟨ao, cap, hu⟩ := h.len
  subst hu
  obtain ⟨hcap1, hcap2⟩ := h.cap
  have HS := hide h
  have HBy := hide hB
  obtain ⟨U, HU⟩ : ∃ U, Hid (U = unpack l) := ⟨_, rfl⟩
  have HUl : Hid (U.length = 8 * l.length) := by show _ = _; rw [HU.out, length_unpack]
  rw [← HU.out]
  clear h hB
  have HST : Hid (Fill w w.heap.size U 0 (w.alloc (.cells #[.slice none 0 0, .int .i64 0] 82))) := by
    refine ⟨fun k => if k = w.heap.size then 1 else 0, .slice none 0 0, ⟨heap_alloc_new w _, by simp, World.ownsRow_nil _ _ _ _, (fun k hk => by simp [Value.ownBlock] at hk), fun k hk => ?_⟩, fun k hk => ?_, (Below.refl _ _).alloc (Nat.le_refl _) _⟩
    · by_cases e : k = w.heap.size
      · rw [e, size_alloc']; omega
      · simp [e] at hk
    · by_cases e : k = w.heap.size
      · omega
      · simp [e] at hk
  obtain ⟨g, HG⟩ : ∃ g, Hid (g = w.heap.size) := ⟨_, rfl⟩
  go_enter Tryd.func26, Tryd.ntmps26
  go_wp2
  rw [← HG.out] at HST ⊢
  go_loopw [4] (fun i wr => ∃ k : Nat, k ≤ l.length ∧ i = .int .i64 k ∧ Hid (Fill w g U (8 * k) wr)) (fun i _ => l.length - (intOf i).toNat)
  case atStart => exact ⟨0, Nat.zero_le _, rfl, HST.out⟩
  case round =>
    clear HST
    obtain ⟨k, hk, rfl, HQ⟩ := hrel
    by_cases hlt : k < l.length
    · have hlt' : (k : Int) < (l.length : Int) := by omega
      go_wp2
      go_loopw [5] (fun i wr => ∃ j : Nat, j ≤ 8 ∧ i = .int .i64 j ∧ Hid (Fill w g U (8 * k + j) wr)) (fun i _ => 8 - (intOf i).toNat)
      case atStart => exact ⟨0, by omega, rfl, HQ.out⟩
      case round =>
        clear HQ
        obtain ⟨j, hj, rfl, HQ⟩ := hrel
        obtain ⟨K1, v1, hW, hN, hBe⟩ := HQ.out
        have HW := hide hW
        have HN := hide hN
        have HBE := hide hBe
        clear HQ hW hN hBe
        by_cases hj8 : j < 8
        · have hj8' : (j : Int) < 8 := by omega
          obtain ⟨x, hx⟩ : ∃ x, l[k]? = some x := ⟨l[k], by simp [hlt]⟩
          have hbit := unpack_get hx hj8
          rw [← HU.out] at hbit
          obtain ⟨b, o, hao, hc⟩ := HS.out.byte HBE.out hlt
          have hxd : l.getD k 0 = x := by rw [List.getD, hx]; rfl
          rw [hxd] at hc
          obtain ⟨hx0, hx1⟩ := HBy.out.get hx
          subst hao
          have HTO := hide (take_one hbit)
          obtain ⟨q, HQ⟩ : ∃ q, Hid (q = x / 2 ^ j % 2) := ⟨_, rfl⟩
          rw [← HQ.out] at HTO
          obtain ⟨D, HD⟩ : ∃ D, Hid (D = U.take (8 * k + j)) := ⟨_, rfl⟩
          have hDl : D.length ≤ 268435456 := by rw [HD.out, List.length_take, HUl.out]; omega
          rw [← HD.out] at HW HTO
          clear hbit hxd hx
          go_wp2_with fail
          refine (bit_any x j (by omega) hx0 (by omega) _).mono ?_
          rintro e wx ⟨rfl, hwx⟩
          subst hwx
          rw [← HQ.out]
          obtain ⟨a1, p1, hv⟩ := HW.out.o.shape
          subst hv
          have c0 : wx.cell? ⟨g, 0, none⟩ = some (.slice a1 D.length p1) := HW.out.cell 0
          have hfz := HW.out.free
          obtain ⟨k1, r1, r2, r3⟩ := HW.out.alloc1 q
          have HROW := hide r1
          have HSRC := hide r2
          have HG6 := hide r3
          have HLEN : Hid (D.length + ([q] : List Int).length ≤ 140737488355328) := by show _ ≤ _; simp; omega
          clear r1 r2 r3
          go_wp2_with (at_builtin; refine wpList_app rfl _ _ 52 rfl 0 _ _ D [q] rfl (HROW.out _ rfl) rfl (HSRC.out _ rfl) HLEN.out (Nat.zero_le _) ?_)
          intro v6 w6 ho6 hg6
          obtain ⟨t0, tf⟩ := HG6.out _ w6 _ rfl hg6
          have HNX : Hid (Fill w g U (8 * k + (j + 1)) (w6.setCell ⟨g, 0, none⟩ v6)) := by
            obtain ⟨K', n1, n2⟩ := HW.out.snoc rfl rfl rfl rfl ho6 hg6
            refine ⟨K', v6, ?_, n2.up HN.out HBE.out.size, HBE.out.trans (n2.below HN.out HBE.out.size)⟩
            rw [show 8 * k + (j + 1) = 8 * k + j + 1 by omega, HTO.out]
            exact n1
          obtain ⟨a6, p6, rfl⟩ := ho6.shape
          clear ho6 hg6 HROW HSRC HG6 k1
          go_wp2
          go_roundw
          case rel => exact ⟨j + 1, by omega, by go_num, by show Fill _ _ _ _ _; simpa using HNX.out⟩
          case measure => simp [intOf]; omega
        · obtain rfl : j = 8 := by omega
          go_wp2
          go_roundw
          case rel => exact ⟨k + 1, by omega, by go_num, K1, v1, by rw [show 8 * (k + 1) = 8 * k + 8 by omega]; exact HW.out, HN.out, HBE.out⟩
          case measure => simp [intOf]; omega
    · obtain rfl : k = l.length := by omega
      have hlt' : ¬ (l.length : Int) < (l.length : Int) := by omega
      obtain ⟨K1, v1, hW, hN, hBe⟩ := HQ.out
      rw [List.take_of_length_le (by rw [HUl.out]; exact Nat.le_refl _)] at hW
      have HFIN : Hid (MadeQ w U (.returned (.pointer (some ⟨g, 0, none⟩))) wr) := ⟨g, K1, rfl, ⟨v1, hW, by rw [HU.out]; exact bit_unpack _, Nat.zero_le _, by rw [HUl.out]; omega, by rw [HUl.out]; omega⟩, hN, hBe⟩
      clear hW hN hBe HQ
      go_wp2
      go_ret
      exact HFIN.out
end Go.Proofs.YtiabhmdefaabgaaDoor

