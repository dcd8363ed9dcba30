import Derived.Test.YtagikpkkbopcbaaDoorG06Shp
import Derived.Laws.IdiomStrings
namespace Go.Proofs.YtagikpkkbopcbaaDoor
open Go.RowKit Go.Maps
set_option maxRecDepth 20000
set_option linter.unusedVariables false
set_option linter.unusedSimpArgs false

def low (c : Int) : Int := if (c / 32) % 2 = 1 then c else c + 32

theorem low_is : ∀ c : Fin 256, bits .or .u8 ((c.val : Nat) : Int) 32 = low ((c.val : Nat) : Int) := by decide +kernel

theorem lower_any (c : Int) (w : World) (h0 : 0 ≤ c) (h1 : c < 256) : Calls Tryd.prog 18 #[.int .u8 c] w fun e w' => e = .returned (.int .u8 (low c)) ∧ w' = w := by
  obtain ⟨n, rfl⟩ : ∃ n : Nat, c = n := ⟨c.toNat, by omega⟩
  have HL := hide (low_is ⟨n, by omega⟩)
  go_enter Tryd.func18, Tryd.ntmps18
  go_wp2
  go_ret
  refine ⟨?_, rfl⟩
  rw [← show bits .or .u8 ((n : Nat) : Int) 32 = low ((n : Nat) : Int) from HL.out]
  rfl

theorem hx_kinds : ∀ c : Fin 256, ((48 ≤ c.val ∧ c.val ≤ 57 ∧ hx ((c.val : Nat) : Int) = (c.val : Int) - 48) ∨ ((c.val < 48 ∨ 57 < c.val) ∧ 97 ≤ low ((c.val : Nat) : Int) ∧ low ((c.val : Nat) : Int) ≤ 102 ∧ hx ((c.val : Nat) : Int) = low ((c.val : Nat) : Int) - 87) ∨ ((c.val < 48 ∨ 57 < c.val) ∧ hx ((c.val : Nat) : Int) = -1 ∧ (low ((c.val : Nat) : Int) < 97 ∨ 122 < low ((c.val : Nat) : Int) ∨ (103 ≤ low ((c.val : Nat) : Int) ∧ low ((c.val : Nat) : Int) ≤ 122)))) ∧ 0 ≤ low ((c.val : Nat) : Int) ∧ low ((c.val : Nat) : Int) < 256 := by decide +kernel

theorem hx_cases (c : Int) (h0 : 0 ≤ c) (h1 : c < 256) : ((48 ≤ c ∧ c ≤ 57 ∧ hx c = c - 48) ∨ ((c < 48 ∨ 57 < c) ∧ 97 ≤ low c ∧ low c ≤ 102 ∧ hx c = low c - 87) ∨ ((c < 48 ∨ 57 < c) ∧ hx c = -1 ∧ (low c < 97 ∨ 122 < low c ∨ (103 ≤ low c ∧ low c ≤ 122)))) ∧ 0 ≤ low c ∧ low c < 256 := by
  obtain ⟨n, rfl⟩ : ∃ n : Nat, c = n := ⟨c.toNat, by omega⟩
  have h := hx_kinds ⟨n, by omega⟩
  simp only at h
  omega

theorem conv20 (s : ByteArray) (w : World) : ∃ c w1, (convert 9 30 (.string s)).run Tryd.prog w = .ok (.slice (some ⟨w.heap.size, 0, none⟩) s.size c) w1 ∧ Below w.heap.size w w1 ∧ ∀ j, j < s.size → w1.cell? ⟨w.heap.size, j, none⟩ = some (.int .u8 (bI s j)) := by
  refine ⟨_, _, run_bytes_of_string (P := Tryd.prog) w 9 30 5 s Tryd.underlying9 Tryd.underlying30 Tryd.underlying5, (Below.drew (Below.refl _ w)).alloc (Nat.le_refl _) _, fun j hj => ?_⟩
  have e := heap_alloc_new w.drew (.cells (bytesRow s (grownCap w s.size 0 5)) 5 ((bytesRow s (grownCap w s.size 0 5)).size, (bytesRow s (grownCap w s.size 0 5)).size + 1))
  unfold World.cell?
  rw [show w.drew.heap.size = w.heap.size from rfl] at e
  simp only [e]
  have q := bytesRow_at s (grownCap w s.size 0 5) j hj
  rw [bI_at s j hj, show (s[j]'hj) = s.data[j]'hj from rfl]
  simpa using q

set_option maxHeartbeats 8000000 in
theorem ipu_any (s : ByteArray) (w : World) (hs : s.size = 2) : Calls Tryd.prog 16 #[.string s, .int .i64 16, .int .i64 8] w fun e w' => ((0 ≤ hx (bI s 0) ∧ 0 ≤ hx (bI s 1) ∧ e = .returned (.tuple #[.int .u64 (16 * hx (bI s 0) + hx (bI s 1)), .nilIface])) ∨ (¬ (0 ≤ hx (bI s 0) ∧ 0 ≤ hx (bI s 1)) ∧ e = .returned (.tuple #[.int .u64 0, .iface 41 (.int .i64 2)]))) ∧ Below w.heap.size w w' := by
  have hne : s.toList.isEmpty = false := by
    have : s.toList.length = 2 := by rw [← hs, Lib.toList_data]; exact (Lib.size_eq s).symm
    cases h : s.toList with
    | nil => rw [h] at this; cases this
    | cons => rfl
  obtain ⟨cp, w1, hcv, hb1, hcl⟩ := conv20 s w
  rw [hs] at hcv hcl
  have HB1 := hide hb1
  have HCL := hide hcl
  obtain ⟨a0, a1⟩ := bI_in s 0
  obtain ⟨b0, b1⟩ := bI_in s 1
  obtain ⟨A, HA⟩ : ∃ A, Hid (bI s 0 = A) := ⟨_, rfl⟩
  obtain ⟨B, HB⟩ : ∃ B, Hid (bI s 1 = B) := ⟨_, rfl⟩
  rw [HA.out] at a0 a1 ⊢
  rw [HB.out] at b0 b1 ⊢
  obtain ⟨XA, HXA⟩ : ∃ X, Hid (hx A = X) := ⟨_, rfl⟩
  obtain ⟨XB, HXB⟩ : ∃ X, Hid (hx B = X) := ⟨_, rfl⟩
  rw [HXA.out, HXB.out]
  clear hb1 hcl
  go_enter Tryd.func16, Tryd.ntmps16
  go_wp2
  clear hcv
  go_loopw [12, 13, 101] (fun u n i wr => ∃ (N : Int) (k : Nat), u = .bool false ∧ n = .int .u64 N ∧ i = .int .i64 (k : Int) ∧ k ≤ 2 ∧ 0 ≤ N ∧ N ≤ 255 ∧ Hid ((k = 0 ∧ N = 0) ∨ (k = 1 ∧ N = XA ∧ 0 ≤ XA) ∨ (k = 2 ∧ N = 16 * XA + XB ∧ 0 ≤ XA ∧ 0 ≤ XB)) ∧ wr = w1) (fun _ _ i _ => 2 - (intOf i).toNat)
  case atStart => exact ⟨0, 0, rfl, rfl, rfl, by omega, by omega, by omega, .inl ⟨rfl, rfl⟩, rfl⟩
  case round =>
    obtain ⟨N, k, rfl, rfl, rfl, hk, hN0, hN1, HN, hwr⟩ := hrel
    have HW := hide hwr
    subst hwr
    by_cases c : k < 2
    · have hc := HCL.out k c
      obtain ⟨b, X, HBX⟩ : ∃ b X, Hid (bI s k = b ∧ hx b = X) := ⟨_, _, rfl, rfl⟩
      rw [HBX.out.1] at hc
      have hN15 : N ≤ 15 := by
        have h1 := (hx_le A).2
        rw [HXA.out] at h1
        have := HN.out
        omega
      have hbi := bI_in s k
      rw [HBX.out.1] at hbi
      obtain ⟨hb0, hb1⟩ := hbi
      have HLW := hide (fun (wx : World) => lower_any b wx hb0 hb1)
      obtain ⟨hcs, hl0, hl1⟩ := hx_cases b hb0 hb1
      rw [HBX.out.2] at hcs
      obtain ⟨L, HL⟩ : ∃ L, Hid (low b = L) := ⟨_, rfl⟩
      rw [HL.out] at HLW hcs hl0 hl1
      have HGO : Hid (0 ≤ X → ((k + 1 = 1 ∧ 16 * N + X = XA ∧ 0 ≤ XA) ∨ (k + 1 = 2 ∧ 16 * N + X = 16 * XA + XB ∧ 0 ≤ XA ∧ 0 ≤ XB))) := fun hX => by
        have h := HN.out
        have e1 := HBX.out
        rcases h with ⟨rfl, rfl⟩ | ⟨rfl, rfl, h2⟩ | ⟨rfl, _⟩
        · rw [HA.out] at e1
          have e2 : X = XA := by rw [← e1.2, ← e1.1, HXA.out]
          omega
        · rw [HB.out] at e1
          have e2 : X = XB := by rw [← e1.2, ← e1.1, HXB.out]
          omega
        · omega
      have HNO : Hid (X < 0 → ¬ (0 ≤ XA ∧ 0 ≤ XB)) := fun hX q => by
        have h := HN.out
        have e1 := HBX.out
        rcases h with ⟨rfl, rfl⟩ | ⟨rfl, rfl, h2⟩ | ⟨rfl, _⟩
        · rw [HA.out] at e1
          have e2 : X = XA := by rw [← e1.2, ← e1.1, HXA.out]
          omega
        · rw [HB.out] at e1
          have e2 : X = XB := by rw [← e1.2, ← e1.1, HXB.out]
          omega
        · omega
      by_cases h95 : b = 95
      · have hL : L = 127 := by rw [← HL.out, h95]; rfl
        subst hL
        have HNN := hide (HNO.out (by omega))
        clear HNO HGO HN HBX HL HA HB HXA HXB HCL hcs
        subst h95
        go_wp2_with (go_at_call 18; refine (HLW.out _).mono ?_; rintro e w9 ⟨rfl, hw9⟩; rw [hw9]; clear hw9)
        go_ret2
        exact ⟨.inr ⟨by have := HNN.out; first | exact this | (intro a; omega), rfl⟩, HB1.out⟩
      have h95' : (b == 95) = false := by simpa using h95
      clear HN HBX HL HA HB HXA HXB HCL
      rcases hcs with ⟨c1, c2, c3⟩ | ⟨c1, c2, c3, c4⟩ | ⟨c1, c2, c3⟩
      · subst c3
        go_wp2
        refine ⟨⟨N * 16 + (b - 48), k + 1, rfl, rfl, by go_num, by omega, by omega, by omega, ?_, trivial⟩, by simp [intOf]; omega⟩
        show _ ∨ _
        rw [show N * 16 + (b - 48) = 16 * N + (b - 48) by omega]
        exact .inr (HGO.out (by omega))
      · subst c4
        rcases c1 with c1 | c1
        · have c1' : ¬ 48 ≤ b := by omega
          go_wp2_with (go_at_call 18; refine (HLW.out _).mono ?_; rintro e w9 ⟨rfl, hw9⟩; rw [hw9]; clear hw9)
          refine ⟨⟨N * 16 + (L - 97 + 10), k + 1, rfl, rfl, by go_num, by omega, by omega, by omega, ?_, trivial⟩, by simp [intOf]; omega⟩
          show _ ∨ _
          rw [show N * 16 + (L - 97 + 10) = 16 * N + (L - 87) by omega]
          exact .inr (HGO.out (by omega))
        · have c1' : ¬ b ≤ 57 := by omega
          go_wp2_with (go_at_call 18; refine (HLW.out _).mono ?_; rintro e w9 ⟨rfl, hw9⟩; rw [hw9]; clear hw9)
          refine ⟨⟨N * 16 + (L - 97 + 10), k + 1, rfl, rfl, by go_num, by omega, by omega, by omega, ?_, trivial⟩, by simp [intOf]; omega⟩
          show _ ∨ _
          rw [show N * 16 + (L - 97 + 10) = 16 * N + (L - 87) by omega]
          exact .inr (HGO.out (by omega))
      · have HNN := hide (HNO.out (by omega))
        clear HNO HGO
        rcases c1 with c1 | c1 <;> rcases c3 with c3 | c3 | ⟨c3, c4⟩
        all_goals
          go_wp2_with (go_at_call 18; refine (HLW.out _).mono ?_; rintro e w9 ⟨rfl, hw9⟩; rw [hw9]; clear hw9)
          go_ret2
          exact ⟨.inr ⟨by have := HNN.out; first | exact this | (intro a; omega), rfl⟩, HB1.out⟩
    · obtain rfl : k = 2 := by omega
      have hn := HN.out
      obtain ⟨e1, e2, e3⟩ : N = 16 * XA + XB ∧ 0 ≤ XA ∧ 0 ≤ XB := by omega
      have HF := hide (show N = 16 * XA + XB ∧ 0 ≤ XA ∧ 0 ≤ XB from ⟨e1, e2, e3⟩)
      clear hn HN e1 e2 e3
      go_wp2
      go_ret2
      refine ⟨.inl ⟨HF.out.2.1, HF.out.2.2, ?_⟩, HB1.out⟩
      rw [← HF.out.1]
      rfl
end Go.Proofs.YtagikpkkbopcbaaDoor

