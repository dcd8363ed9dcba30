import Derived.Test.YthjgabncifghaabBText
namespace Go.Proofs.Ythjgabncifghaab
open Go.RowKit Go.Maps
set_option maxRecDepth 20000

theorem greatest_any (n : Nat) (hn : n ≤ 4) (w : World) : Calls Try.prog 67 #[.int .i64 (n : Int)] w fun e w' => e = .returned (.int .i64 (256 ^ n - 1)) ∧ w' = w := by
  go_enter Try.func67, Try.ntmps67
  go_wp2
  go_loopw [3, 4] (fun x i wr => ∃ (k : Nat) (W : Int), k ≤ n ∧ i = .int .i64 k ∧ x = .int .i64 W ∧ wr = w ∧ 1 ≤ W ∧ W ≤ 4294967296 ∧ Hid (W = 256 ^ k)) (fun _ i _ => n - (intOf i).toNat)
  case atStart => exact ⟨0, 1, Nat.zero_le _, rfl, rfl, rfl, by omega, by omega, rfl⟩
  case round =>
    obtain ⟨k, W, hk, rfl, rfl, rfl, h1, h2, HW⟩ := hrel
    by_cases hlt : k < n
    · have h3 : W ≤ 16777216 := by
        rw [HW.out]
        obtain rfl | rfl | rfl | rfl : k = 0 ∨ k = 1 ∨ k = 2 ∨ k = 3 := by omega
        all_goals decide
      have HN : Hid (W * 256 = 256 ^ (k + 1)) := by show _ = _; rw [Int.pow_succ, ← HW.out]
      go_wp2
      go_roundw
      case rel => exact ⟨k + 1, W * 256, by omega, by go_num, rfl, by trivial, by omega, by omega, HN.out⟩
      case measure => simp [intOf]; omega
    · have e : k = n := by omega
      have HW2 : Hid (W = 256 ^ n) := by rw [← e]; exact HW.out
      go_wp2
      go_ret
      rw [← HW2.out]
      exact ⟨rfl, rfl⟩

theorem bytesOf_any (v : Int) (n : Nat) (hn : n ≤ 4) (hv : 0 ≤ v) (hv1 : v ≤ 9223372036854775807) (w : World) :
    Calls Try.prog 68 #[.int .i64 v, .int .i64 (n : Int)] w fun e w' => ∃ a c, e = .returned (.slice a (bytesLE v n).length c) ∧ OB w' w.heap.size (.slice a (bytesLE v n).length c) (bytesLE v n) ∧ Below w.heap.size w w' := by
  go_enter Try.func68, Try.ntmps68
  go_wp2
  go_loopw [0, 5, 6] (fun x y i wr => ∃ (k : Nat) (q : Int) (a : Option Addr) (c L : Nat), k ≤ n ∧ i = .int .i64 k ∧ x = .int .i64 q ∧ y = .slice a L c ∧ 0 ≤ q ∧ q ≤ 9223372036854775807 ∧ L ≤ 4 ∧ Hid (q = v / 256 ^ k) ∧ Hid (L = (bytesLE v k).length ∧ OB wr w.heap.size (.slice a L c) (bytesLE v k)) ∧ Hid (Below w.heap.size w wr)) (fun _ _ i _ => n - (intOf i).toNat)
  case atStart => exact ⟨0, v, none, 0, 0, Nat.zero_le _, rfl, rfl, rfl, hv, hv1, by omega, by show _ = _; simp, ⟨rfl, World.ownsRow_nil _ _ _ _⟩, Below.refl _ _⟩
  case round =>
    obtain ⟨k, q, a, c, L, hk, rfl, rfl, rfl, hq0, hq1, hL, HQ, HO, HB⟩ := hrel
    by_cases hlt : k < n
    · have hm0 : 0 ≤ q % 256 := by omega
      have hm1 : q % 256 ≤ 255 := by omega
      obtain ⟨b, HBt⟩ : ∃ b, Hid (b = q % 256) := ⟨_, rfl⟩
      have hwu : IntKind.u8.wrap (q % 256) = q % 256 := by rw [IntKind.wrap_u8]; omega
      have HLn : Hid ((bytesLE v k).length + [q % 256].length ≤ 140737488355328) := by show _ ≤ _; rw [length_bytesLE]; simp; omega
      have HBs : Hid (w.heap.size ≤ (wr.alloc (.cells #[.int .u8 (q % 256)] 5)).heap.size) := by show _ ≤ _; have := HB.out.size; rw [size_alloc']; omega
      go_wp2_with (at_builtin; refine wpList_app rfl _ _ 28 rfl w.heap.size _ _ (bytesLE v k) [q % 256] rfl (HO.out.2.alloc _) rfl (built_src wr [q % 256]) HLn.out HBs.out ?_)
      intro v' w1 ho hgr
      have HN : Hid (bytesLE v k ++ [q % 256] = bytesLE v (k + 1)) := by show _ = _; rw [bytesLE_snoc, HQ.out]
      have ho' : OB w1 w.heap.size v' (bytesLE v (k + 1)) := by rw [← HN.out]; exact ho
      have hb : Below w.heap.size w w1 := (HB.out.alloc HB.out.size _).grown hgr.by HBs.out (fun x hx => (HO.out.2.lt x hx).1)
      obtain ⟨av, cv, rfl⟩ := ho'.shape
      have hl' : (bytesLE v (k + 1)).length = k + 1 := length_bytesLE _ _
      have HO2 := hide ho'
      have HB2 := hide hb
      have HQ2 : Hid (q / 256 = v / 256 ^ (k + 1)) := by show _ = _; rw [HQ.out, Int.pow_succ, Int.ediv_ediv_of_nonneg (Int.pow_nonneg (by omega))]
      clear ho ho' hb hgr
      go_wp2
      go_roundw
      case rel => exact ⟨k + 1, q / 256, av, cv, (bytesLE v (k + 1)).length, by omega, by go_num, rfl, rfl, by omega, by omega, by omega, HQ2.out, ⟨rfl, HO2.out⟩, HB2.out⟩
      case measure => simp [intOf]; omega
    · have e : k = n := by omega
      have HO2 := HO.out
      rw [e] at HO2
      have HO3 := hide HO2
      clear HO2 HO
      go_wp2
      go_ret
      refine ⟨a, c, by rw [← HO3.out.1]; rfl, ?_, HB.out⟩
      rw [← HO3.out.1]
      exact HO3.out.2
end Go.Proofs.Ythjgabncifghaab
