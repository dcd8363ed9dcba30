import Derived.Test.YthlbmpmbbdaboaaNxt
import Derived.Test.YthlbmpmbbdaboaaEnc
namespace Go.Proofs.Ythlbmpmbbdaboaa
open Go.RowKit Go.Maps
set_option maxRecDepth 20000

theorem eput_nil (x : Value) (s : Int) (w : World) : Calls Try.prog 28 #[.pointer none, x, .int .i64 s] w fun e w' => e = .returned (.int .i64 1) ∧ w' = w := by
  go_enter Try.func28, Try.ntmps28
  go_wp2
  go_ret
  exact ⟨rfl, rfl⟩

theorem eput_nw (a : Addr) (s : Int) (w : World) : Calls Try.prog 28 #[.pointer (some a), .pointer none, .int .i64 s] w fun e w' => e = .returned (.int .i64 1) ∧ w' = w := by
  go_enter Try.func28, Try.ntmps28
  go_wp2
  go_ret
  exact ⟨rfl, rfl⟩

theorem elen_nil (s : Int) (w : World) : Calls Try.prog 32 #[.pointer none, .int .i64 s] w fun e w' => e = .returned (.int .i64 0) ∧ w' = w := by
  go_enter Try.func32, Try.ntmps32
  go_wp2
  go_ret
  exact ⟨rfl, rfl⟩

theorem next_nil (x : Value) (w : World) : Calls Try.prog 30 #[.pointer none, x] w fun e w' => e = .returned (.tuple #[.int .i64 0, .int .i64 1]) ∧ w' = w := by
  go_enter Try.func30, Try.ntmps30
  go_wp2
  go_ret2
  exact ⟨rfl, rfl⟩

theorem next_nr (a : Addr) (w : World) : Calls Try.prog 30 #[.pointer (some a), .pointer none] w fun e w' => e = .returned (.tuple #[.int .i64 0, .int .i64 1]) ∧ w' = w := by
  go_enter Try.func30, Try.ntmps30
  go_wp2
  go_ret2
  exact ⟨rfl, rfl⟩

theorem dc11 : dcE [1, 1] = 0 := by decide +kernel
theorem bk11 : bkE [1, 1] = 0 := by decide +kernel

theorem built_si (w : World) (cs : List Int) (h : cs.length ≤ 1000) : SI (w.alloc (.cells (cs.map (Value.int .i64)).toArray 3)) (.slice (some ⟨w.heap.size, 0, none⟩) cs.length cs.length) cs := by
  refine ⟨_, _, rfl, Nat.le_refl _, by unfold maxLen; omega, (fun h => by cases h), fun x hx i hi => ?_⟩
  cases hx
  rw [Addr.add_lit, cell_of_row _ _ _ _ _ _ (heap_alloc_new w _)]
  simp [hi]

theorem nil_walk (w : World) : Calls Try.prog 8 #[] w fun e w' => e = .returned (.bool true) ∧ Below w.heap.size w w' := by
  go_enter Try.func8, Try.ntmps8
  go_wp2_with fail
  refine (newWriter_any _).mono ?_
  rintro e w1 ⟨g1, K1, rfl, _, _, hb1⟩
  have HB1 := hide hb1
  clear hb1
  go_wp2_with fail
  refine (eput_nil _ 0 _).mono ?_
  rintro e w2 ⟨rfl, rfl⟩
  have HSB : Hid (SB w2 (.slice none 0 0) []) := ⟨none, 0, rfl, Nat.le_refl _, Nat.zero_le _, fun _ => rfl, fun x hx => by cases hx⟩
  go_wp2_with fail
  refine (newReader_any _ [] _ HSB.out byt_nil (by simp)).mono ?_
  rintro e w3 ⟨g3, K3, rfl, _, _, hb3⟩
  have HB3 := hide (HB1.out.trans (hb3.mono HB1.out.size))
  clear hb3
  go_wp2_with fail
  refine (next_nil _ _).mono ?_
  rintro e w4 ⟨rfl, rfl⟩
  go_wp2_with fail
  refine (num_any _ _).mono ?_
  rintro e w5 ⟨rfl, rfl⟩
  go_wp2_with fail
  refine (num_any _ _).mono ?_
  rintro e w6 ⟨rfl, rfl⟩
  go_wp2_with fail
  refine (elen_nil _ _).mono ?_
  rintro e w7 ⟨rfl, rfl⟩
  have HS7 : Hid (SI (w7.alloc (.cells #[.int .i64 1, .int .i64 1] 3)) (.slice (some ⟨w7.heap.size, 0, none⟩) 2 2) [1, 1]) := built_si w7 [1, 1] (by simp)
  have HB7 : Hid (Below w.heap.size w (w7.alloc (.cells #[.int .i64 1, .int .i64 1] 3))) := HB3.out.alloc HB3.out.size _
  go_wp2_with fail
  refine (newEncoder_any _ [1, 1] _ HS7.out).mono ?_
  rintro e w8 ⟨hb8, ⟨hne, _⟩ | ⟨_, g8, K8, rfl, _, _⟩⟩
  · exact absurd bk11 hne
  have HB8 := hide (HB7.out.trans (hb8.mono HB7.out.size))
  clear hb8
  have HS8 : Hid (SI (w8.alloc (.cells #[.int .i64 1, .int .i64 1] 3)) (.slice (some ⟨w8.heap.size, 0, none⟩) 2 2) [1, 1]) := built_si w8 [1, 1] (by simp)
  have HB8' : Hid (Below w.heap.size w (w8.alloc (.cells #[.int .i64 1, .int .i64 1] 3))) := HB8.out.alloc HB8.out.size _
  go_wp2_with fail
  refine (newDecoder_any _ [1, 1] _ HS8.out).mono ?_
  rintro e w9 ⟨hb9, ⟨hne, _⟩ | ⟨_, g9, K9, rfl, _, _⟩⟩
  · exact absurd dc11 hne
  have HB9 := hide (HB8'.out.trans (hb9.mono HB8'.out.size))
  clear hb9
  go_wp2_with fail
  refine (num_any _ _).mono ?_
  rintro e w10 ⟨rfl, rfl⟩
  go_wp2_with fail
  refine (num_any _ _).mono ?_
  rintro e w11 ⟨rfl, rfl⟩
  go_wp2_with fail
  refine (eput_nw _ _ _).mono ?_
  rintro e w12 ⟨rfl, rfl⟩
  go_wp2_with fail
  refine (eput_nw _ _ _).mono ?_
  rintro e w13 ⟨rfl, rfl⟩
  go_wp2_with fail
  refine (next_nr _ _).mono ?_
  rintro e w14 ⟨rfl, rfl⟩
  go_wp2_with fail
  refine (num_any _ _).mono ?_
  rintro e w15 ⟨rfl, rfl⟩
  go_wp2_with fail
  refine (num_any _ _).mono ?_
  rintro e w16 ⟨rfl, rfl⟩
  go_wp2_with fail
  refine (num_any _ _).mono ?_
  rintro e w17 ⟨rfl, rfl⟩
  go_wp2
  go_ret
  exact ⟨rfl, HB9.out⟩
end Go.Proofs.Ythlbmpmbbdaboaa
