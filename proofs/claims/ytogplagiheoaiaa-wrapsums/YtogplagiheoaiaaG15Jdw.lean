import Derived.Test.YtogplagiheoaiaaG14Adl
namespace Go.Proofs.Ytogplagiheoaiaa
open Go.RowKit Go.Maps
set_option maxRecDepth 20000
set_option linter.unusedVariables false

theorem joinedL_any (u v : Value) (x y : List Int) (w : World) (hx : SB w u x) (hy : SB w v y) (hr : x.length + y.length ≤ 140737488351232) :
    Calls Try.prog 5 #[u, v] w fun e w' => ∃ a c, e = .returned (.slice a (x ++ y).length c) ∧ OB w' w.heap.size (.slice a (x ++ y).length c) (x ++ y) ∧ Below w.heap.size w w' := by
  have HC := hide (copied_any u x w hx (by omega))
  have H := hide hy
  obtain ⟨ao, cap, rfl⟩ : ∃ a c, v = .slice a y.length c := by obtain ⟨a, c, h, _⟩ := hy; exact ⟨a, c, h⟩
  clear hx hy
  go_enter Try.func5, Try.ntmps5
  go_wp2_with fail
  refine HC.out.mono ?_
  rintro e w1 ⟨a0, c0, rfl, ho0, hb0⟩
  have HO0 := hide ho0
  have HB0 := hide hb0
  clear ho0 hb0 HC
  go_wp2
  go_loopw [5, 6] (fun u i wr => ∃ k : Nat, k ≤ y.length ∧ i = .int .i64 k ∧ Hid (OB wr w.heap.size u (x ++ y.take k)) ∧ Hid (Below w.heap.size w wr)) (fun _ i _ => y.length - (intOf i).toNat)
  case atStart => exact ⟨0, Nat.zero_le _, rfl, by show OB _ _ _ _; rw [List.take_zero, List.append_nil]; exact HO0.out, HB0.out⟩
  case round =>
    clear HO0 HB0
    obtain ⟨k, hk, rfl, HO, HB⟩ := hrel
    obtain ⟨D, HD⟩ : ∃ D, Hid (D = x ++ y.take k) := ⟨_, rfl⟩
    rw [← HD.out] at HO
    have hDl : D.length = x.length + k := by rw [HD.out, List.length_append, List.length_take]; omega
    have HDl := hide hDl
    have hBw := HB.out.size
    by_cases hlt : k < y.length
    · have hlt' : (k : Int) < (y.length : Int) := by omega
      obtain ⟨b, o, rfl, hcv⟩ := H.out.byte HB.out hlt
      obtain ⟨q, hq, HQ⟩ : ∃ q, wr.cell? ⟨b, o + k, none⟩ = some (.int .u8 q) ∧ Hid (q = y.getD k 0) := ⟨_, hcv, rfl⟩
      obtain ⟨a2, p2, hu⟩ := HO.out.shape
      subst hu
      have HALC : Hid (OB (wr.alloc (.cells #[.int .u8 q] 5)) w.heap.size (.slice a2 D.length p2) D) := HO.out.alloc _
      have HSR : Hid (Src Try.prog 1 22 (.slice (some ⟨wr.heap.size, 0, none⟩) 1 1) ([q] : List Int).length (([q] : List Int).map (Value.int .u8)) (wr.alloc (.cells #[.int .u8 q] 5))) := (built_sb wr [q] (by unfold maxLen; simp)).src
      clear hDl hcv
      go_wp2_with (at_builtin; refine wpList_app rfl _ _ 22 rfl w.heap.size _ _ D [q] rfl HALC.out rfl HSR.out (by rw [HDl.out]; simp; omega) (by simp; omega) ?_)
      intro v3 w3 ho3 hgr3
      have HN : Hid (OB w3 w.heap.size v3 (x ++ y.take (k + 1)) ∧ Below w.heap.size w w3) := by
        refine ⟨?_, (HB.out.alloc hBw _).grown hgr3.by (by simp; omega) (fun j hj => by have := HO.out.lt j hj; omega)⟩
        rw [take_snocI y k hlt, ← List.append_assoc, ← HD.out, ← HQ.out]
        exact ho3
      obtain ⟨a3, p3, rfl⟩ := ho3.shape
      clear ho3 hgr3 hq
      go_wp2
      go_roundw
      case rel => exact ⟨k + 1, by omega, by go_num, by show OB _ _ _ _; simpa using HN.out.1, HN.out.2⟩
      case measure => simp [intOf]; omega
    · obtain rfl : k = y.length := by omega
      have hlt' : ¬ (y.length : Int) < (y.length : Int) := by omega
      have HT : Hid (D = x ++ y) := by have := HD.out; rwa [List.take_of_length_le (Nat.le_refl _)] at this
      obtain ⟨a1, p1, rfl⟩ := HO.out.shape
      clear hDl
      go_wp2
      go_ret
      rw [← HT.out, ← HDl.out]
      exact ⟨_, _, rfl, HO.out, HB.out⟩
end Go.Proofs.Ytogplagiheoaiaa

