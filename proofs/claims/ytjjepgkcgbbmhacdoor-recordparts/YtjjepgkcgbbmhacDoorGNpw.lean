import Derived.Test.YtjjepgkcgbbmhacDoorGNpl
namespace Go.Proofs.YtjjepgkcgbbmhacDoor
open Go.RowKit Go.Maps
set_option maxRecDepth 20000
set_option linter.unusedVariables false
set_option linter.unusedSimpArgs false

def plL (l : List Int) (k : Nat) : List Int := 112 :: (l.take k).map (fun x => 97 + x % 26)
theorem plL_len (l : List Int) {k : Nat} (h : k ≤ l.length) : (plL l k).length = k + 1 := by unfold plL; simp; omega
theorem plL_next {l : List Int} {k : Nat} (h : k < l.length) : plL l (k + 1) = plL l k ++ [97 + l.getD k 0 % 26] := by
  unfold plL
  rw [List.take_succ_eq_append_getElem h, List.map_append]
  simp [List.getD, h]

set_option maxHeartbeats 8000000 in
theorem plain_any (v : Value) (l : List Int) (w : World) (h : SB w v l) (hb : ∀ i, 0 ≤ l.getD i 0 ∧ l.getD i 0 < 256) :
    Calls Tryd.prog 5 #[v] w fun e w' => ∃ k, k ≤ l.length ∧ k ≤ 200 ∧ e = .returned (.string (strOfNums (plL l k))) ∧ Below w.heap.size w w' := by
  have HS := hide h
  have HY := hide hb
  obtain ⟨ao, cap, rfl, d1, d2, -, -⟩ := h
  unfold maxLen at d2
  have HO0 : Hid (OB (w.alloc (.cells #[.int .u8 112] 5)) w.heap.size (.slice (some ⟨w.heap.size, 0, none⟩) 1 1) (plL l 0)) := by
    have := OB.of_full (w := w.alloc (.cells #[.int .u8 112] 5)) (base := w.heap.size) (g := w.heap.size) (l := [112]) (heap_alloc_new _ _) (Nat.le_refl _) (by decide)
    exact this
  have HB0 : Hid (Below w.heap.size w (w.alloc (.cells #[.int .u8 112] 5))) := (Below.refl _ _).alloc (Nat.le_refl _) _
  clear hb
  go_enter Tryd.func5, Tryd.ntmps5
  go_wp2
  go_loopw [3, 4] (fun t i wr => ∃ (k : Nat) (ta : Option Addr) (tc : Nat), t = .slice ta (k + 1) tc ∧ i = .int .i64 (k : Int) ∧ k ≤ l.length ∧ k ≤ 200 ∧ Hid (OB wr w.heap.size (.slice ta (k + 1) tc) (plL l k)) ∧ Hid (Below w.heap.size w wr)) (fun _ i _ => 200 - (intOf i).toNat)
  case atStart => exact ⟨0, _, _, rfl, rfl, Nat.zero_le _, Nat.zero_le _, HO0.out, HB0.out⟩
  case round =>
    obtain ⟨k, ta, tc, rfl, rfl, hk1, hk2, HO, HB⟩ := hrel
    by_cases hlt : k < l.length ∧ k < 200
    case pos =>
      obtain ⟨hl1, hl2⟩ := hlt
      have hl1' : (k : Int) < (l.length : Int) := by omega
      have hl2' : (k : Int) < 200 := by omega
      have hsb := HS.out.below HB.out
      obtain ⟨x, hx, hcell⟩ : ∃ x : Addr, ao = some x ∧ ∀ i, i < l.length → wr.cell? (x.add i) = some (.int .u8 (l.getD i 0)) := by
        obtain ⟨ao', cap', he, a1, a2, a3, a4⟩ := hsb
        simp only [Value.slice.injEq] at he
        obtain ⟨rfl, _, rfl⟩ := he
        cases ao with
        | none => have := a3 rfl; omega
        | some x => exact ⟨x, rfl, a4 x rfl⟩
      subst hx
      obtain ⟨b, o, rfl⟩ := addr_lit (hcell 0 (by omega))
      have c0 := hcell k hl1
      rw [Addr.add_lit] at c0
      have hyb := HY.out k
      have HNX := hide (plL_next hl1)
      obtain ⟨y, hy⟩ : ∃ y, y = l.getD k 0 := ⟨_, rfl⟩
      rw [← hy] at c0 hyb HNX
      obtain ⟨y0, y1⟩ := hyb
      have hpl := plL_len l hk1
      have HO' : Hid (OB wr w.heap.size (.slice ta (k + 1) tc) (plL l k)) := HO.out
      have HPL := hide hpl
      have HOa : Hid (OB (wr.alloc (.cells #[.int .u8 (97 + y % 26)] 5)) w.heap.size (.slice ta (k + 1) tc) (plL l k)) := HO.out.alloc _
      have HSR : Hid (Src Tryd.prog 1 24 (.slice (some ⟨wr.heap.size, 0, none⟩) 1 1) 1 ([97 + y % 26].map (Value.int .u8)) (wr.alloc (.cells #[.int .u8 (97 + y % 26)] 5))) := built_src wr [97 + y % 26]
      clear hsb hcell hy hpl HO
      go_wp2_with (at_builtin; refine wpList_app rfl _ _ 24 rfl w.heap.size _ _ (plL l k) [97 + y % 26] rfl HOa.out rfl HSR.out (by rw [HPL.out]; show _ + 1 ≤ _; omega) (by rw [size_alloc']; have := HB.out.size; omega) ?_)
      intro v3 w3 ho3 hg3
      rw [← HNX.out] at ho3
      obtain ⟨a3, c3, hv3⟩ := ho3.shape
      rw [plL_len l (show k + 1 ≤ l.length by omega)] at hv3
      subst hv3
      have HO3 := hide ho3
      have HB3 : Hid (Below w.heap.size w w3) := (HB.out.alloc HB.out.size _).grown hg3.by (by rw [size_alloc']; have := HB.out.size; omega) (fun j hj => (HO'.out.lt j hj).1)
      clear ho3 hg3
      go_wp2
      go_roundw
      case rel => exact ⟨k + 1, a3, c3, rfl, by go_num, by omega, by omega, HO3.out, HB3.out⟩
      case measure => simp [intOf]; omega
    case neg =>
      have hcv := rs_convert HO.out.sb.rs12
      have HB2 := hide HB.out
      have hcs : l.length ≤ k ∨ (k < l.length ∧ 200 ≤ k) := by omega
      rcases hcs with z | ⟨z, z2⟩
      · have z1 : ¬ (k : Int) < (l.length : Int) := by omega
        go_wp2
        go_ret
        exact ⟨k, hk1, hk2, rfl, HB2.out⟩
      · have z1 : (k : Int) < (l.length : Int) := by omega
        have z3 : ¬ (k : Int) < 200 := by omega
        go_wp2
        go_ret
        exact ⟨k, hk1, hk2, rfl, HB2.out⟩
theorem plain_nm {l : List Int} {k : Nat} (hb : ∀ i, 0 ≤ l.getD i 0 ∧ l.getD i 0 < 256) (hk : k ≤ l.length) (hk2 : k ≤ 200) : 1 ≤ (strOfNums (plL l k)).data.toList.length ∧ (strOfNums (plL l k)).data.toList.length ≤ 201 ∧ ∀ i, i < (strOfNums (plL l k)).data.toList.length → 97 ≤ lb (strOfNums (plL l k)).data.toList i ∧ lb (strOfNums (plL l k)).data.toList i ≤ 122 := by
  have e : (strOfNums (plL l k)).data.toList = (plL l k).map (fun n => UInt8.ofNat n.toNat) := by unfold strOfNums; simp
  rw [e, List.length_map, plL_len l hk]
  refine ⟨by omega, by omega, fun i hi => ?_⟩
  have hi' : i < (plL l k).length := by rw [plL_len l hk]; exact hi
  have hv : 97 ≤ (plL l k)[i] ∧ (plL l k)[i] ≤ 122 := by
    unfold plL at hi' ⊢
    cases i with
    | zero => simp
    | succ i =>
      simp only [List.getElem_cons_succ, List.getElem_map, List.getElem_take]
      omega
  unfold lb
  rw [List.getElem?_map, List.getElem?_eq_getElem hi']
  simp only [Option.map_some, Option.getD_some]
  generalize (plL l k)[i] = z at hv
  obtain ⟨n, rfl⟩ : ∃ n : Nat, z = (n : Int) := ⟨z.toNat, by omega⟩
  rw [Int.toNat_natCast, UInt8.toNat_ofNat_of_lt' (by show n < 256; omega)]
  omega
end Go.Proofs.YtjjepgkcgbbmhacDoor

