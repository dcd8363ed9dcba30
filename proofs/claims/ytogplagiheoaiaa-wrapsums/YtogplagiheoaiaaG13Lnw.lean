import Derived.Test.YtogplagiheoaiaaG07App
namespace Go.Proofs.Ytogplagiheoaiaa
open Go.RowKit Go.Maps
set_option maxRecDepth 20000
set_option linter.unusedVariables false

theorem built_sb (w : World) (cs : List Int) (hm : cs.length ≤ maxLen) : SB (w.alloc (.cells (cs.map (Value.int .u8)).toArray 5)) (.slice (some ⟨w.heap.size, 0, none⟩) cs.length cs.length) cs := by
  refine ⟨_, _, rfl, Nat.le_refl _, hm, (fun h => by cases h), fun x hx i hi => ?_⟩
  cases hx
  rw [Addr.add_lit]
  have e := heap_alloc_new w (.cells (cs.map (Value.int .u8)).toArray 5)
  unfold World.cell?
  simp only [e]
  simp [hi]

theorem SB.byte {W w : World} {ao : Option Addr} {cap : Nat} {l : List Int} (h : SB W (.slice ao l.length cap) l) (hb : Below W.heap.size W w) {k : Nat} (hk : k < l.length) : ∃ b o, ao = some ⟨b, o, none⟩ ∧ w.cell? ⟨b, o + k, none⟩ = some (.int .u8 (l.getD k 0)) := by
  obtain ⟨ao', cap', hue, hc1, hc2, hc3, hc4⟩ := h
  simp only [Value.slice.injEq] at hue
  obtain ⟨rfl, -, rfl⟩ := hue
  cases ao with
  | none => have := hc3 rfl; omega
  | some x0 =>
    obtain ⟨b, o, rfl⟩ := addr_lit (hc4 x0 rfl 0 (by omega))
    have hc := hc4 _ rfl k hk
    have hbl := World.block_lt_of_cell? _ _ hc
    rw [Addr.add_lit] at hc hbl
    exact ⟨b, o, rfl, (hb.cell hbl).trans hc⟩

theorem copied_any (v : Value) (l : List Int) (w : World) (h : SB w v l) (hr : l.length ≤ 140737488351232) :
    Calls Try.prog 13 #[v] w fun e w' => ∃ a c, e = .returned (.slice a l.length c) ∧ OB w' w.heap.size (.slice a l.length c) l ∧ Below w.heap.size w w' := by
  have H := hide h
  obtain ⟨ao, cap, rfl, hlc, hcm, hnil, hcell⟩ := h
  unfold maxLen at hcm
  clear hnil hcell
  go_enter Try.func13, Try.ntmps13
  go_wp2
  go_loopw [3, 4] (fun u i wr => ∃ k : Nat, k ≤ l.length ∧ i = .int .i64 k ∧ Hid (OB wr w.heap.size u (l.take k)) ∧ Hid (Below w.heap.size w wr)) (fun _ i _ => l.length - (intOf i).toNat)
  case atStart => exact ⟨0, Nat.zero_le _, rfl, World.ownsRow_nil _ _ _ _, Below.refl _ _⟩
  case round =>
    obtain ⟨k, hk, rfl, HO, HB⟩ := hrel
    by_cases hlt : k < l.length
    · have hlt' : (k : Int) < (l.length : Int) := by omega
      obtain ⟨ao', cap', hue, hc1, hc2, hc3, hc4⟩ := H.out
      simp only [Value.slice.injEq] at hue
      obtain ⟨rfl, -, rfl⟩ := hue
      cases ao with
      | none => have := hc3 rfl; omega
      | some x0 =>
      obtain ⟨b, o, rfl⟩ := addr_lit (hc4 x0 rfl 0 (by omega))
      obtain ⟨q, hq, HQ⟩ : ∃ q, wr.cell? ⟨b, o + k, none⟩ = some (.int .u8 q) ∧ Hid (q = l.getD k 0) := by
        have hc := hc4 _ rfl k hlt
        have hbl := World.block_lt_of_cell? _ _ hc
        rw [Addr.add_lit] at hc hbl
        exact ⟨_, (HB.out.cell hbl).trans hc, rfl⟩
      obtain ⟨a1, p1, hu⟩ := HO.out.shape
      have htl : (l.take k).length = k := by rw [List.length_take]; omega
      rw [htl] at hu
      subst hu
      have HTL := hide htl
      have hBw := HB.out.size
      have HALC : Hid (OB (wr.alloc (.cells #[.int .u8 q] 5)) w.heap.size (.slice a1 k p1) (l.take k)) := HO.out.alloc _
      have HSR : Hid (Src Try.prog 1 22 (.slice (some ⟨wr.heap.size, 0, none⟩) 1 1) ([q] : List Int).length (([q] : List Int).map (Value.int .u8)) (wr.alloc (.cells #[.int .u8 q] 5))) := built_src wr [q]
      clear hc3 hc4 htl
      go_wp2_with (at_builtin; refine wpList_app rfl _ _ 22 rfl w.heap.size _ _ (l.take k) [q] rfl HALC.out rfl HSR.out (by rw [HTL.out]; simp; omega) (by simp; omega) ?_)
      intro v3 w3 ho3 hgr3
      have HN : Hid (OB w3 w.heap.size v3 (l.take (k + 1)) ∧ Below w.heap.size w w3) := by
        refine ⟨?_, (HB.out.alloc hBw _).grown hgr3.by (by simp; omega) (fun j hj => by have := HO.out.lt j hj; omega)⟩
        rw [List.take_succ_eq_append_getElem hlt]
        rw [HQ.out] at ho3
        have e : l.getD k 0 = l[k] := by simp [hlt]
        rw [e] at ho3
        exact ho3
      obtain ⟨a3, p3, rfl⟩ := ho3.shape
      clear ho3 hgr3 hq
      go_wp2
      go_roundw
      case rel => exact ⟨k + 1, by omega, by go_num, by show OB _ _ _ _; simpa using HN.out.1, HN.out.2⟩
      case measure => simp [intOf]; omega
    · obtain rfl : k = l.length := by omega
      have hlt' : ¬ (l.length : Int) < (l.length : Int) := by omega
      have HT : Hid (OB wr w.heap.size u3 l) := by have := HO.out; rwa [List.take_of_length_le (Nat.le_refl _)] at this
      clear HO
      obtain ⟨a1, p1, rfl⟩ := HT.out.shape
      go_wp2
      go_ret
      exact ⟨_, _, rfl, HT.out, HB.out⟩
def marks (n : Nat) : List Int := List.replicate n 165

end Go.Proofs.Ytogplagiheoaiaa

