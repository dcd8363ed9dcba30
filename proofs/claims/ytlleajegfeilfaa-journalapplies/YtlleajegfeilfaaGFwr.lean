import Derived.Test.YtlleajegfeilfaaGFrd
namespace Go.Proofs.Ytlleajegfeilfaa
open Go.RowKit Go.Maps
set_option maxRecDepth 20000
set_option linter.unusedVariables false
set_option linter.unusedSimpArgs false

theorem undrew {w w' : World} {r : Option Nat} (h : w.drew.grownBy w' r) : w.grownBy w' r := ⟨h.os, h.tape, h.output, h.size, h.block⟩

def prs (R : List We) : List (Int × List Int) := R.map fun e => (e.at', e.l)
def prf (R : List Fe) : List (Int × List Int) := R.map fun e => (e.at', e.l)

set_option maxHeartbeats 8000000 in
theorem framedWrites_any (v : Value) (R : List We) (w : World) (h : SW w v R) (hs : sml R) :
    Calls Try.prog 10 #[v] w fun e w' => ∃ v1 v2 R', e = .returned (.tuple #[v1, v2]) ∧ prf R' = prs R ∧ FW w' w.heap.size v1 v2 R' ∧ Below w.heap.size w w' := by
  have HS := hide h
  have HM := hide hs
  obtain ⟨ca, ccap, rfl, c1, c2⟩ := h.open
  have hsl : R.length ≤ 4398046510976 := hs.1
  clear h hs
  go_enter Try.func10, Try.ntmps10
  go_wp2
  go_loopw [4, 5, 6, 7] (fun t u i _ wr => ∃ (j : Nat) (R' : List Fe) (ta ua : Option Addr) (tc uc : Nat), t = .slice ta j tc ∧ u = .slice ua j uc ∧ i = .int .i64 (j : Int) ∧ j ≤ R.length ∧ Hid (R'.length = j ∧ prf R' = prs (R.take j)) ∧ Hid (FW wr w.heap.size (.slice ta j tc) (.slice ua j uc) R') ∧ Hid (Below w.heap.size w wr)) (fun _ _ i _ _ => R.length - (intOf i).toNat)
  case atStart => exact ⟨0, [], none, none, 0, 0, rfl, rfl, rfl, Nat.zero_le _, ⟨rfl, by simp [prf, prs]⟩, ⟨OR.nil _ _ _ _, OR.nil _ _ _ _, (fun k hk => by cases hk), fun e he => by simp at he⟩, Below.refl _ _⟩
  case round =>
    obtain ⟨j, R', ta, ua, tc, uc, rfl, rfl, rfl, hj, HN, HO, HB⟩ := hrel
    by_cases hlt : j < R.length
    · have hlt' : (j : Int) < (R.length : Int) := by omega
      have HSr : Hid (SW wr (.slice ca R.length ccap) R) := HS.out.low HB.out
      obtain ⟨b0, o0, a', c', hla, hbl, hdv, g0, g1, hsb, k1, k2⟩ := HSr.out.row hlt
      have hml : (R.getD j we0).l.length ≤ 140737488351232 := HM.out.2 _ (we_mem hlt)
      obtain ⟨e, he⟩ : ∃ e, e = R.getD j we0 := ⟨_, rfl⟩
      have HEe := hide he
      rw [← he] at hdv g0 g1 hsb k1 hml
      obtain ⟨at0, dv0, l0⟩ := e
      simp only at hdv g0 g1 hsb k1 hml
      subst hla
      have HFR := hide (framed_any _ l0 wr hsb (by omega))
      have HC := hide (And.intro g0 g1)
      have HBl := hide hbl
      have HFar : Hid ((Value.slice ta j tc).ownBlock ≠ some b0 ∧ (Value.slice ua j uc).ownBlock ≠ some b0) := by
        obtain ⟨b1, o1, _, _, h1, h2, _⟩ := HS.out.row hlt
        simp only [Option.some.injEq, Addr.mk.injEq] at h1
        exact ⟨fun e => by have h3 := (HO.out.o1.lt b0 e).1; omega, fun e => by have h3 := (HO.out.o2.lt b0 e).1; omega⟩
      clear hdv he hsb k1 k2 HSr
      go_wp2_with fail
      refine HFR.out.mono ?_
      rintro e w2 ⟨g, c, rfl, ho2, hb2⟩
      have HO2 := hide ho2
      have HB2 := hide hb2
      have hC2 := And.intro ((hb2.cell (p := ⟨b0, o0 + j * 2, none⟩) hbl).trans g0) ((hb2.cell (p := ⟨b0, o0 + j * 2 + 1, none⟩) hbl).trans g1)
      have HC2 := hide hC2
      have hgc : l0.length + 4 ≤ c := by
        obtain ⟨a9, c9, he9, h9, _⟩ := ho2.sb
        have e4 : (l0 ++ marks4).length = l0.length + 4 := by simp [marks4]
        rw [e4] at he9 h9
        simp only [Value.slice.injEq] at he9
        omega
      clear ho2 hb2 hC2 g0 g1 HFR
      have HBl2 := hide (Nat.lt_of_lt_of_le HBl.out HB2.out.size)
      have HB2a := hide (HB2.out.alloc HB2.out.size (.cells #[.int .i64 at0, .slice (some ⟨g, 0, none⟩) l0.length c] 29))
      have HC2a := hide (And.intro ((HB2a.out.cell HBl.out).trans HC.out.1) ((HB2a.out.cell HBl.out).trans HC.out.2))
      have HO3 : Hid (OR 29 2 (w2.alloc (.cells #[.int .i64 at0, .slice (some ⟨g, 0, none⟩) l0.length c] 29)).drew w.heap.size (.slice ta j tc) (R'.map Fe.cs)) := ((HO.out.o1.below HB2.out (Nat.le_refl _)).alloc _).move (fun _ _ => rfl)
      have HH3 : Hid ((w2.alloc (.cells #[.int .i64 at0, .slice (some ⟨g, 0, none⟩) l0.length c] 29)).drew.heap[w2.heap.size]? = some (.cells #[.int .i64 at0, .slice (some ⟨g, 0, none⟩) l0.length c] 29)) := heap_alloc_new w2 _
      have HZ3 : Hid (w.heap.size ≤ (w2.alloc (.cells #[.int .i64 at0, .slice (some ⟨g, 0, none⟩) l0.length c] 29)).drew.heap.size) := by show w.heap.size ≤ (w2.alloc _).heap.size; rw [size_alloc']; have h1 := HB.out.size; have h2 := HB2.out.size; omega
      have hi1 : (0 : Int) ≤ (l0.length : Int) := by omega
      have hi2 : (l0.length : Int) ≤ (c : Int) := by omega
      go_wp2_with fail
      go_region_held3 (fun W => W.cell? ⟨b0, o0 + j * 2, none⟩ = some (.int .i64 at0) ∧ W.cell? ⟨b0, o0 + j * 2 + 1, none⟩ = some (.slice a' l0.length c')) (first | exact HC2.out | exact HC2a.out | exact HC3.out)
        (first
          | (refine stepRow (by rfl) _ _ 22 29 2 32 _ (by rfl) Try.underlying22 infoW rfl (by omega) w.heap.size (.slice ta j tc) (R'.map Fe.cs) #[.int .i64 at0, .slice (some ⟨g, 0, none⟩) l0.length c] w2.heap.size 1 (0, 0) (by simp [Act.eval, Act.put]) HO3.out (by simp [Act.eval, Act.put]) HH3.out rfl (by simp [Value.oneCell']) (by rw [List.length_map, HN.out.1]; omega) (by rw [List.length_map, HN.out.1]; omega) HZ3.out ?_; intro v3 w3 ho3 hg3' hat3; have hg3 := undrew hg3'; clear hg3'; have HC3 := hide (far_two hg3 HBl2.out HFar.out.1 HC2a.out); have HO4 := hide ho3; have HG4 := hide hg3; have HA4 := hide hat3; clear ho3 hg3 hat3))
      obtain ⟨a3, c3, hv3, z1, z2⟩ := HO4.out.shape
      rw [List.length_append, List.length_map, HN.out.1, List.length_singleton] at hv3
      subst hv3
      have HU2 : Hid (OR 27 1 (w3.alloc (.cells #[.slice (some ⟨g, 0, none⟩) (l0.length + 4) c] 27)) w.heap.size (.slice ua j uc) (R'.map Fe.ls)) := (((HO.out.o2.below HB2.out (Nat.le_refl _)).alloc _).grown HG4.out (fun k hk e => HO.out.ne k e hk)).alloc _
      have HZ4 : Hid (w.heap.size ≤ (w3.alloc (.cells #[.slice (some ⟨g, 0, none⟩) (l0.length + 4) c] 27)).heap.size) := by show _ ≤ _; rw [size_alloc']; have h1 := HB.out.size; have h2 := HB2.out.size; have h3 := HG4.out.size; rw [size_alloc'] at h3; omega
      go_wp2_with (at_builtin; refine wpRow rfl _ _ 33 27 1 24 _ rfl Try.underlying33 infoB rfl (by omega) w.heap.size (.slice ua j uc) (R'.map Fe.ls) #[.slice (some ⟨g, 0, none⟩) (l0.length + 4) c] w3.heap.size 1 (0, 0) rfl HU2.out rfl (heap_alloc_new _ _) rfl (by simp [Value.oneCell']) (by rw [List.length_map, HN.out.1]; omega) (by rw [List.length_map, HN.out.1]; omega) HZ4.out ?_)
      intro v5 w5 ho5 hg5 hat5
      obtain ⟨a5, c5, hv5, z3, z4⟩ := ho5.shape
      rw [List.length_append, List.length_map, HN.out.1, List.length_singleton] at hv5
      subst hv5
      have HFW : Hid (FW w5 w.heap.size (.slice a3 (j + 1) c3) (.slice a5 (j + 1) c5) (R' ++ [(⟨at0, g, c, l0⟩ : Fe)])) := FW.step HO.out HB.out.size HB2.out HO2.out HO4.out HG4.out HA4.out ho5 hg5 (by rw [size_alloc']; exact hat5)
      have HB5 : Hid (Below w.heap.size w w5) := by
        have b3 := ((HB.out.trans (HB2.out.mono HB.out.size)).alloc (Nat.le_trans HB.out.size HB2.out.size) _).grown HG4.out (by rw [size_alloc']; have := HB.out.size; have := HB2.out.size; omega) (fun k hk => (HO.out.o1.lt k hk).1)
        exact (b3.alloc b3.size _).grown hg5 (by rw [size_alloc']; have := b3.size; omega) (fun k hk => (HO.out.o2.lt k hk).1)
      clear ho5 hg5 hat5
      go_wp2
      go_roundw
      case rel =>
        refine ⟨j + 1, R' ++ [(⟨at0, g, c, l0⟩ : Fe)], a3, a5, c3, c5, rfl, rfl, by go_num, by omega, ⟨by rw [List.length_append, HN.out.1]; rfl, ?_⟩, HFW.out, HB5.out⟩
        have h1 := HN.out.2
        unfold prf prs at h1 ⊢
        rw [take_get we0 hlt, List.map_append, List.map_append, h1, ← HEe.out]
        rfl
      case measure => simp [intOf]; omega
    · have hje : j = R.length := by omega
      subst hje
      go_wp2
      go_ret2
      have hn := HN.out
      rw [List.take_length] at hn
      exact ⟨_, _, R', rfl, hn.2, HO.out, HB.out⟩
end Go.Proofs.Ytlleajegfeilfaa

