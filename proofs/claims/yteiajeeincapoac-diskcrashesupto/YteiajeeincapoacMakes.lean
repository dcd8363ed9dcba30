import Derived.Test.YteiajeeincapoacWalk3
namespace Go.Proofs.Yteiajeeincapoac
open Go.RowKit

theorem RC.lt {w : World} {g : Nat} {cap : Int} {vn vd vp vs : Value} {calls fuse : Int} {live : Bool} (h : RC w g cap vn vd vp vs calls fuse live) : g < w.heap.size :=
  (Array.getElem?_eq_some_iff.1 h).1

theorem RC.below {w w' : World} {B g : Nat} {cap : Int} {vn vd vp vs : Value} {calls fuse : Int} {live : Bool} (h : RC w g cap vn vd vp vs calls fuse live) (hb : Below B w w') (hB : w.heap.size ≤ B) : RC w' g cap vn vd vp vs calls fuse live :=
  (hb.block g (Nat.lt_of_lt_of_le h.lt hB)).trans h

def Under (B : Nat) (v : Value) : Prop := ∀ k, v.ownBlock = some k → k < B

theorem made_yes (v : Value) (l : List Int) (c : Int) (w : World) (hs : SB w v l) (h1 : c ≤ 16777216) (h2 : l.length ≤ c) :
    Calls Try.prog 6 #[v, .int .i64 c] w fun e w' => ∃ g vn vd m B g' un ud, e = .returned (.tuple #[.pointer (some ⟨g, 0, none⟩), .pointer (some ⟨g', 0, none⟩), .bool true]) ∧
      (DC w' g c vn vd m (.slice none 0 0) 0 false false 0 ∧ OB w' w.heap.size vn l ∧ OB w' w.heap.size vd l ∧ Apart vn vd ∧ w'.heap[m]? = some (.map #[] 0) ∧ w.heap.size ≤ g ∧ w.heap.size ≤ m) ∧
      (Under B vn ∧ Under B vd ∧ m < B ∧ g < B) ∧
      (RC w' g' c un ud (.slice none 0 0) (.slice none 0 0) 0 (-1) true ∧ OB w' B un l ∧ OB w' B ud l ∧ Apart un ud ∧ B ≤ g') ∧ Below w.heap.size w w' := by
  have HS : Hid (SB w v l) := hs
  obtain ⟨ao, k, hv, _⟩ := hs
  subst hv
  go_enter Try.func6, Try.ntmps6
  go_wp2_with fail
  refine (clone_any _ l _ HS.out (by omega)).mono ?_
  rintro e w1 ⟨_, rfl, rfl, hg, hb1⟩
  have HG : Hid (OB w1 w.heap.size (.slice (some ⟨w.heap.size, 0, none⟩) l.length l.length) l) := hg
  clear hg
  have s1 := hb1.size
  go_wp2_with fail
  refine (new_yes _ l c _ HG.out.sb h1 h2).mono ?_
  rintro e w2 ⟨g, vn, vd, m, rfl, hdc, hn, hd, hap, hm, hg1, hm1, hs2, hb2⟩
  have hu : Under w2.heap.size vn ∧ Under w2.heap.size vd ∧ m < w2.heap.size ∧ g < w2.heap.size := ⟨fun k hk => (hn.lt k hk).2, fun k hk => (hd.lt k hk).2, (Array.getElem?_eq_some_iff.1 hm).1, by omega⟩
  have D1 : Hid (DC w2 g c vn vd m (.slice none 0 0) 0 false false 0 ∧ OB w2 w.heap.size vn l ∧ OB w2 w.heap.size vd l ∧ Apart vn vd ∧ w2.heap[m]? = some (.map #[] 0) ∧ w.heap.size ≤ g ∧ w.heap.size ≤ m) :=
    ⟨hdc, hn.base s1, hd.base s1, hap, hm, by omega, by omega⟩
  have HU := hide hu
  have S2 := hide hs2
  have HB2 := hide hb2
  clear hdc hn hd hap hm hu hs2
  go_wp2_with fail
  refine (rnew_yes _ l c _ ((HS.out.below hb1).below hb2) h1 h2).mono ?_
  rintro e w3 ⟨g', un, ud, rfl, hrc, hn, hd, hap, hg3, hb3⟩
  have D2 : Hid (RC w3 g' c un ud (.slice none 0 0) (.slice none 0 0) 0 (-1) true ∧ OB w3 w2.heap.size un l ∧ OB w3 w2.heap.size ud l ∧ Apart un ud ∧ w2.heap.size ≤ g') := ⟨hrc, hn, hd, hap, hg3⟩
  have HB3 := hide hb3
  clear hrc hn hd hap hb2
  go_wp2_with fail
  refine (num_any _ _).mono ?_
  rintro e w3 ⟨rfl, rfl⟩
  go_wp2_with fail
  refine (same_any _ _ l l _ ((HG.out.sb.below HB2.out).below HB3.out) (((HS.out.below hb1).below HB2.out).below HB3.out)).mono ?_
  rintro e w' ⟨rfl, n, rfl⟩
  rw [eqB_self]
  go_wp2
  go_ret3
  obtain ⟨a1, a2, a3, a4, a5, a6, a7⟩ := D1.out
  obtain ⟨b1, b2, b3, b4, b5⟩ := D2.out
  have hbd : Below w3.heap.size w3 (w3.drewN n) := below_drewN (Below.refl _ _) n
  have q2 := HB2.out.size
  have q3 := HB3.out.size
  refine ⟨g, vn, vd, m, w2.heap.size, g', un, ud, rfl, ⟨?_, ?_, ?_, a4, ?_, a6, a7⟩, HU.out, ⟨b1, b2, b3, b4, b5⟩, ?_⟩
  · exact a1.below (below_drewN HB3.out n) (Nat.le_refl _)
  · exact a2.below (below_drewN HB3.out n) (Nat.le_refl _)
  · exact a3.below (below_drewN HB3.out n) (Nat.le_refl _)
  · exact (HB3.out.block m HU.out.2.2.1).trans a5
  · exact ((hb1.trans (HB2.out.mono s1)).trans (HB3.out.mono (by omega))).trans (hbd.mono (by omega))

end Go.Proofs.Yteiajeeincapoac
