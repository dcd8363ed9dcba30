import Derived.Test.YteiajeeincapoacWalk2
namespace Go.Proofs.Yteiajeeincapoac
open Go.RowKit

theorem DC.at {w : World} {g : Nat} {cap : Int} {vn vd : Value} {m : Nat} {vs : Value} {calls : Int} {dead fused : Bool} {left : Int} (h : DC w g cap vn vd m vs calls dead fused left) :
    w.cell? ⟨g, 0, none⟩ = some (.int .i64 cap) ∧ w.cell? ⟨g, 1, none⟩ = some vn ∧ w.cell? ⟨g, 2, none⟩ = some vd ∧ w.cell? ⟨g, 3, none⟩ = some (.map (some m)) ∧ w.cell? ⟨g, 4, none⟩ = some vs ∧
    w.cell? ⟨g, 5, none⟩ = some (.int .i64 calls) ∧ w.cell? ⟨g, 6, none⟩ = some (.bool dead) ∧ w.cell? ⟨g, 7, none⟩ = some (.bool fused) ∧ w.cell? ⟨g, 8, none⟩ = some (.int .i64 left) := by
  unfold DC at h
  simp [World.cell?, h]

theorem DC.lt {w : World} {g : Nat} {cap : Int} {vn vd : Value} {m : Nat} {vs : Value} {calls : Int} {dead fused : Bool} {left : Int} (h : DC w g cap vn vd m vs calls dead fused left) : g < w.heap.size :=
  (Array.getElem?_eq_some_iff.1 h).1

theorem DC.below {w w' : World} {B g : Nat} {cap : Int} {vn vd : Value} {m : Nat} {vs : Value} {calls : Int} {dead fused : Bool} {left : Int} (h : DC w g cap vn vd m vs calls dead fused left) (hb : Below B w w') (hB : w.heap.size ≤ B) : DC w' g cap vn vd m vs calls dead fused left :=
  (hb.block g (Nat.lt_of_lt_of_le h.lt hB)).trans h

theorem image_any {w : World} {g : Nat} {cap : Int} {vn vd : Value} {m : Nat} {vs : Value} {calls : Int} {dead fused : Bool} {left : Int} {l : List Int} (h : DC w g cap vn vd m vs calls dead fused left) (hn : SB w vn l) (hr : l.length ≤ 140737488351232) :
    Calls Try.prog 12 #[.pointer (some ⟨g, 0, none⟩)] w fun e w' => ∃ a c, e = .returned (.slice a l.length c) ∧ OB w' w.heap.size (.slice a l.length c) l ∧ Below w.heap.size w w' := by
  obtain ⟨_, c1, _⟩ := h.at
  have HN : Hid (SB w vn l) := hn
  obtain ⟨ao, k, hv, _⟩ := hn
  subst hv
  clear h
  go_enter Try.func12, Try.ntmps12
  go_wp2_with fail
  refine (slicesClone_any _ l _ HN.out hr).mono ?_
  rintro e w1 ⟨an, cn, rfl, hn, hb1⟩
  go_wp2
  go_ret
  exact ⟨_, _, rfl, hn, hb1⟩

theorem capacity_any {w : World} {g : Nat} {cap : Int} {vn vd : Value} {m : Nat} {vs : Value} {calls : Int} {dead fused : Bool} {left : Int} (h : DC w g cap vn vd m vs calls dead fused left) :
    Calls Try.prog 16 #[.pointer (some ⟨g, 0, none⟩)] w fun e w' => e = .returned (.int .i64 cap) ∧ w' = w := by
  obtain ⟨c0, _⟩ := h.at
  clear h
  go_enter Try.func16, Try.ntmps16
  go_wp2
  go_ret
  exact ⟨rfl, rfl⟩

theorem calls_any {w : World} {g : Nat} {cap : Int} {vn vd : Value} {m : Nat} {vs : Value} {calls : Int} {dead fused : Bool} {left : Int} (h : DC w g cap vn vd m vs calls dead fused left) :
    Calls Try.prog 17 #[.pointer (some ⟨g, 0, none⟩)] w fun e w' => e = .returned (.int .i64 calls) ∧ w' = w := by
  obtain ⟨_, _, _, _, _, c5, _⟩ := h.at
  clear h
  go_enter Try.func17, Try.ntmps17
  go_wp2
  go_ret
  exact ⟨rfl, rfl⟩

theorem size_any {w : World} {g : Nat} {cap : Int} {vn vd : Value} {m : Nat} {vs : Value} {calls : Int} {dead fused : Bool} {left : Int} {l : List Int} (h : DC w g cap vn vd m vs calls dead fused left) (hn : SB w vn l) :
    Calls Try.prog 15 #[.pointer (some ⟨g, 0, none⟩)] w fun e w' => e = .returned (.int .i64 l.length) ∧ w' = w := by
  obtain ⟨_, c1, _⟩ := h.at
  obtain ⟨ao, k, hv, h1, h2, _⟩ := hn
  unfold maxLen at h2
  subst hv
  clear h
  go_enter Try.func15, Try.ntmps15
  go_wp2
  go_ret
  exact ⟨rfl, rfl⟩

theorem alive_any {w : World} {g : Nat} {cap : Int} {vn vd : Value} {m : Nat} {vs : Value} {calls : Int} {dead fused : Bool} {left : Int} (h : DC w g cap vn vd m vs calls dead fused left) :
    Calls Try.prog 18 #[.pointer (some ⟨g, 0, none⟩)] w fun e w' => e = .returned (.bool (!dead)) ∧ w' = w := by
  obtain ⟨_, _, _, _, _, _, c6, _⟩ := h.at
  clear h
  go_enter Try.func18, Try.ntmps18
  go_wp2
  go_ret
  exact ⟨rfl, rfl⟩

theorem num_any (x : Int) (w : World) : Calls Try.prog 11 #[.int .i64 x] w fun e w' => e = .returned (.int .i64 x) ∧ w' = w := by
  go_enter Try.func11, Try.ntmps11
  go_wp2
  go_ret
  exact ⟨rfl, rfl⟩

theorem eqB_self (l : List Int) : eqB l l = true := by simp [eqB]

theorem made_no (v : Value) (l : List Int) (c : Int) (w : World) (hs : SB w v l) (hr : l.length ≤ 140737488351232) (x : Int)
    (hd : ∀ W a k, Calls Try.prog 23 #[.slice a l.length k, .int .i64 c] W fun e w' => e = .returned (.tuple #[.pointer none, .int .i64 x]) ∧ w' = W)
    (hr' : ∀ W a k, Calls Try.prog 24 #[.slice a l.length k, .int .i64 c] W fun e w' => e = .returned (.tuple #[.pointer none, .int .i64 x]) ∧ w' = W) :
    Calls Try.prog 6 #[v, .int .i64 c] w fun e w' => e = .returned (.tuple #[.pointer none, .pointer none, .bool true]) ∧ Below w.heap.size w w' := by
  have HS : Hid (SB w v l) := hs
  obtain ⟨ao, k, hv, _⟩ := hs
  subst hv
  have HD := hide hd
  have HR := hide hr'
  clear hd hr'
  go_enter Try.func6, Try.ntmps6
  go_wp2_with fail
  refine (clone_any _ l _ HS.out hr).mono ?_
  rintro e w1 ⟨_, rfl, rfl, hg, hb1⟩
  have HG : Hid (OB w1 w.heap.size (.slice (some ⟨w.heap.size, 0, none⟩) l.length l.length) l) := hg
  clear hg
  go_wp2_with fail
  refine (unhide HD _ _ _).mono ?_
  rintro e w' ⟨rfl, rfl⟩
  go_wp2_with fail
  refine (unhide HR _ _ _).mono ?_
  rintro e w' ⟨rfl, rfl⟩
  go_wp2_with fail
  refine (num_any _ _).mono ?_
  rintro e w' ⟨rfl, rfl⟩
  go_wp2_with fail
  refine (same_any _ _ l l _ HG.out.sb (HS.out.below hb1)).mono ?_
  rintro e w' ⟨rfl, n, rfl⟩
  rw [eqB_self]
  go_wp2
  go_ret3
  exact ⟨rfl, below_drewN hb1 _⟩
end Go.Proofs.Yteiajeeincapoac
