import Derived.Test.YtijmmfimkibgbaaGOwl
import Derived.Test.YtijmmfimkibgbaaGAgn
import Derived.Test.YtijmmfimkibgbaaGAsw
namespace Go.Proofs.Ytijmmfimkibgbaa
open Go.RowKit Go.Maps
set_option maxRecDepth 20000
set_option linter.unusedVariables false
set_option linter.unusedSimpArgs false

set_option maxHeartbeats 8000000 in
theorem own_no (c : Cen) (x : Enr) (okc : c.Ok) (okx : x.Ok) (w : World) (hno : ¬ (fitI (ceI c) ∧ fitI (enI x))) :
    Calls Try.prog 3 #[c.v, x.v] w fun e w' => e = .returned (.bool true) ∧ Below w.heap.size w w' := by
  obtain ⟨CA, hCA⟩ : ∃ A, A = c.cs := ⟨_, rfl⟩
  obtain ⟨XA, hXA⟩ : ∃ A, A = x.cs := ⟨_, rfl⟩
  have HCV : Hid (c.v = .agg CA) := by show _ = _; rw [hCA]; rfl
  have HCS : Hid (CA.size = 16) := by rw [hCA]; exact rsC c
  have HXV : Hid (x.v = .agg XA) := by show _ = _; rw [hXA]; rfl
  have HXS : Hid (XA.size = 7) := by rw [hXA]; exact rsE x
  have HFC : Hid (∀ W, Calls Try.prog 4 #[.agg CA] W fun e w' => e = .returned (.bool (decide (fitI (ceI c)))) ∧ Below W.heap.size W w') := fun W => by
    have := centralFits_any c okc W
    rw [HCV.out] at this
    exact this
  have HFE : Hid (∀ W, Calls Try.prog 5 #[.agg XA] W fun e w' => e = .returned (.bool (decide (fitI (enI x)))) ∧ Below W.heap.size W w') := fun W => by
    have := endFits_any x okx W
    rw [HXV.out] at this
    exact this
  have HNO := hide hno
  rw [HCV.out, HXV.out]
  clear hCA hXA okc okx HCV HXV hno
  obtain ⟨w1, hw1⟩ : ∃ y, w.alloc (.cells CA 26) = y := ⟨_, rfl⟩
  obtain ⟨w2, hw2⟩ : ∃ y, w1.alloc (.cells XA 28) = y := ⟨_, rfl⟩
  obtain ⟨g, hg⟩ : ∃ g, w1.heap.size = g := ⟨_, rfl⟩
  have HO2 : Hid (Own w w2 [(w.heap.size, CA, 26), (g, XA, 28)] []) := by rw [← hw2, ← hg, ← hw1]; exact ((Own.start w).box CA 26).box XA 28
  have HNC2 := hide (HO2.out.bx 0 w.heap.size CA 26 rfl).1
  go_enter Try.func3, Try.ntmps3
  go_wp2_with ((with_reducible refine wpList_gC w.heap.size CA HCS.out ?hw ?hx HNC2.out ?_); (case hw => rfl); (case hx => rfl))
  clear hw1 hw2 hg
  refine (HFC.out _).mono ?_
  rintro e w3 ⟨rfl, hb⟩
  have HO3 : Hid (Own w w3 [(w.heap.size, CA, 26), (g, XA, 28)] []) := HO2.out.low hb
  have HNX3 := hide (HO3.out.bx 1 g XA 28 rfl).1
  clear hb HO2 HNC2
  by_cases hf : fitI (ceI c)
  · rw [show decide (fitI (ceI c)) = true from decide_eq_true hf]
    have hf2 : ¬ fitI (enI x) := fun h => HNO.out ⟨hf, h⟩
    have HF2 := hide hf2
    clear hf hf2
    go_wp2_with ((with_reducible refine wpList_gE g XA HXS.out ?hw ?hx HNX3.out ?_); (case hw => rfl); (case hx => rfl))
    refine (HFE.out _).mono ?_
    rintro e w4 ⟨rfl, hb⟩
    rw [show decide (fitI (enI x)) = false from decide_eq_false HF2.out]
    have HO4 := hide (HO3.out.low hb)
    clear hb
    go_wp2
    go_ret
    exact ⟨rfl, HO4.out.bel⟩
  · rw [show decide (fitI (ceI c)) = false from decide_eq_false hf]
    clear hf
    go_wp2
    go_ret
    exact ⟨rfl, HO3.out.bel⟩

theorem own_walk (c : Cen) (x : Enr) (okc : c.Ok) (okx : x.Ok) (w : World) :
    Calls Try.prog 3 #[c.v, x.v] w fun e w' => e = .returned (.bool true) ∧ Below w.heap.size w w' := by
  by_cases h : fitI (ceI c) ∧ fitI (enI x)
  · exact own_yes c x okc okx w h.1 h.2 (fun W => asked12_walk c x okc okx h.1 h.2 W) (fun W => again12_walk c x okc okx h.1 h.2 W)
  · exact own_no c x okc okx w h
end Go.Proofs.Ytijmmfimkibgbaa

