import Derived.Test.YtippppcdongahaaDoorG00Ints
import Derived.Lib.SliceRun
namespace Go.Proofs.YtippppcdongahaaDoor
open Go.RowKit Go.Maps
set_option maxRecDepth 20000
set_option linter.unusedVariables false

theorem bclone_any (v : Value) (D : List Int) (w : World) (h : SB w v D) (hn : D.length ≤ 33554432) :
    Calls Tryd.prog 22 #[v] w fun e w' => ∃ u, e = .returned u ∧ OB w' w.heap.size u D ∧ Below w.heap.size w w' := by
  have he := fun (w : World) (a : Option Addr) (n c : Nat) => Lib.run_eql_slice_nil (P := Tryd.prog) w 22 5 a n c 0 0 Tryd.underlying22
  have H := hide h
  obtain ⟨ao, cap, rfl, hlc, hcm, hnil, hcell⟩ := h
  cases ao with
  | none =>
    have hc0 := hnil rfl
    subst hc0
    have hD : D = [] := List.length_eq_zero_iff.1 (by omega)
    subst hD
    clear hnil hcell hcm hlc
    go_enter Tryd.func22, Tryd.ntmps22
    go_wp2
    go_ret
    exact ⟨_, rfl, World.ownsRow_nil _ _ _ _, Below.refl _ _⟩
  | some ad =>
    clear hnil hcell
    have HSR := hide ((H.out.below ((Below.refl _ _).alloc (Nat.le_refl _) (.cells #[] 5))).src)
    have HO : Hid (OB (w.alloc (.cells #[] 5)) w.heap.size (.slice (some ⟨w.heap.size, 0, none⟩) 0 0) []) := by
      show World.ownsRow _ _ _ _ _ _ _
      refine ⟨by simp, .inr ⟨w.heap.size, 0, #[], by simp, Nat.le_refl _, heap_alloc_new w _, ?_⟩⟩
      simp
    go_enter Tryd.func22, Tryd.ntmps22
    go_wp2_with (at_builtin; refine wpList_app rfl _ _ 22 rfl w.heap.size (.slice (some ⟨w.heap.size, 0, none⟩) 0 0) _ [] D rfl HO.out rfl HSR.out (by simp; omega) (by simp) ?_)
    intro v6 w6 ho6 hg6
    have HN : Hid (OB w6 w.heap.size v6 D ∧ Below w.heap.size w w6) := by
      have b1 : Below w.heap.size w (w.alloc (.cells #[] 5)) := (Below.refl _ _).alloc (Nat.le_refl _) _
      have hb := hg6.by
      refine ⟨ho6, hb.os.trans b1.os, hb.tape.trans b1.tape, hb.output.trans b1.output, Nat.le_trans b1.size hb.size, fun k hk => (hb.block k (by have := b1.size; omega) (fun e => ?_)).trans (b1.block k hk)⟩
      simp [Value.ownBlock] at e
      omega
    go_wp2
    go_ret
    exact ⟨_, rfl, HN.out.1, HN.out.2⟩
end Go.Proofs.YtippppcdongahaaDoor

