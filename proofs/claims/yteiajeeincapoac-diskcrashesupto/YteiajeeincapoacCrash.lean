import Derived.Test.YteiajeeincapoacOutWalk
import Derived.Deep.RegionHeld3
namespace Go.Proofs.Yteiajeeincapoac
open Go.RowKit Go.Maps

structure PInv (st : St) : Prop where
  cap : st.cap ≤ 16777216
  now : st.now.length ≤ st.cap
  dur : st.dur.length ≤ st.cap
  sizes : ∀ n ∈ st.sizes, n ≤ st.cap
  bd : PBd st

theorem PInv.behind {st : St} (h : PInv st) (k : Int) : behind st k ≤ st.cap := by
  unfold Go.Proofs.Yteiajeeincapoac.behind
  split
  · rename_i h0
    have hk : keptN k st.sizes.length ≤ st.sizes.length := by unfold keptN; omega
    have : keptN k st.sizes.length - 1 < st.sizes.length := by omega
    simp only [List.getD, List.getElem?_eq_getElem this, Option.getD_some]
    exact h.sizes _ (List.getElem_mem _)
  · exact h.dur

theorem length_outcomeL (st : St) (c : Int × List Int × Int) : (outcomeL st c).length = behind st c.1 := by
  unfold outcomeL
  rw [length_outTo]

theorem keep1 {W w' : World} {a : Addr} {v : Value} (hb : Below W.heap.size W w') (h : W.cell? a = some v) : w'.cell? a = some v := (hb.cell (World.block_lt_of_cell? _ _ h)).trans h

theorem outTo_dead (st : St) (b : Bool) (sec : List Int) (rest : Int) (size : Nat) : ∀ k, outTo { st with dead := b } sec rest size k = outTo st sec rest size k
  | 0 => rfl
  | k + 1 => by unfold outTo; rw [outTo_dead st b sec rest size k]

theorem outcomeL_dead (st : St) (b : Bool) (c : Int × List Int × Int) : outcomeL { st with dead := b } c = outcomeL st c := by
  unfold outcomeL
  rw [outTo_dead]
  rfl

theorem crash_any {w : World} {K : Nat → Nat} {g : Nat} {st : St} {vsec : Value} {sec : List Int} (size rest : Int) (h : Rep w K g st) (hP : PInv st) (hz : st.sizes.length ≤ 10000000000000) (hsec : SI w vsec sec) (hK0 : Role K vsec 0) :
    Calls Try.prog 8 #[.pointer (some ⟨g, 0, none⟩), .agg #[.int .i64 size, vsec, .int .i64 rest]] w fun e w' => ∃ g' K2, e = .returned (.tuple #[.pointer (some ⟨g', 0, none⟩), .int .i64 0]) ∧
      Rep w' K g { st with dead := true } ∧ Rep w' K2 g' (stNew (outcomeL st (size, sec, rest)) st.cap) ∧ (∀ k, K2 k ≠ 0 → w.heap.size ≤ k) ∧ Fr K K w w' := by
  have HR := hide h
  have HSec := hide hsec
  obtain ⟨asec, csec, hv, _⟩ := hsec
  subst hv
  obtain ⟨vn, vd, m, vs, D, hV⟩ := h
  have HV := hide hV
  have hglt := hV.dc.lt
  obtain ⟨W0, hW0⟩ : ∃ W0, W0 = w.setCell ⟨g, 6, none⟩ (.bool true) := ⟨_, rfl⟩
  have hs0 : W0.heap.size = w.heap.size := by rw [hW0]; exact size_setCell _ _ _
  have hdc0 := hV.dc.set.2.2.2.2.2.1 true
  rw [← hW0] at hdc0
  have hR0 : Rep W0 K g { st with dead := true } := by
    refine ⟨vn, vd, m, vs, D, ?_⟩
    exact hV.move (w' := W0) (by rw [hs0]; exact Nat.le_refl _) (fun k k0 k1 => by rw [hW0, setCell_others _ _ _ _ k (fun e => k1 (by rw [e]; exact hV.kg))]) hdc0
  have hfr0 : Fr K K w W0 := by rw [hW0]; exact fr_setCell hV.kg
  obtain ⟨W1, hW1⟩ : ∃ W1, W1 = W0.alloc (.cells #[.int .i64 size, .slice asec sec.length csec, .int .i64 rest] 26) := ⟨_, rfl⟩
  have hb1 : Below W0.heap.size W0 W1 := by rw [hW1]; exact (Below.refl _ _).alloc (Nat.le_refl _) _
  have hs1 : W1.heap.size = w.heap.size + 1 := by rw [hW1, size_alloc', hs0]
  have hbx1 : W1.heap[w.heap.size]? = some (.cells #[.int .i64 size, .slice asec sec.length csec, .int .i64 rest] 26 (0, 0)) := by
    rw [hW1, ← hs0]; exact heap_alloc_new _ _
  have hR1 := hR0.below hb1
  have hfr1 := hfr0.trans (Fr.of_below (K := K) hb1)
  have hdc1 := hdc0.below hb1 (Nat.le_refl _)
  obtain ⟨q0, _⟩ := hdc1.at
  obtain ⟨_, _, _, _, _, _, e6, _⟩ := hV.dc.at
  have f0 := hV.dc.free
  have hsec1 : SI W1 (.slice asec sec.length csec) sec := by
    obtain ⟨ao, cap, k0, k1, k2, k3, k4⟩ := HSec.out
    refine ⟨ao, cap, k0, k1, k2, k3, fun x hx i hi => ?_⟩
    have h1 := k4 x hx i hi
    have h2 := World.block_lt_of_cell? _ _ h1
    rw [hb1.cell (by rw [hs0]; exact h2), hW0]
    have hne : (x.add i).block ≠ g := fun e => by
      simp only [Value.slice.injEq] at k0
      have := hK0 (x.add i).block (by rw [k0.1, hx, add_block]; rfl)
      rw [e, hV.kg] at this
      omega
    rw [World.cell?_of_block (setCell_others w g 6 _ _ hne)]
    exact h1
  have HW0 := hide hW0
  have HW1 := hide hW1
  have HR1 := hide hR1
  have HFR := hide hfr1
  have S1 := hide hs1
  have HS1 := hide hsec1
  have b0 : W1.cell? ⟨w.heap.size, 0, none⟩ = some (.int .i64 size) := by simp [World.cell?, hbx1]
  have b1 : W1.cell? ⟨w.heap.size, 1, none⟩ = some (.slice asec sec.length csec) := by simp [World.cell?, hbx1]
  have b2 : W1.cell? ⟨w.heap.size, 2, none⟩ = some (.int .i64 rest) := by simp [World.cell?, hbx1]
  clear hW0 hW1 hV hdc0 hdc1 hbx1 hb1 hR0 hR1 hfr0 hfr1 hs0 hs1 hsec1
  go_enter Try.func8, Try.ntmps8
  go_wp2
  rw [← HW0.out, ← HW1.out]
  have hcp := hP.cap
  have hd0 := hP.dur
  have hbh := hP.behind size
  have HP := hide hP
  clear hP HR HV HSec hK0 e6 f0 HW0 HW1
  have hRd : Rep W1.drew K g { st with dead := true } := HR1.out.below (Below.refl _ _).drew
  have hSd : SI W1.drew (.slice asec sec.length csec) sec := HS1.out
  have HRd := hide hRd
  have HSd := hide hSd
  clear hRd hSd
  have HK : Hid (∀ w2, Below W1.drew.heap.size W1.drew w2 → w2.cell? ⟨g, 0, none⟩ = some (.int .i64 st.cap) ∧ w2.cell? ⟨w.heap.size, 0, none⟩ = some (.int .i64 size) ∧ w2.cell? ⟨w.heap.size, 1, none⟩ = some (.slice asec sec.length csec) ∧ w2.cell? ⟨w.heap.size, 2, none⟩ = some (.int .i64 rest)) := by
    intro w2 hb
    have hs : W1.drew.heap.size = w.heap.size + 1 := S1.out
    refine ⟨(hb.cell (by rw [hs]; simp only []; omega)).trans q0, (hb.cell (by rw [hs]; simp only []; omega)).trans b0, (hb.cell (by rw [hs]; simp only []; omega)).trans b1, (hb.cell (by rw [hs]; simp only []; omega)).trans b2⟩
  go_region_held3 (fun w' => w'.cell? ⟨g, 0, none⟩ = some (.int .i64 st.cap) ∧ w'.cell? ⟨w.heap.size, 0, none⟩ = some (.int .i64 size) ∧ w'.cell? ⟨w.heap.size, 1, none⟩ = some (.slice asec sec.length csec) ∧ w'.cell? ⟨w.heap.size, 2, none⟩ = some (.int .i64 rest)) (go_keep)
    (first
      | (go_at_call 33; refine (outcome_any size rest HRd.out (by exact hz) HSd.out (by exact Nat.le_trans hbh hcp) (by exact Nat.le_trans hd0 hcp) (by exact HP.out.bd)).mono ?_; rintro e w2 ⟨a2, c2, rfl, hob, hb2⟩; obtain ⟨k0, k1, k2, k3⟩ := HK.out w2 hb2)
      | (go_at_call 23; refine (new_rep _ (outcomeL { st with dead := true } (size, sec, rest)) st.cap _ (by exact hob.sb) (by exact hcp) (by rw [length_outcomeL]; exact hbh)).mono ?_; rintro e w3 ⟨g3, K3, rfl, hr3, hu3, hb3⟩; have n0 := keep1 hb3 k0; have n1 := keep1 hb3 k1; have n2 := keep1 hb3 k2; have n3 := keep1 hb3 k3))
  go_wp2
  go_ret2
  have hs : W1.drew.heap.size = w.heap.size + 1 := S1.out
  have hz2 := hb2.size
  refine ⟨g3, K3, rfl, ((HRd.out.below hb2).below hb3), ?_, fun k hk => ?_, ?_⟩
  · rw [outcomeL_dead] at hr3
    exact hr3
  · have := hu3 k hk; omega
  · exact (HFR.out.trans (Fr.of_below (K := K) (Below.refl W1.heap.size W1).drew)).trans ((Fr.of_below hb2).trans (Fr.of_below hb3))
end Go.Proofs.Yteiajeeincapoac
