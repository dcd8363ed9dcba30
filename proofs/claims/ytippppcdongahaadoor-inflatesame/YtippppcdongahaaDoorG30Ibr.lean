import Derived.Test.YtippppcdongahaaDoorG29Ibq
namespace Go.Proofs.YtippppcdongahaaDoor
open Go.RowKit Go.Maps Go.Shelf
set_option maxRecDepth 20000
set_option linter.unusedVariables false

theorem wp_blocks_no {g : Operand} {pm : Array Tmp} {assign body : Code} {Q : Exit → Act → World → Prop} {a : Act} {w : World} (hg : a.eval g = .func (.func 21) #[] #[]) (hps : pm.size = 2) (T : Obj → World → Prop) (rT : H4.Rec (w.heap.size + 1) T) (h0 : ∀ o, T o ((w.alloc (.deferred (some []))).alloc o))
    (hdone : ∀ o V, T o V → Q .normal { a with defers := { target := .collected w.heap.size, args := #[] } :: a.defers } V) :
    (Code.rangeFunc g pm assign body).wpIn Fence.wide 3 Tryd.prog Q a w := by
  refine wp_range3 (α := Unit) (fun (_ _ : Unit) => True) () rfl (by decide) hg trivial (enters_of Tryd.func21 (by kernel_rfl) rfl) (encs := fun _ => #[.slice none 0 0, .slice none 0 0]) (fun _ => hps.symm)
    (fun _ o V => T o V) (fun _ _ _ _ => False) (fun o V => T o V) (fun _ _ _ => False)
    (fun _ => rT) (fun _ _ => ⟨fun o V h => h.elim, fun o o' V h => h.elim⟩) rT (fun _ => ⟨fun o V h => h.elim, fun o o' V h => h.elim⟩) h0 ?_
    (fun _ _ _ _ _ => False) (fun _ _ _ => ⟨fun o V h => h.elim, fun o o' V h => h.elim⟩) ?_ ?_ ?_ ?_
  · intro o Jx _ V hV
    refine callsIn_wide.2 ?_
    have HV := hide hV
    clear hV hdone h0 rT
    go_enter Tryd.func21, Tryd.ntmps21
    go_wp2
    refine bodyPost_end (results_none rfl _ _ _) rfl ?_
    exact ⟨⟨_, rfl⟩, .inl HV.out⟩
  · intro m x o V K h _; exact h.elim
  · intro m x b o V h; exact h.elim
  · exact fun o V h => hdone o V h
  · exact fun c o V h => h.elim

theorem wp_blocks_any {g : Operand} {pm : Array Tmp} {assign body : Code} {Q : Exit → Act → World → Prop} {a : Act} {w : World} (dB lB : Nat) {data : List Int} {limit : Int} {ps : List Pc} {o0 : List Int} {v : Value} (T : Nat → (Nat → Prop) → Obj → World → Prop) (Ix : Code → Obj → World → Prop)
    (hit : (a.eval g = .func (.func 21) #[] #[] ∧ ps = []) ∨ (a.eval g = .func (.func 23) #[] #[.pointer (some ⟨dB, 0, none⟩), .pointer (some ⟨lB, 0, none⟩)] ∧ (data.length ≤ 33554432 ∧ 0 ≤ limit ∧ limit ≤ 16777216) ∧ (∃ E q0, Txt (unpack data) limit.toNat 0 [] ps E q0 o0) ∧ ∀ o W, T 0 (fun _ => False) o W → SB W v data ∧ W.cell? ⟨dB, 0, none⟩ = some v ∧ W.cell? ⟨lB, 0, none⟩ = some (.int .i64 limit))) (hps : pm.size = 2) (hB : Byt data)
    (rT : ∀ k S, H4.Rec (w.heap.size + 1) (T k S)) (hnS : ∀ k S o W, T k S o W → ¬ S (w.heap.size + 1)) (rx : ∀ c, H4.Rec (w.heap.size + 1) (Ix c))
    (hmv : ∀ o, BBears fun k S W => T k S o W)
    (hTO : ∀ o k S W B, T k S o W → w.heap.size + 2 ≤ B → B ≤ W.heap.size → Tab (wtake W B) ∧ Odr (wtake W B))
    (hsz : ∀ k S o W, T k S o W → w.heap.size + 2 ≤ W.heap.size)
    (h0 : ∀ o, T 0 (fun _ => False) o ((w.alloc (.deferred (some []))).alloc o)) (act : Pc → Value → Nat → Act)
    (hassign : ∀ (x : Pc) (u : Value) (V : World) (c : Nat) (K : Act → World → Prop), V.heap.size = c → K (act x u c) (V.alloc (.cells (pcq x) 36)) →
      assign.wpIn (Fence.wide.inRound (w.heap.size + 1)) 1 Tryd.prog (Exit.then K (fun _ _ _ => False)) { tmps := (pm.zip #[.agg (pcq x), u]).foldl (fun t (p, v) => t.setIfInBounds p v) a.tmps, defers := [] } V)
    (hbody : ∀ k x S o V c u, ps[k]? = some x → T k S o V → (∀ b, S b → b < V.heap.size) → V.heap[c]? = some (.cells (pcq x) 36 (0, 0)) → w.heap.size + 1 < c → ¬ S c → OB V 0 u (sg o0 x) → (∀ b, u.ownBlock = some b → S b) → body.wpIn (Fence.wide.inRound (w.heap.size + 1)) 1 Tryd.prog (blkEnd T Ix u k S o V) (act x u c) V)
    (hdone : ∀ S o V, T ps.length S o V → Q .normal { a with defers := { target := .collected w.heap.size, args := #[] } :: a.defers } V)
    (hstop : ∀ c o V, Ix c o V → c.wp Tryd.prog Q { a with defers := { target := .collected w.heap.size, args := #[] } :: a.defers } V) :
    (Code.rangeFunc g pm assign body).wp Tryd.prog Q a w := by
  refine (wpIn_wide (n := 3)).1 ?_
  rcases hit with ⟨hg, rfl⟩ | ⟨hg, hdm, ⟨E, q0, ht⟩, hdd⟩
  · exact wp_blocks_no hg hps (T 0 (fun _ => False)) (rT _ _) h0 (fun o V h => hdone _ o V h)
  · exact wp_blocks dB lB hg hps hdm ht hB T Ix rT hnS rx hdd hmv hTO hsz h0 act hassign hbody hdone (fun c o V h => wpIn_wide.2 (hstop c o V h))

set_option maxHeartbeats 1000000 in
theorem hBlocks {w : World} {v : Value} {data : List Int} (h : SB w v data) (limit : Int) :
    Calls Tryd.prog 8 #[v, .int .i64 limit] w fun e w' => Below w.heap.size w w' ∧ ((¬ (data.length ≤ 33554432 ∧ 0 ≤ limit ∧ limit ≤ 16777216) ∧ e = .returned (.func (.func 21) #[] #[])) ∨
      ((data.length ≤ 33554432 ∧ 0 ≤ limit ∧ limit ≤ 16777216) ∧ ∃ u, e = .returned (.func (.func 23) #[] #[.pointer (some ⟨w.heap.size, 0, none⟩), .pointer (some ⟨w.heap.size + 1, 0, none⟩)]) ∧ w'.heap[w.heap.size]? = some (.cells #[u] 22 (0, 0)) ∧ w'.heap[w.heap.size + 1]? = some (.cells #[.int .i64 limit] 3 (0, 0)) ∧ OB w' (w.heap.size + 2) u data)) := by
  obtain ⟨w2, hw2⟩ : ∃ w2, (w.alloc (.cells #[v] 22)).alloc (.cells #[.int .i64 limit] 3) = w2 := ⟨_, rfl⟩
  have hmf : ∀ (fn : Fn) (first cap : Array Value) (w : World), (Instr.makeFunc fn first cap).run Tryd.prog w = .ok (.func fn first cap) w := fun _ _ _ _ => rfl
  have b2 : Below w.heap.size w w2 := by
    rw [← hw2]
    have b1 : Below w.heap.size w (w.alloc (.cells #[v] 22)) := (Below.refl _ _).alloc (Nat.le_refl _) _
    exact b1.alloc b1.size _
  have s2 : w2.heap.size = w.heap.size + 2 := by rw [← hw2]; simp
  have e0 : w2.heap[w.heap.size]? = some (.cells #[v] 22 (0, 0)) := by rw [← hw2]; exact (Below.heap_alloc _ _ _ (by simp)).trans (heap_alloc_new w _)
  have e1 : w2.heap[w.heap.size + 1]? = some (.cells #[.int .i64 limit] 3 (0, 0)) := by rw [← hw2]; exact heap_alloc2_new w _ _
  have k0 := (one_cell e0).1
  have k1 := (one_cell e1).1
  have hsb := h.below b2
  obtain ⟨a, c, rfl, -⟩ := h
  have HM := hide (hmayBe a data.length c limit w2 _ rfl)
  have HW := hide hw2
  have HB2 := hide b2
  have HS2 := hide s2
  have HE0 := hide e0
  have HE1 := hide e1
  have HSB := hide hsb
  clear hw2 b2 s2 e0 e1 hsb
  go_enter Tryd.func8, Tryd.ntmps8
  go_wp2_with fail
  rw [HW.out]
  refine HM.out.mono ?_
  rintro e w3 ⟨rfl, hw3⟩
  subst hw3
  by_cases hc : data.length ≤ 33554432 ∧ 0 ≤ limit ∧ limit ≤ 16777216
  · rw [decide_eq_true hc]
    have HC := hide hc
    have HCL := hide (bclone_any _ data w3 HSB.out hc.1)
    clear hc HM
    go_wp2_with fail
    refine HCL.out.mono ?_
    rintro e w4 ⟨u, rfl, ho, hb⟩
    obtain ⟨ua, uc, rfl⟩ := ho.shape
    have f0 : w4.heap[w.heap.size]? = some (.cells #[.slice a data.length c] 22 (0, 0)) := (hb.block _ (by rw [HS2.out]; omega)).trans HE0.out
    have f1 : w4.heap[w.heap.size + 1]? = some (.cells #[.int .i64 limit] 3 (0, 0)) := (hb.block _ (by rw [HS2.out]; omega)).trans HE1.out
    obtain ⟨g0, g1⟩ := one_cell f0
    have HW4 := hide (wrt_set f0 (.slice ua data.length uc))
    have HO := hide ho
    have HB := hide hb
    have HF1 := hide f1
    clear ho hb f0 f1 HCL k0 k1
    go_wp2
    go_ret
    have hz := HS2.out
    refine ⟨?_, .inr ⟨HC.out, _, rfl, HW4.out.at, (HW4.out.ne _ (by omega)).trans HF1.out, ?_⟩⟩
    · exact (HB2.out.trans (HB.out.mono HB2.out.size)).setCell (p := ⟨w.heap.size, 0, none⟩) (Nat.le_refl _) _
    · have := HO.out.move (w' := w4.setCell ⟨w.heap.size, 0, none⟩ (.slice ua data.length uc)) fun k hk => HW4.out.ne k (by have := (HO.out.lt k hk).1; omega)
      rw [← hz]; exact this
  · rw [decide_eq_false hc]
    have HC := hide hc
    clear hc HM
    go_wp2
    go_ret
    exact ⟨HB2.out, .inl ⟨HC.out, rfl⟩⟩
end Go.Proofs.YtippppcdongahaaDoor

