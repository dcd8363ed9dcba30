import Derived.Test.YtaeifigbnlffbaaDoorG21Tpw
namespace Go.Proofs.YtaeifigbnlffbaaDoor
open Go.RowKit Go.Maps
set_option maxRecDepth 20000
set_option linter.unusedVariables false
set_option linter.unusedSimpArgs false

/-! The law's clone and alike. -/

theorem hclone (v : Value) (l : List Int) (w : World) (h : SB w v l) (hn : l.length ≤ 140737488355328) :
    Calls Tryd.prog 11 #[v] w fun e w' => e = .returned (.slice (some ⟨w.heap.size, 0, none⟩) l.length l.length) ∧ w'.heap[w.heap.size]? = some (.cells (ab l) 5 (0, 0)) ∧ Below w.heap.size w w' := by
  have HSB : Hid (∀ wx, Below w.heap.size w wx → SB wx v l) := fun wx hb => h.below hb
  obtain ⟨ao, c, rfl, -⟩ := h
  obtain ⟨n, HN⟩ : ∃ n, Hid (n = l.length) := ⟨_, rfl⟩
  rw [← HN.out] at HSB hn ⊢
  go_enter Tryd.func11, Tryd.ntmps11
  go_wp2_with (first
    | (at_make; refine wpList_mk rfl _ _ rfl _ _ _ _ n n rfl rfl rfl (by first | rfl | (simp; done)) (by omega) (by omega) ?_; intro w1 h1 b1; have H1 : Hid (w1.heap[w.heap.size]? = some (.cells (ab (List.replicate n 0)) 5 (0, 0))) := (by show _ = _; rw [h1]; simp [ab]); have B1 := hide b1; clear h1 b1)
    | (refine wpList_copyA rfl _ _ rfl w.heap.size 0 n n (List.replicate n 0) 5 H1.out (by rfl) (.slice ao n c) l (by rfl) (HSB.out _ B1.out) (by have := HN.out; omega) (by rw [List.length_replicate]; have := HN.out; omega) ?_; intro w2 h2 g2; have H2 : Hid (w2.heap[w.heap.size]? = some (.cells (ab l) 5 (0, 0))) := (by show _ = _; rw [h2.out]; unfold wrt; rw [HN.out]; simp); have B2 : Hid (Below w.heap.size w w2) := B1.out.trans (grown_below24 g2 (Nat.le_refl _) B1.out.size); clear h2 g2))
  go_ret
  exact ⟨rfl, H2.out, B2.out⟩

set_option maxHeartbeats 8000000 in
theorem halike (v1 v2 : Value) (L1 L2 : List Fv) (w : World) (h1 : RF w v1 L1) (h2 : RF w v2 L2) (he : L1.map (·.1) = L2.map (·.1)) (hn : L1.length ≤ 1000000) :
    Calls Tryd.prog 14 #[v1, v2] w fun e w' => e = .returned (.bool true) ∧ Below w.heap.size w w' := by
  have hl : L2.length = L1.length := by have := congrArg List.length he; simpa using this.symm
  have HR1 : Hid (∀ wx, Below w.heap.size w wx → RF wx v1 L1) := fun wx hb => h1.keep hb
  have HR2 : Hid (∀ wx, Below w.heap.size w wx → RF wx v2 L2) := fun wx hb => h2.keep hb
  have HE := hide he
  obtain ⟨a1, d1, rfl, e1, e2⟩ := h1.shape
  obtain ⟨a2, d2, rfl, e3, e4⟩ := h2.shape
  rw [hl] at HR2 e3 ⊢
  obtain ⟨n, HN⟩ : ∃ n, Hid (n = L1.length) := ⟨_, rfl⟩
  have HL2 : Hid (L2.length = n) := by show _ = _; rw [HN.out]; exact hl
  rw [← HN.out] at HR1 HR2 e1 e3 hn ⊢
  clear h1 h2 he hl
  go_enter Tryd.func14, Tryd.ntmps14
  go_wp2
  go_loopw [5] (fun i wx => ∃ k : Nat, k ≤ n ∧ i = .int .i64 k ∧ Below w.heap.size w wx) (fun i _ => n - (intOf i).toNat)
  case atStart => exact ⟨0, Nat.zero_le _, rfl, Below.refl _ _⟩
  case round =>
    obtain ⟨k, hk, rfl, hb⟩ := hrel
    have HB := hide hb
    clear hb
    by_cases hlt : k < n
    · have hlt' : (k : Int) < (n : Int) := by omega
      obtain ⟨p, hp⟩ : ∃ p, L1[k]? = some p := ⟨L1[k]'(by have := HN.out; omega), by simp⟩
      obtain ⟨q, hq⟩ : ∃ q, L2[k]? = some q := ⟨L2[k]'(by have := HL2.out; omega), by simp⟩
      obtain ⟨f, dv⟩ := p
      obtain ⟨f2, dv2⟩ := q
      obtain rfl : f2 = f := by
        have := congrArg (fun l => l[k]?) HE.out
        simp [hp, hq] at this
        exact this.symm
      have HS1 := hide (fun wx (h : Below w.heap.size w wx) => (HR1.out wx h).data _ (List.mem_of_getElem? hp))
      have HS2 := hide (fun wx (h : Below w.heap.size w wx) => (HR2.out wx h).data _ (List.mem_of_getElem? hq))
      simp only at HS1 HS2
      obtain ⟨b, o, c', e, hcell⟩ := (HR1.out _ HB.out).get k _ hp
      simp only [Value.slice.injEq] at e
      obtain ⟨rfl, -, -⟩ := e
      have c0 := hcell 0 _ rfl
      have c1 := hcell 1 _ rfl
      have c2 := hcell 2 _ rfl
      have c3 := hcell 3 _ rfl
      have c4 := hcell 4 _ rfl
      have c5 := hcell 5 _ rfl
      have c6 := hcell 6 _ rfl
      have c7 := hcell 7 _ rfl
      have c8 := hcell 8 _ rfl
      have c9 := hcell 9 _ rfl
      rw [Nat.add_zero] at c0
      obtain ⟨wq, hwq⟩ : ∃ wq, wr.alloc (.cells (fcs f2 dv) 39) = wq := ⟨_, rfl⟩
      obtain ⟨hBq, hNq⟩ := alloc_box hwq
      have HBQ : Hid (Below w.heap.size w wq) := HB.out.trans (hBq.mono HB.out.size)
      obtain ⟨b', o', c'', e', hcell'⟩ := (HR2.out _ HBQ.out).get k _ hq
      simp only [Value.slice.injEq] at e'
      obtain ⟨rfl, -, -⟩ := e'
      have g0 := hcell' 0 _ rfl
      have g1 := hcell' 1 _ rfl
      have g2 := hcell' 2 _ rfl
      have g3 := hcell' 3 _ rfl
      have g4 := hcell' 4 _ rfl
      have g5 := hcell' 5 _ rfl
      have g6 := hcell' 6 _ rfl
      have g7 := hcell' 7 _ rfl
      have g8 := hcell' 8 _ rfl
      have g9 := hcell' 9 _ rfl
      rw [Nat.add_zero] at g0
      obtain ⟨wp, hwp⟩ : ∃ wp, wq.alloc (.cells (fcs f2 dv2) 39) = wp := ⟨_, rfl⟩
      obtain ⟨hBp, hNp⟩ := alloc_box hwp
      have HBP : Hid (Below w.heap.size w wp) := HBQ.out.trans (hBp.mono HBQ.out.size)
      have hNq2 : wp.heap[wr.heap.size]? = some (.cells (fcs f2 dv) 39 (0, 0)) := (hBp.block _ (Array.getElem?_eq_some_iff.1 hNq).1).trans hNq
      obtain ⟨k0, k1, k2, k3, k4, k5, k6, k7, k8, k9⟩ := box10 hNq2
      obtain ⟨m0, m1, m2, m3, m4, m5, m6, m7, m8, m9⟩ := box10 hNp
      have HSM : Hid (Calls Tryd.prog 17 #[dv, dv2] wp fun e w' => e = .returned (.bool true) ∧ ∃ n, w' = wp.drewN n) := by
        have := same_any dv dv2 _ _ wp (HS1.out _ HBP.out) (HS2.out _ HBP.out)
        rw [show eqB f2.dt f2.dt = true by simp [eqB]] at this
        exact this
      obtain ⟨x1, x2, x3, -⟩ := HS1.out _ HBP.out
      obtain ⟨y1, y2, y3, -⟩ := HS2.out _ HBP.out
      subst x3 y3
      clear hcell hcell' hp hq hBq hNq hBp hNp hNq2
      go_wp2_with fail
      refine HSM.out.mono ?_
      rintro e w9 ⟨rfl, n9, hn9⟩
      have HB9 : Hid (Below w.heap.size w w9) := by show Below _ _ _; rw [hn9]; exact below_drewN HBP.out n9
      clear hn9
      go_wp2
      go_roundw
      case rel => exact ⟨k + 1, by omega, by go_num, HB9.out⟩
      case measure => simp [intOf]; omega
    · obtain rfl : k = n := by omega
      go_wp2
      go_ret
      exact ⟨rfl, HB.out⟩
end Go.Proofs.YtaeifigbnlffbaaDoor

