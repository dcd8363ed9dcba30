import Derived.Test.YtaeifigbnlffbaaDoorG23Twn
namespace Go.Proofs.YtaeifigbnlffbaaDoor
open Go.RowKit Go.Maps
set_option maxRecDepth 20000
set_option linter.unusedVariables false
set_option linter.unusedSimpArgs false

/-! The law's twin. -/

def Dt (w : World) (B : Nat) (p : Fv) : Prop := ∃ g, B < g ∧ p.2 = .slice (some ⟨g, 0, none⟩) p.1.dt.length p.1.dt.length ∧ w.heap[g]? = some (.cells (ab p.1.dt) 5 (0, 0))

theorem frozen_BF {w : World} {g : Nat} {L : List Fv} (h : BF w g L) (i : Nat) : w.frozen? ⟨g, i, none⟩ = false := by
  have e : w.heap[g]? = _ := h
  simp [World.frozen?, e]

theorem map_set_fst {M : List Fv} {k : Nat} {f : Fl} {dv : Value} (h : M[k]? = some (f, dv)) (u : Value) : (M.set k (f, u)).map (·.1) = M.map (·.1) := by
  apply List.ext_getElem?
  intro j
  rw [List.getElem?_map, List.getElem?_map]
  by_cases e : j = k
  · subst e
    rw [List.getElem?_set_self (List.getElem?_eq_some_iff.1 h).1, h]
    rfl
  · rw [List.getElem?_set_ne (fun q => e q.symm)]

set_option maxHeartbeats 4000000 in
theorem htwin (v : Value) (L : List Fv) (w : World) (h : RF w v L) (hn : L.length ≤ 1000000) (hd : ∀ p ∈ L, p.1.dt.length ≤ 1048576) :
    Calls Tryd.prog 13 #[v] w fun e w' => ∃ M : List Fv, M.map (·.1) = L.map (·.1) ∧ e = .returned (.slice (some ⟨w.heap.size, 0, none⟩) L.length L.length) ∧ BF w' w.heap.size M ∧ (∀ j p, j < L.length → M[j]? = some p → Dt w' w.heap.size p) ∧ Below w.heap.size w w' := by
  have HRF : Hid (∀ wx, Below w.heap.size w wx → RF wx v L) := fun wx hb => h.keep hb
  have HD := hide hd
  obtain ⟨ao, c, rfl, hc1, hc2⟩ := h.shape
  obtain ⟨n, HN⟩ : ∃ n, Hid (n = L.length) := ⟨_, rfl⟩
  rw [← HN.out] at HRF hc1 hn ⊢
  clear h hd
  go_enter Tryd.func13, Tryd.ntmps13
  go_wp2_with (first
    | (at_make; refine wpList_mkF rfl _ _ rfl n rfl rfl (by omega) ?_; intro w1 Z h1 z1 b1; have H1 := hide h1; have HZ1 := hide z1; have B1 := hide b1; clear h1 z1 b1)
    | (refine wpList_copyF rfl _ _ rfl w.heap.size n L Z H1.out (by rw [HZ1.out, HN.out]) (by rw [← HN.out]; rfl) (.slice ao n c) (by rfl) (HRF.out _ B1.out) ?_; intro w2 h2 g2; have H2 : Hid (BF w2 w.heap.size L) := h2; have B2 : Hid (Below w.heap.size w w2) := B1.out.trans (grown_below24 g2 (Nat.le_refl _) B1.out.size); clear h2 g2))
  obtain ⟨g, HG⟩ : ∃ g, Hid (g = w.heap.size) := ⟨_, rfl⟩
  have HGL : Hid (g < w2.heap.size) := by show _ < _; rw [HG.out]; exact (Array.getElem?_eq_some_iff.1 H2.out).1
  rw [← HG.out] at H2 ⊢
  go_loopw [4] (fun i wx => ∃ (k : Nat) (M : List Fv), k ≤ n ∧ i = .int .i64 k ∧ Below w.heap.size w wx ∧ M.map (·.1) = L.map (·.1) ∧ BF wx g M ∧ g < wx.heap.size ∧ (∀ j p, j < k → M[j]? = some p → Dt wx g p)) (fun i _ => n - (intOf i).toNat)
  case atStart => exact ⟨0, L, Nat.zero_le _, rfl, B2.out, rfl, H2.out, HGL.out, fun j p hj => by omega⟩
  case round =>
    obtain ⟨k, M, hk, rfl, hb, hm, hbf, hgl, hdt⟩ := hrel
    have HB := hide hb
    have HM := hide hm
    have HBF := hide hbf
    have HGW := hide hgl
    have HDT := hide hdt
    clear hb hm hbf hgl hdt
    by_cases hlt : k < n
    · have hlt' : (k : Int) < (n : Int) := by omega
      obtain ⟨p, hp⟩ : ∃ p, L[k]? = some p := ⟨L[k]'(by have := HN.out; omega), by simp⟩
      have HMK : Hid (M.length = n) := by
        have := congrArg List.length HM.out
        simp only [List.length_map] at this
        show _ = _
        rw [this, HN.out]
      obtain ⟨q, hq⟩ : ∃ q, M[k]? = some q := ⟨M[k]'(by have := HMK.out; omega), by simp⟩
      obtain ⟨f, dv⟩ := p
      obtain ⟨f2, dv2⟩ := q
      obtain rfl : f2 = f := by
        have := congrArg (fun l => l[k]?) HM.out
        simp [hp, hq] at this
        exact this
      obtain ⟨b, o, c', e, hcell⟩ := (HRF.out _ HB.out).get k _ hp
      simp only [Value.slice.injEq] at e
      obtain ⟨rfl, -, -⟩ := e
      have c9 := hcell 9 _ rfl
      have HCL := hide (hclone dv f2.dt wr ((HRF.out _ HB.out).data _ (List.mem_of_getElem? hp)) (by have := HD.out _ (List.mem_of_getElem? hp); simp only at this; omega))
      have HQ := hide hq
      clear hcell hp hq
      go_wp2_with (go_at_call 11; refine HCL.out.mono ?_; rintro e w4 ⟨rfl, h4, b4⟩; have H4 := hide h4; have B4 := hide b4; have HBF4 : Hid (BF w4 g M) := (b4.block g HGW.out).trans HBF.out; have q9 : w4.cell? ⟨g, k * 10 + 9, none⟩ = some dv2 := HBF4.out.cell HQ.out rfl; have hfz : w4.frozen? ⟨g, k * 10 + 9, none⟩ = false := frozen_BF HBF4.out _; clear h4 b4)
      obtain ⟨W, hW⟩ : ∃ W, W = w4.setCell ⟨g, k * 10 + 9, none⟩ (.slice (some ⟨wr.heap.size, 0, none⟩) f2.dt.length f2.dt.length) := ⟨_, rfl⟩
      have hgg : w.heap.size ≤ g := by rw [HG.out]; exact Nat.le_refl _
      have hwr : w.heap.size ≤ wr.heap.size := HB.out.size
      have hoth : ∀ x, x ≠ g → W.heap[x]? = w4.heap[x]? := fun x hx => by rw [hW]; exact setCell_others _ _ _ _ _ hx
      have HBW : Hid (Below w.heap.size w W) := by
        have b4 : Below w.heap.size w w4 := HB.out.trans (B4.out.mono hwr)
        exact b4.trans (by rw [hW]; exact grown_below24 (grownBy_set rfl) hgg b4.size)
      have HBFW : Hid (BF W g (M.set k (f2, .slice (some ⟨wr.heap.size, 0, none⟩) f2.dt.length f2.dt.length))) := by rw [hW]; exact HBF4.out.set HQ.out _
      have HMW : Hid ((M.set k (f2, .slice (some ⟨wr.heap.size, 0, none⟩) f2.dt.length f2.dt.length)).map (·.1) = L.map (·.1)) := by
        show _ = _
        rw [← HM.out]; exact map_set_fst HQ.out _
      have HGX : Hid (g < W.heap.size) := by
        show _ < _
        rw [hW, size_setCell]
        have := B4.out.size; have := HGW.out; omega
      have HDTW : Hid (∀ j p, j < k + 1 → (M.set k (f2, Value.slice (some ⟨wr.heap.size, 0, none⟩) f2.dt.length f2.dt.length))[j]? = some p → Dt W g p) := fun j p hj hp => by
        by_cases hjk : j = k
        · subst hjk
          rw [List.getElem?_set_self (by have := HMK.out; omega)] at hp
          cases hp
          exact ⟨wr.heap.size, HGW.out, rfl, (hoth _ (by have := HGW.out; omega)).trans H4.out⟩
        · rw [List.getElem?_set_ne (fun e => hjk e.symm)] at hp
          obtain ⟨g', q1, q2, q3⟩ := HDT.out j p (by omega) hp
          exact ⟨g', q1, q2, (hoth _ (by omega)).trans ((B4.out.block _ (Array.getElem?_eq_some_iff.1 q3).1).trans q3)⟩
      rw [← hW]
      clear hoth hW q9 hfz c9
      go_roundw
      case rel => exact ⟨k + 1, _, by omega, by go_num, HBW.out, HMW.out, HBFW.out, HGX.out, HDTW.out⟩
      case measure => simp [intOf]; omega
    · obtain rfl : k = n := by omega
      go_wp2
      go_ret
      exact ⟨M, HM.out, by rw [HG.out]; rfl, by rw [← HG.out]; exact HBF.out, fun j a b h1 h2 => by rw [← HG.out]; exact HDT.out j (a, b) h1 h2, HB.out⟩
end Go.Proofs.YtaeifigbnlffbaaDoor

