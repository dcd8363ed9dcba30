import Derived.Test.YtgengoffkoonfabMgw
import Derived.Test.YtgengoffkoonfabDsp
namespace Go.Proofs.Ytgengoffkoonfab
open Go.RowKit Go.Maps
set_option maxRecDepth 20000
set_option linter.unusedVariables false

def wts (R : List (Nat × Bool)) : List Nat := R.map (·.1)

theorem wts_get {R : List (Nat × Bool)} {i : Nat} : (wts R).getD i 0 = (R.getD i (0, false)).1 := by
  simp only [wts, List.getD_eq_getElem?_getD, List.getElem?_map]
  cases R[i]? <;> rfl

/-- The first k packages, zeros behind them. -/
def pko (l : List Nat) (k : Nat) : List Int := ci ((pks l).take k) ++ List.replicate (l.length / 2 - k) 0

theorem pko_len (l : List Nat) {k : Nat} (h : k ≤ l.length / 2) : (pko l k).length = l.length / 2 := by
  unfold pko
  rw [List.length_append, ci_len, List.length_take, pks_len, List.length_replicate]
  omega

theorem pko_step (l : List Nat) {k : Nat} (h : k < l.length / 2) : (pko l k).set k (((pks l).getD k 0 : Nat) : Int) = pko l (k + 1) := by
  unfold pko
  have hk : k < (pks l).length := by rw [pks_len]; exact h
  obtain ⟨m, hm⟩ : ∃ m, l.length / 2 - k = m + 1 := ⟨l.length / 2 - k - 1, by omega⟩
  have hm2 : l.length / 2 - (k + 1) = m := by omega
  have hl : (ci ((pks l).take k)).length = k := by rw [ci_len, List.length_take]; omega
  have e0 : ci ((pks l).take (k + 1)) = ci ((pks l).take k) ++ [(((pks l).getD k 0 : Nat) : Int)] := by
    unfold ci
    rw [List.take_succ_eq_append_getElem hk, List.map_append, List.getD_eq_getElem?_getD, List.getElem?_eq_getElem hk]
    rfl
  rw [hm, hm2, e0]
  conv => lhs; arg 2; rw [← hl]
  rw [List.set_append_right _ _ (Nat.le_refl _), Nat.sub_self, List.replicate_succ, List.set_cons_zero, List.append_assoc]
  rfl

set_option maxHeartbeats 1000000 in
theorem pairs_any (v : Value) (R : List (Nat × Bool)) (w : World) (b0 : Nat) (h : OC w b0 v R) (h2 : R.length ≤ 900) (hw : ∀ x ∈ wts R, x ≤ 1000000000000000) :
    Calls Try.prog 67 #[v] w fun e w' => ∃ a, e = .returned (.slice a (R.length / 2) (R.length / 2)) ∧ OI w' w.heap.size (.slice a (R.length / 2) (R.length / 2)) (ci (pks (wts R))) ∧ Below w.heap.size w w' := by
  have HO := hide h
  obtain ⟨ar, cr, rfl, hr1, hr2⟩ := h.shape
  have hwl : (wts R).length = R.length := by simp [wts]
  have HWL := hide hwl
  have HW := hide hw
  have hdv : ((R.length : Int) / 2) = ((R.length / 2 : Nat) : Int) := by omega
  have htd : Int.tdiv (R.length : Int) 2 = ((R.length / 2 : Nat) : Int) := by rw [Int.tdiv_eq_ediv_of_nonneg (by omega)]; omega
  obtain ⟨n, hn⟩ : ∃ n, n = R.length / 2 := ⟨_, rfl⟩
  rw [← hn] at hdv htd ⊢
  have HN := hide hn
  have hn2 : 2 * n ≤ R.length := by omega
  clear h hw hwl hn
  go_enter Try.func67, Try.ntmps67
  go_wp2_with (at_make; refine wpList_mkI rfl _ _ rfl _ _ _ _ n n rfl rfl (by first | rfl | omega) (by first | rfl | omega) (Nat.le_refl _) (by omega) ?_)
  intro w1 hg hb1
  have HO1 : Hid (OI w1 w.heap.size (.slice (some ⟨w.heap.size, 0, none⟩) n n) (pko (wts R) 0)) := by
    show OI _ _ _ _
    have e : pko (wts R) 0 = List.replicate n 0 := by unfold pko; rw [List.take_zero, HWL.out, ← HN.out]; rfl
    rw [e]; exact mk_oi hg (by omega)
  have HB1 := hide hb1
  clear hg hb1
  go_wp2
  go_loopw [11] (fun i wr => ∃ k : Nat, k ≤ n ∧ i = .int .i64 k ∧ Hid (OI wr w.heap.size (.slice (some ⟨w.heap.size, 0, none⟩) n n) (pko (wts R) k)) ∧ Hid (Below w.heap.size w wr)) (fun i _ => n - (intOf i).toNat)
  case atStart => exact ⟨0, Nat.zero_le _, rfl, HO1, HB1⟩
  case round =>
    obtain ⟨k, hk, rfl, HOK, HB⟩ := hrel
    by_cases hlt : k < n
    · have hlt' : (k : Int) < (n : Int) := by omega
      have HR := hide (HO.out.below HB.out (Nat.le_refl _))
      obtain ⟨g, c, hv, c1, _⟩ := HR.out.get (i := 2 * k) (by omega)
      obtain ⟨g', c', hv', d1, _⟩ := HR.out.get (i := 2 * k + 1) (by omega)
      rw [hv] at hv'
      simp only [Value.slice.injEq, Option.some.injEq, Addr.mk.injEq, and_true] at hv hv'
      obtain ⟨rfl, -, rfl⟩ := hv
      obtain ⟨rfl, -⟩ := hv'
      have HST := hide (pko_step (wts R) (k := k) (by rw [HWL.out, ← HN.out]; exact hlt))
      have hpg := pks_get (wts R) k (by rw [HWL.out]; omega)
      rw [wts_get, wts_get] at hpg
      have hx := HW.out _ (show (R.getD (2 * k) (0, false)).1 ∈ wts R by rw [← wts_get]; exact getD_mem (by rw [HWL.out]; omega))
      have hy := HW.out _ (show (R.getD (2 * k + 1) (0, false)).1 ∈ wts R by rw [← wts_get]; exact getD_mem (by rw [HWL.out]; omega))
      obtain ⟨x, hxe⟩ : ∃ x, x = (R.getD (2 * k) (0, false)).1 := ⟨_, rfl⟩
      obtain ⟨y, hye⟩ : ∃ x, x = (R.getD (2 * k + 1) (0, false)).1 := ⟨_, rfl⟩
      rw [← hxe] at c1 hpg hx
      rw [← hye] at d1 hpg hy
      rw [hpg] at HST
      obtain ⟨⟨u, hu⟩, hfz, ho⟩ := HOK.out.putg (k := k) (by rw [pko_len _ (by rw [HWL.out, ← HN.out]; exact hk), HWL.out, ← HN.out]; exact hlt) ((x + y : Nat) : Int)
      have HNX : Hid (OI ((wr.setCell ⟨w.heap.size, k, none⟩ (.int .i64 ((x + y : Nat) : Int)))).drew w.heap.size (.slice (some ⟨w.heap.size, 0, none⟩) n n) (pko (wts R) (k + 1))) := by
        rw [← HST.out]; exact ho.move fun _ _ => rfl
      have HBN : Hid (Below w.heap.size w ((wr.setCell ⟨w.heap.size, k, none⟩ (.int .i64 ((x + y : Nat) : Int)))).drew) := by
        have := HB.out.setCell (p := ⟨w.heap.size, k, none⟩) (Nat.le_refl w.heap.size) (.int .i64 ((x + y : Nat) : Int))
        exact this.drew
      obtain ⟨t, ht⟩ : ∃ t : Nat, t = 2 * k := ⟨_, rfl⟩
      rw [← ht] at c1 d1
      have w1e : (2 : Int) * (k : Int) = (t : Int) := by omega
      have w1f : IntKind.i64.wrap ((2 : Int) * (k : Int)) = (t : Int) := by rw [IntKind.wrap_i64]; omega
      obtain ⟨t1, ht1⟩ : ∃ t1 : Nat, t1 = t + 1 := ⟨_, rfl⟩
      rw [← ht1] at d1
      have w2e : (t : Int) + 1 = (t1 : Int) := by omega
      have w2f : IntKind.i64.wrap ((t : Int) + 1) = (t1 : Int) := by rw [IntKind.wrap_i64]; omega
      have htL : (t : Int) < (R.length : Int) := by omega
      have ht1L : (t1 : Int) < (R.length : Int) := by omega
      have w3f : IntKind.i64.wrap ((x : Int) + (y : Int)) = ((x + y : Nat) : Int) := by rw [IntKind.wrap_i64]; omega
      obtain ⟨z, hz⟩ : ∃ z : Nat, z = x + y := ⟨_, rfl⟩
      rw [← hz] at w3f HNX HBN
      clear hpg hxe hye ho ht ht1 hz
      go_wp2
      go_region
      go_wp2
      go_roundw
      case rel => exact ⟨k + 1, by omega, by go_num, HNX, HBN⟩
      case measure => simp [intOf]; omega
    · obtain rfl : k = n := by omega
      have hlt' : ¬ (k : Int) < (k : Int) := by omega
      have HF : Hid (OI wr w.heap.size (.slice (some ⟨w.heap.size, 0, none⟩) k k) (ci (pks (wts R)))) := by
        have := HOK.out
        unfold pko at this
        rwa [List.take_of_length_le (by rw [pks_len, HWL.out, ← HN.out]; exact Nat.le_refl _), HWL.out, ← HN.out, Nat.sub_self, List.replicate_zero, List.append_nil] at this
      go_wp2
      go_ret
      exact ⟨_, rfl, HF.out, HB.out⟩
end Go.Proofs.Ytgengoffkoonfab
