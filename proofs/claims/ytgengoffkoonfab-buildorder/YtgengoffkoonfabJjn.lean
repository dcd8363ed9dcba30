import Derived.Test.YtgengoffkoonfabJhl
namespace Go.Proofs.Ytgengoffkoonfab
open Go.RowKit Go.Maps
set_option maxRecDepth 20000
set_option linter.unusedVariables false

/-- Depths from the last number down, so many told. -/
def dn (H : Nat → Nat) (r : Nat) : Nat → List Int
  | 0 => List.replicate (r + 1) 0
  | j + 1 => (dn H r j).set (r - 1 - j) ((dn H r j).getD (H (r - 1 - j)) 0 + 1)

theorem dn_len (H : Nat → Nat) (r j : Nat) : (dn H r j).length = r + 1 := by
  induction j with
  | zero => simp [dn]
  | succ j ih => simp [dn, ih]

theorem dn_keep (H : Nat → Nat) (r j i v : Nat) (hv : r ≤ v + j) (hj : j + i ≤ r) : (dn H r (j + i)).getD v 0 = (dn H r j).getD v 0 := by
  induction i with
  | zero => rfl
  | succ i ih =>
    rw [← ih (by omega)]
    show ((dn H r (j + i)).set (r - 1 - (j + i)) _).getD v 0 = _
    rw [List.getD_eq_getElem?_getD, List.getElem?_set_ne (by omega), ← List.getD_eq_getElem?_getD]

theorem dn_root (H : Nat → Nat) (r j : Nat) (hj : j ≤ r) : (dn H r j).getD r 0 = 0 := by
  have := dn_keep H r 0 j r (by omega) (by omega)
  rw [Nat.zero_add] at this
  rw [this]
  simp [dn]

theorem dn_step (H : Nat → Nat) (r v : Nat) (hv : v < r) (hH : v < H v) : (dn H r r).getD v 0 = (dn H r r).getD (H v) 0 + 1 := by
  have e1 := dn_keep H r (r - v) v v (by omega) (by omega)
  have e2 := dn_keep H r (r - 1 - v) (v + 1) (H v) (by omega) (by omega)
  rw [show r - v + v = r by omega] at e1
  rw [show r - 1 - v + (v + 1) = r by omega] at e2
  rw [e1, e2, show r - v = r - 1 - v + 1 by omega]
  show ((dn H r (r - 1 - v)).set (r - 1 - (r - 1 - v)) _).getD v 0 = _
  rw [show r - 1 - (r - 1 - v) = v by omega]
  rw [List.getD_eq_getElem?_getD, List.getElem?_set_self (by rw [dn_len]; omega)]
  rfl

theorem dn_bound (H : Nat → Nat) (r j v : Nat) : 0 ≤ (dn H r j).getD v 0 ∧ (dn H r j).getD v 0 ≤ j := by
  induction j generalizing v with
  | zero =>
    simp only [dn, List.getD_eq_getElem?_getD, List.getElem?_replicate]
    split <;> simp
  | succ j ih =>
    show 0 ≤ ((dn H r j).set (r - 1 - j) _).getD v 0 ∧ _
    by_cases c : r - 1 - j = v
    · subst c
      by_cases d : r - 1 - j < (dn H r j).length
      · have h := ih (H (r - 1 - j))
        have e : ((dn H r j).set (r - 1 - j) ((dn H r j).getD (H (r - 1 - j)) 0 + 1)).getD (r - 1 - j) 0 = (dn H r j).getD (H (r - 1 - j)) 0 + 1 := by
          rw [List.getD_eq_getElem?_getD, List.getElem?_set_self d]
          rfl
        simp only [dn, e]
        omega
      · rw [dn_len] at d; omega
    · have h := ih v
      have e : ((dn H r j).set (r - 1 - j) ((dn H r j).getD (H (r - 1 - j)) 0 + 1)).getD v 0 = (dn H r j).getD v 0 := by
        rw [List.getD_eq_getElem?_getD, List.getElem?_set_ne c, ← List.getD_eq_getElem?_getD]
      simp only [dn, e]
      omega

theorem hls_get {N v : Nat} (H : Nat → Nat) (h : v < N) : (hls N H).getD v 0 = (H v : Int) := by
  unfold hls
  rw [List.getD_eq_getElem?_getD, List.getElem?_map, List.getElem?_range h]
  rfl

set_option maxHeartbeats 1000000 in
theorem join_any (v : Value) (l : List Int) (Z0 : List Znd) (w : World) (h : SI w v l) (hz : l = Z0.map fun z => (z.1.1 : Int)) (hid : Z0.map (·.2) = List.range Z0.length) (h2 : 2 ≤ Z0.length) (hN : Z0.length ≤ 288) (hs : zsum Z0 ≤ 1236950581248) :
    Calls Try.prog 27 #[v] w fun e w' => ∃ a c, e = .returned (.slice a Z0.length c) ∧ SI w' (.slice a Z0.length c) ((dn (hids (Z0.length - 1) Z0 Z0.length fun _ => 0) (2 * Z0.length - 2) (2 * Z0.length - 2)).take Z0.length) ∧ Below w.heap.size w w' := by
  have hl : l.length = Z0.length := by rw [hz]; simp
  have hC := hold_any v l Z0 w h hz hid h2 hN hs
  obtain ⟨ao, cap, rfl, hlc, hcm⟩ := h.open
  have hup : ∀ v, v + 1 < 2 * Z0.length - 1 → v < hids (Z0.length - 1) Z0 Z0.length (fun _ => 0) v ∧ hids (Z0.length - 1) Z0 Z0.length (fun _ => 0) v < 2 * Z0.length - 1 := fun v hv => by
    have hnum : Znum Z0 Z0.length := ⟨by rw [hid]; exact List.nodup_range, fun z hz' => by
      have : z.2 ∈ Z0.map (·.2) := List.mem_map_of_mem hz'
      rw [hid] at this
      exact List.mem_range.1 this⟩
    have := hids_up (Z0.length - 1) Z0 Z0.length (fun _ => 0) hnum (by omega) v (by omega) (by
      by_cases c : v < Z0.length
      · left; rw [hid]; exact List.mem_range.2 c
      · right; omega) (by omega)
    exact ⟨this.1, by have := this.2; omega⟩
  obtain ⟨H, HH⟩ : ∃ H, Hid (H = hids (Z0.length - 1) Z0 Z0.length fun _ => 0) := ⟨_, rfl⟩
  rw [← HH.out] at hC hup ⊢
  rw [hl] at hlc hC ⊢
  obtain ⟨n, HNN⟩ : ∃ n, Hid (n = Z0.length) := ⟨_, rfl⟩
  rw [← HNN.out] at hC hup h2 hN hlc ⊢
  have HUP := hide hup
  clear hz hid h hl hs hup
  obtain ⟨r, hr⟩ : ∃ r, r = 2 * n - 2 := ⟨_, rfl⟩
  rw [← hr] at hC ⊢
  have hr2 : 2 * n - 1 = r + 1 := by omega
  rw [hr2] at HUP
  have hrn : n ≤ r := by omega
  have hrm : r ≤ 574 := by omega
  clear hr hr2
  go_enter Try.func27, Try.ntmps27
  go_wp2_with fail
  refine hC.mono ?_
  rintro e w1 ⟨a1, c1, rfl, ho1, hb1⟩
  have HO1 := hide ho1
  have hcap := OI.sb ho1
  obtain ⟨ax, cx, hx, hx1, hx2⟩ := hcap.open
  simp only [Value.slice.injEq] at hx
  obtain ⟨rfl, -, rfl⟩ := hx
  rw [hls_len] at hx1
  have HB1 := hide hb1
  have hw1 := hb1.size
  clear ho1 hb1 hcap
  have e1 : IntKind.i64.wrap ((r : Int) + 1) = ((r + 1 : Nat) : Int) := by rw [IntKind.wrap_i64]; omega
  go_wp2_with (at_make; refine wpList_mkI rfl _ _ rfl _ _ _ _ (r + 1) (r + 1) rfl rfl (by first | rfl | omega) (by first | rfl | omega) (Nat.le_refl _) (by omega) ?_)
  intro w2 hg hb2
  have HO2 : Hid (OI w2 w1.heap.size (.slice (some ⟨w1.heap.size, 0, none⟩) (r + 1) (r + 1)) (dn H r 0)) := mk_oi hg (by omega)
  have HB2 := hide hb2
  obtain ⟨B, HBB⟩ : ∃ B, Hid (B = w1.heap.size) := ⟨_, rfl⟩
  rw [← HBB.out] at HO2 ⊢
  clear hg hb2 e1
  go_wp2
  go_loopw [5] (fun i wr => ∃ k j : Nat, k + j = r ∧ i = .int .i64 ((k : Int) - 1) ∧ Hid (OI wr B (.slice (some ⟨B, 0, none⟩) (r + 1) (r + 1)) (dn H r j)) ∧ Hid (Below B w1 wr)) (fun i _ => ((intOf i) + 1).toNat)
  case atStart => exact ⟨r, 0, rfl, rfl, HO2, by rw [HBB.out]; exact HB2⟩
  case round =>
    obtain ⟨k, j, hkj, rfl, HO, HB⟩ := hrel
    by_cases h0 : k = 0
    · subst h0
      obtain rfl : j = r := by omega
      have h0' : ¬ (0 : Int) ≤ ((0 : Nat) : Int) - 1 := by omega
      have HF : Hid (SI wr (.slice (some ⟨B, 0, none⟩) n (j + 1)) ((dn H j j).take n)) := by
        have h := HO.out
        rw [← List.take_append_drop n (dn H j j)] at h
        have hlen : ((dn H j j).take n).length = n := by rw [List.length_take, dn_len]; omega
        have h' : OI wr B (.slice (some ⟨B, 0, none⟩) ((dn H j j).take n ++ (dn H j j).drop n).length (j + 1)) ((dn H j j).take n ++ (dn H j j).drop n) := by
          rw [List.length_append, hlen, List.length_drop, dn_len, show n + (j + 1 - n) = j + 1 by omega]
          exact h
        have := OI.front h'
        rwa [hlen] at this
      have HBF : Hid (Below w.heap.size w wr) := HB1.out.trans (by have := HB.out; rw [HBB.out] at this; exact this.mono hw1)
      have hns : n ≤ j + 1 := by omega
      go_wp2
      go_ret
      exact ⟨_, _, rfl, HF.out, HBF.out⟩
    · obtain ⟨m, rfl⟩ : ∃ m, k = m + 1 := ⟨k - 1, by omega⟩
      have e1 : ((m + 1 : Nat) : Int) - 1 = m := by omega
      rw [e1]
      have hm0 : (0 : Int) ≤ m := by omega
      obtain ⟨hu1, hu2⟩ := HUP.out m (by omega)
      have HO1w : Hid (SI wr (.slice a1 (hls r H).length c1) (hls r H)) := by
        have := (HO1.out.sb).below (by have := HB.out; rw [HBB.out] at this; exact this)
        rw [hls_len]; exact this
      obtain ⟨b, o, rfl, hc⟩ := HO1w.out.get (Below.refl _ _) (k := m) (by rw [hls_len]; omega)
      rw [hls_get H (by omega)] at hc
      obtain ⟨q, hq⟩ : ∃ q, q = H m := ⟨_, rfl⟩
      rw [← hq] at hc hu1 hu2
      have hrd := OI.get HO.out (b := B) rfl (i := q) (by rw [dn_len]; omega)
      have hbn := dn_bound H r j q
      obtain ⟨y, HY⟩ : ∃ y, Hid (y = (dn H r j).getD q 0) := ⟨_, rfl⟩
      rw [← HY.out] at hrd hbn
      have HST : Hid (dn H r (j + 1) = (dn H r j).set m (y + 1)) := by
        show (dn H r j).set (r - 1 - j) _ = _
        rw [show r - 1 - j = m by omega, HY.out, hq]
      obtain ⟨⟨u, hu⟩, hfz, ho⟩ := HO.out.putg (k := m) (by rw [dn_len]; omega) (y + 1)
      have HN : Hid (OI (wr.setCell ⟨B, m, none⟩ (.int .i64 (y + 1))) B (.slice (some ⟨B, 0, none⟩) (r + 1) (r + 1)) (dn H r (j + 1))) := by rw [HST.out]; exact ho
      have HBN : Hid (Below B w1 (wr.setCell ⟨B, m, none⟩ (.int .i64 (y + 1)))) := HB.out.setCell (Nat.le_refl _) _
      have hwy : IntKind.i64.wrap (y + 1) = y + 1 := by rw [IntKind.wrap_i64]; omega
      have hmr : (m : Int) < (r : Int) := by omega
      have hqr : (q : Int) < (r : Int) + 1 := by omega
      clear ho e1 hq
      go_wp2
      go_roundw
      case rel => exact ⟨m, j + 1, by omega, by go_num, HN, HBN⟩
      case measure => simp [intOf]
end Go.Proofs.Ytgengoffkoonfab
