import Derived.Test.YtjjepgkcgbbmhacDoorGNpo
import Derived.Deep.RegionHeldLaw
namespace Go.Proofs.YtjjepgkcgbbmhacDoor
open Go.RowKit Go.Maps
set_option maxRecDepth 100000
set_option linter.unusedVariables false
set_option linter.unusedSimpArgs false

theorem bad_cell {w : World} {g t : Nat} {k : Nat × Nat} (h : w.heap[g]? = some (.cells #[.string ⟨#[0]⟩, .string ⟨#[31]⟩, .string ⟨#[10]⟩, .string ⟨#[127]⟩, .string ⟨#[92]⟩, .string ⟨#[47, 47]⟩, .string ⟨#[128]⟩, .string ⟨#[194]⟩, .string ⟨#[255]⟩, .string ⟨#[192, 128]⟩, .string ⟨#[237, 160, 128]⟩, .string ⟨#[244, 144, 128, 128]⟩, .string ⟨#[226, 130]⟩, .string ⟨#[47, 46, 47]⟩] 9 k)) (ht : t < 14) : w.cell? ⟨g, t, none⟩ = some (.string ⟨(badL t).toArray⟩) := by
  unfold World.cell?
  simp only [h]
  match t, ht with
  | 0, _ => rfl | 1, _ => rfl | 2, _ => rfl | 3, _ => rfl | 4, _ => rfl | 5, _ => rfl | 6, _ => rfl | 7, _ => rfl | 8, _ => rfl | 9, _ => rfl | 10, _ => rfl | 11, _ => rfl | 12, _ => rfl | 13, _ => rfl
theorem good_cell {w : World} {g t : Nat} {k : Nat × Nat} (h : w.heap[g]? = some (.cells #[.string ⟨#[195, 169]⟩, .string ⟨#[239, 191, 189]⟩, .string ⟨#[32]⟩, .string ⟨#[226, 130, 172]⟩, .string ⟨#[240, 159, 152, 128]⟩, .string ⟨#[46, 46]⟩, .string ⟨#[126]⟩] 9 k)) (ht : t < 7) : w.cell? ⟨g, t, none⟩ = some (.string ⟨(goodL t).toArray⟩) := by
  unfold World.cell?
  simp only [h]
  match t, ht with
  | 0, _ => rfl | 1, _ => rfl | 2, _ => rfl | 3, _ => rfl | 4, _ => rfl | 5, _ => rfl | 6, _ => rfl
theorem good_dots {t : Nat} (ht : t < 7) : ((⟨(goodL t).toArray⟩ : ByteArray).toList == [46, 46]) = decide (t = 5) := by
  rw [Lib.toList_data]
  match t, ht with
  | 0, _ => rfl | 1, _ => rfl | 2, _ => rfl | 3, _ => rfl | 4, _ => rfl | 5, _ => rfl | 6, _ => rfl

theorem below_dr {B : Nat} {a w : World} (h : Below B a w) (n : Nat) : Below B a (w.drewN n) := ⟨h.1, h.2, h.3, h.4, h.5⟩

set_option maxHeartbeats 16000000 in
theorem parts_walk (v : Value) (Q : List (Value × List Int)) (at' spoil m : Int) (w : World) (h : PS w v Q) (hm : w.cell? ⟨0, 0, none⟩ = some (.int .i64 m)) (ha : -9223372036854775808 ≤ at' ∧ at' ≤ 9223372036854775807) (hp : -9223372036854775808 ≤ spoil ∧ spoil ≤ 9223372036854775807) :
    Calls Tryd.prog 3 #[v, .int .i64 at', .int .i64 spoil] w fun e w' => e = .returned (.bool true) ∧ Below w.heap.size w w' := by
  have HS := hide h
  obtain ⟨ca, ccap, rfl, c1, c2, -⟩ := h
  have h0 : 0 < w.heap.size := World.block_lt_of_cell? _ _ hm
  have HCK : Hid (∀ (t : ByteArray) (W : World) (E : Int), t.size ≤ 100000 → nmE t = E → Below w.heap.size w W → Calls Tryd.prog 6 #[.string t] W fun e w' => e = .returned (.int .i64 E) ∧ Below W.heap.size W w') := fun t W E hz hE hb => by
    have := check_any t m W (by omega) ((hb.cell (p := ⟨0, 0, none⟩) h0).trans hm)
    rw [hE] at this
    exact this
  clear hm
  by_cases hbig : (300 : Int) < (Q.length : Int)
  · go_enter Tryd.func3, Tryd.ntmps3
    go_wp2
    go_ret
    exact ⟨rfl, Below.refl _ _⟩
  have hq : Q.length ≤ 300 := by omega
  go_enter Tryd.func3, Tryd.ntmps3
  go_wp2
  go_loopw [7, 8] (fun t i wr => ∃ (j : Nat) (s : ByteArray), t = .string s ∧ i = .int .i64 (j : Int) ∧ j ≤ Q.length ∧ Hid (Nm s.data.toList ∧ s.size ≤ 1 + 202 * j) ∧ Hid (Below w.heap.size w wr)) (fun _ i _ => Q.length - (intOf i).toNat)
  case atStart => exact ⟨0, _, rfl, rfl, Nat.zero_le _, ⟨nm_a, by decide⟩, Below.refl _ _⟩
  case round =>
    obtain ⟨j, s, rfl, rfl, hj, HN, HB⟩ := hrel
    have hsz : s.size ≤ 60601 := by have := HN.out.2; omega
    have hs1z : s.size + 1 ≤ 9223372036854775807 := by omega
    by_cases hlt : j < Q.length
    · have hlt' : (j : Int) < (Q.length : Int) := by omega
      obtain ⟨ao', cap', hx, x1, x2, x3⟩ := HS.out.low HB.out
      simp only [Value.slice.injEq] at hx
      obtain ⟨rfl, -, rfl⟩ := hx
      obtain ⟨b0, o0, rfl, hbl, g0, hsb, hby⟩ := x3 j Q[j] (by simp [hlt])
      obtain ⟨pq, hpq⟩ : ∃ p, p = Q[j] := ⟨_, rfl⟩
      rw [← hpq] at g0 hsb hby
      obtain ⟨pv, pl⟩ := pq
      simp only at g0 hsb hby
      clear hpq
      have HPL := hide (plain_any pv pl wr hsb hby)
      have HBY := hide hby
      clear hsb hby x3 x1 x2
      go_wp2_with fail
      refine HPL.out.mono ?_
      rintro e w2 ⟨k, hk1, hk2, rfl, hb2⟩
      have HB2 := hide (HB.out.trans (hb2.mono HB.out.size))
      have hnm := plain_nm HBY.out hk1 hk2
      obtain ⟨ps, hps⟩ : ∃ ps, ps = strOfNums (plL pl k) := ⟨_, rfl⟩
      rw [← hps] at hnm ⊢
      have HNX : Hid (Nm ((s ++ ⟨#[47]⟩) ++ ps).data.toList ∧ ((s ++ ⟨#[47]⟩) ++ ps).size ≤ 1 + 202 * (j + 1)) := by
        have e : ((s ++ ⟨#[47]⟩) ++ ps).data.toList = s.data.toList ++ ([47] ++ ps.data.toList) := by rw [app_list, app_list, List.append_assoc]
        refine ⟨by rw [e]; exact HN.out.1.more hnm.1 hnm.2.2, ?_⟩
        rw [Lib.size_eq, e]
        have h1 := HN.out.2
        rw [Lib.size_eq] at h1
        have h2 := hnm.2.1
        simp only [List.length_append, List.length_cons, List.length_nil]
        omega
      have hps1 : ps.size ≤ 201 := by rw [Lib.size_eq]; exact hnm.2.1
      have hps2 : (s ++ ⟨#[47]⟩ : ByteArray).size + ps.size ≤ 9223372036854775807 := by rw [ByteArray.size_append]; show s.size + 1 + _ ≤ _; omega
      have hps3 : s.size + 1 + ps.size ≤ 9223372036854775807 := by omega
      clear hb2 hps hnm HPL
      go_wp2
      go_roundw
      case rel => exact ⟨j + 1, _, rfl, by go_num, by omega, HNX.out, HB2.out⟩
      case measure => simp [intOf]; omega
    · have hje : j = Q.length := by omega
      subst hje
      have hn := HN.out.1
      have hl7 : s.data.toList.length ≤ 60700 := by rw [← Lib.size_eq]; omega
      have hpos : 1 ≤ s.size := by rw [Lib.size_eq]; exact hn.pos
      have HR1 := hide (own_yes (ins_self hn) hl7)
      have HR2 := hide (slash_yes (ins_back hn) hl7)
      have HR3 := hide (dota_yes (ins_back hn) hl7)
      have HR4 := hide (dots_yes (ins_back hn) hl7)
      have HR5 := hide (slash_no (ins_front hn))
      have HR6 := hide (slashes_no (ins_back hn))
      have HR7 := hide (dot_no (ins_back hn))
      have HR8 := hide (dots_no (ins_front hn))
      have HR9 := hide (up_no (ins_back hn))
      have HNM := hide hn
      have hapz : ∀ (t : ByteArray), t.size ≤ 100 → (s ++ t).size ≤ 100000 ∧ (t ++ s).size ≤ 100000 := fun t ht => by
        constructor <;> (rw [ByteArray.size_append]; omega)
      have HAZ := hide hapz
      clear hn hapz HN
      go_wp2_with fail
      refine (HCK.out _ wr 0 (by omega) HR1.out HB.out).mono ?_
      rintro e w1 ⟨rfl, hb⟩
      have HB1 := hide (HB.out.trans (hb.mono HB.out.size))
      clear hb
      go_wp2_with fail
      refine (HCK.out _ w1 0 (HAZ.out _ (by decide)).1 HR2.out HB1.out).mono ?_
      rintro e w2 ⟨rfl, hb⟩
      have HB2 := hide (HB1.out.trans (hb.mono HB1.out.size))
      clear hb
      go_wp2_with fail
      refine (HCK.out _ w2 0 (HAZ.out _ (by decide)).1 HR3.out HB2.out).mono ?_
      rintro e w3 ⟨rfl, hb⟩
      have HB3 := hide (HB2.out.trans (hb.mono HB2.out.size))
      clear hb
      go_wp2_with fail
      refine (HCK.out _ w3 0 (HAZ.out _ (by decide)).1 HR4.out HB3.out).mono ?_
      rintro e w4 ⟨rfl, hb⟩
      have HB4 := hide (HB3.out.trans (hb.mono HB3.out.size))
      clear hb
      go_wp2_with fail
      refine (HCK.out _ w4 120 (HAZ.out _ (by decide)).2 HR5.out HB4.out).mono ?_
      rintro e w5 ⟨rfl, hb⟩
      have HB5 := hide (HB4.out.trans (hb.mono HB4.out.size))
      clear hb
      go_wp2_with fail
      refine (HCK.out _ w5 120 (HAZ.out _ (by decide)).1 HR6.out HB5.out).mono ?_
      rintro e w6 ⟨rfl, hb⟩
      have HB6 := hide (HB5.out.trans (hb.mono HB5.out.size))
      clear hb
      go_wp2_with fail
      refine (HCK.out _ w6 120 (HAZ.out _ (by decide)).1 HR7.out HB6.out).mono ?_
      rintro e w7 ⟨rfl, hb⟩
      have HB7 := hide (HB6.out.trans (hb.mono HB6.out.size))
      clear hb
      go_wp2_with fail
      refine (HCK.out _ w7 120 (HAZ.out _ (by decide)).2 HR8.out HB7.out).mono ?_
      rintro e w8 ⟨rfl, hb⟩
      have HB8 := hide (HB7.out.trans (hb.mono HB7.out.size))
      clear hb
      go_wp2_with fail
      refine (HCK.out _ w8 120 (HAZ.out _ (by decide)).1 HR9.out HB8.out).mono ?_
      rintro e w9 ⟨rfl, hb⟩
      have HB9 := hide (HB8.out.trans (hb.mono HB8.out.size))
      clear hb
      clear HR1 HR2 HR3 HR4 HR5 HR6 HR7 HR8 HR9
      have hs1 : (0 : Int) < (s.size : Int) + 1 := by omega
      obtain ⟨K, hK⟩ : ∃ K : Nat, at' % ((s.size : Int) + 1) = (K : Int) := ⟨(at' % ((s.size : Int) + 1)).toNat, by have := Int.emod_nonneg at' (show (s.size : Int) + 1 ≠ 0 by omega); omega⟩
      have hKs : K ≤ s.size := by have := Int.emod_lt_of_pos at' hs1; omega
      have HW1 := hide (fun w' => which_any at' ((s.size : Int) + 1) hs1 (by omega) w')
      rw [hK] at HW1
      obtain ⟨tb, htb⟩ : ∃ t : Nat, spoil % 14 = (t : Int) := ⟨(spoil % 14).toNat, by omega⟩
      obtain ⟨tg, htg⟩ : ∃ t : Nat, spoil % 7 = (t : Int) := ⟨(spoil % 7).toNat, by omega⟩
      have htb14 : tb < 14 := by omega
      have htg7 : tg < 7 := by omega
      have HW2 := hide (fun w' => which_any spoil 14 (by omega) (by omega) w')
      have HW3 := hide (fun w' => which_any spoil 7 (by omega) (by omega) w')
      rw [htb] at HW2
      rw [htg] at HW3
      clear hK htb htg hs1
      obtain ⟨wA, hwA⟩ : ∃ y, w9.alloc (.cells #[.string ⟨#[0]⟩, .string ⟨#[31]⟩, .string ⟨#[10]⟩, .string ⟨#[127]⟩, .string ⟨#[92]⟩, .string ⟨#[47, 47]⟩, .string ⟨#[128]⟩, .string ⟨#[194]⟩, .string ⟨#[255]⟩, .string ⟨#[192, 128]⟩, .string ⟨#[237, 160, 128]⟩, .string ⟨#[244, 144, 128, 128]⟩, .string ⟨#[226, 130]⟩, .string ⟨#[47, 46, 47]⟩] 9) = y := ⟨_, rfl⟩
      obtain ⟨wB, hwB⟩ : ∃ y, wA.alloc (.cells #[.string ⟨#[195, 169]⟩, .string ⟨#[239, 191, 189]⟩, .string ⟨#[32]⟩, .string ⟨#[226, 130, 172]⟩, .string ⟨#[240, 159, 152, 128]⟩, .string ⟨#[46, 46]⟩, .string ⟨#[126]⟩] 9) = y := ⟨_, rfl⟩
      have hA9 : wA.heap[w9.heap.size]? = some (.cells #[.string ⟨#[0]⟩, .string ⟨#[31]⟩, .string ⟨#[10]⟩, .string ⟨#[127]⟩, .string ⟨#[92]⟩, .string ⟨#[47, 47]⟩, .string ⟨#[128]⟩, .string ⟨#[194]⟩, .string ⟨#[255]⟩, .string ⟨#[192, 128]⟩, .string ⟨#[237, 160, 128]⟩, .string ⟨#[244, 144, 128, 128]⟩, .string ⟨#[226, 130]⟩, .string ⟨#[47, 46, 47]⟩] 9) := by rw [← hwA]; exact heap_alloc_new _ _
      have hAs : wA.heap.size = w9.heap.size + 1 := by rw [← hwA, size_alloc']
      have hBA : Below wA.heap.size wA wB := by rw [← hwB]; exact (Below.refl _ _).alloc (Nat.le_refl _) _
      have hcb := bad_cell ((hBA.block w9.heap.size (by omega)).trans hA9) htb14
      have hcg : wB.cell? ⟨wA.heap.size, tg, none⟩ = some (.string ⟨(goodL tg).toArray⟩) := good_cell (by rw [← hwB]; exact heap_alloc_new _ _) htg7
      have HBB : Hid (Below w.heap.size w wB) := by rw [← hwB, ← hwA]; exact (HB9.out.alloc HB9.out.size _).alloc (by rw [size_alloc']; have := HB9.out.size; omega) _
      have hsB : w9.heap.size < wB.heap.size ∧ wA.heap.size < wB.heap.size := by rw [← hwB, size_alloc', hAs]; omega
      have HNO := hide (bad_all htb14 (ins_mid (b := badL tb) HNM.out hKs))
      have HGQ := hide (good_dots htg7)
      have HYE : Hid (tg ≠ 5 → nmE (s.extract 0 K ++ ⟨(goodL tg).toArray⟩ ++ s.extract K s.size) = 0) := fun q => good_all htg7 q (ins_mid (b := goodL tg) HNM.out hKs) hl7
      have hbz : (badL tb).length ≤ 4 := by
        match tb, htb14 with
        | 0, _ => decide | 1, _ => decide | 2, _ => decide | 3, _ => decide | 4, _ => decide | 5, _ => decide | 6, _ => decide | 7, _ => decide | 8, _ => decide | 9, _ => decide | 10, _ => decide | 11, _ => decide | 12, _ => decide | 13, _ => decide
      have hgz : (goodL tg).length ≤ 4 := by
        match tg, htg7 with
        | 0, _ => decide | 1, _ => decide | 2, _ => decide | 3, _ => decide | 4, _ => decide | 5, _ => decide | 6, _ => decide
      obtain ⟨sb, hsb⟩ : ∃ sb : ByteArray, sb = ⟨(badL tb).toArray⟩ := ⟨_, rfl⟩
      obtain ⟨sg, hsg⟩ : ∃ sg : ByteArray, sg = ⟨(goodL tg).toArray⟩ := ⟨_, rfl⟩
      have hsbz : sb.size ≤ 4 := by rw [hsb]; exact hbz
      have hsgz : sg.size ≤ 4 := by rw [hsg]; exact hgz
      rw [← hsb] at hcb HNO
      rw [← hsg] at hcg HGQ HYE
      have hK0 : (0 : Int) ≤ (K : Int) := by omega
      have hK1 : (K : Int) ≤ (s.size : Int) := by omega
      have htb0 : (tb : Int) < 14 := by omega
      have htg0 : (tg : Int) < 7 := by omega
      rw [hAs] at hcg
      have hsB2 : w9.heap.size + 1 < wB.heap.size := by rw [← hAs]; exact hsB.2
      have hz1 : (s.extract 0 K).size = K := by rw [ByteArray.size_extract]; omega
      have hz2 : (s.extract K s.size).size = s.size - K := by rw [ByteArray.size_extract]; omega
      have HZ : Hid ((s.extract 0 K ++ sb ++ s.extract K s.size).size ≤ 100000 ∧ (s.extract 0 K ++ sg ++ s.extract K s.size).size ≤ 100000) := by
        constructor <;> (rw [ByteArray.size_append, ByteArray.size_append, hz1, hz2]; omega)
      obtain ⟨s1, h1e⟩ : ∃ t, s.extract 0 K = t := ⟨_, rfl⟩
      obtain ⟨s2, h2e⟩ : ∃ t, s.extract K s.size = t := ⟨_, rfl⟩
      rw [h1e] at hz1
      rw [h2e] at hz2
      rw [h1e, h2e] at HNO HYE HZ
      have hy1 : (s1.size : Int) + (sb.size : Int) ≤ 9223372036854775807 := by omega
      have hy2 : (s1.size : Int) + (sb.size : Int) + (s2.size : Int) ≤ 9223372036854775807 := by omega
      have hy3 : (s1.size : Int) + (sg.size : Int) ≤ 9223372036854775807 := by omega
      have hy4 : (s1.size : Int) + (sg.size : Int) + (s2.size : Int) ≤ 9223372036854775807 := by omega
      clear hsb hsg hbz hgz hA9 hBA hz1 hz2
      go_wp2_with fail
      refine (HW1.out _).mono ?_
      rintro e w10 ⟨rfl, h10⟩
      rw [h10]
      clear h10 w10
      go_wp2_with fail
      refine (HW2.out _).mono ?_
      rintro e w10 ⟨rfl, h10⟩
      rw [h10]
      clear h10 w10
      have HCB := hide (HCK.out _ wB.drew 120 HZ.out.1 HNO.out HBB.out.drew)
      go_wp2_with fail
      have hn1 : ¬ (9223372036854775807 : Int) < (s1.size : Int) + (sb.size : Int) := by omega
      have hn2 : ¬ (9223372036854775807 : Int) < ((s1 ++ sb).size : Int) + (s2.size : Int) := by rw [ByteArray.size_append]; omega
      have hn3 : ¬ (9223372036854775807 : Int) < (s1.size : Int) + (sb.size : Int) + (s2.size : Int) := by omega
      go_region_held_law (fun W => wB.heap.size ≤ W.heap.size) (first | exact Nat.le_refl _ | exact HS11.out)
        (first
          | (go_at_call 6; refine HCB.out.mono ?_; rintro e w11 ⟨rfl, hb11⟩; have HB11 := hide (HBB.out.drew.trans (hb11.mono HBB.out.size)); have HS11 : Hid (wB.heap.size ≤ w11.heap.size) := hb11.size; have HG11 := hide ((hb11.cell (p := ⟨w9.heap.size + 1, tg, none⟩) hsB2).trans hcg); clear hb11))
      clear hn1 hn2 hn3
      have hcg1 := HG11.out
      have HCG : Hid (tg ≠ 5 → Calls Tryd.prog 6 #[.string (s1 ++ sg ++ s2)] w11.drew fun e w' => e = .returned (.int .i64 0) ∧ Below w11.heap.size w11 w') := fun q => (HCK.out _ w11.drew 0 HZ.out.2 (HYE.out q) HB11.out.drew).mono (fun e w' ⟨a, b⟩ => ⟨a, (Below.refl _ _).drew.trans b⟩)
      clear HCB HG11 hcb hcg hwA hwB HNO
      go_wp2_with fail
      refine (HW3.out _).mono ?_
      rintro e w12 ⟨rfl, h12⟩
      rw [h12]
      clear h12 w12
      by_cases h5 : tg = 5
      · have hgq : (sg.toList == [46, 46]) = true := by rw [HGQ.out]; simp [h5]
        subst h5
        go_wp2
        go_quiet (fail)
        go_wp2
        go_ret
        exact ⟨rfl, below_dr HB11.out _⟩
      · have hgq : (sg.toList == [46, 46]) = false := by rw [HGQ.out]; simp [h5]
        have HCG2 := hide (HCG.out h5)
        go_wp2
        have hn1 : ¬ (9223372036854775807 : Int) < (s1.size : Int) + (sg.size : Int) := by omega
        have hn2 : ¬ (9223372036854775807 : Int) < ((s1 ++ sg).size : Int) + (s2.size : Int) := by rw [ByteArray.size_append]; omega
        have hn3 : ¬ (9223372036854775807 : Int) < (s1.size : Int) + (sg.size : Int) + (s2.size : Int) := by omega
        go_region_held_law (fun W => w11.heap.size ≤ W.heap.size) (first | exact Nat.le_refl _ | exact HS13.out)
          (first
            | (go_at_call 6; refine HCG2.out.mono ?_; rintro e w13 ⟨rfl, hb13⟩; have HB13 := hide (HB11.out.trans (hb13.mono HB11.out.size)); have HS13 : Hid (w11.heap.size ≤ w13.heap.size) := hb13.size; clear hb13))
        go_wp2
        go_ret
        exact ⟨rfl, HB13.out⟩
end Go.Proofs.YtjjepgkcgbbmhacDoor

