import Derived.Test.YthlbmpmbbdaboaaArr3
namespace Go.Proofs.Ythlbmpmbbdaboaa
open Go.RowKit Go.Maps
set_option maxRecDepth 20000

instance (l : List Int) : Decidable (Lens l) := by unfold Lens; exact inferInstance

def chkE (l : List Int) : Int := if 288 < l.length then 1 else if Lens l then 0 else 50
def chkS (l : List Int) : Int := if Lens l then shp l else 0

def okTo (l : List Int) (k : Nat) : Prop := ∀ i, i < k → 0 ≤ l.getD i 0 ∧ l.getD i 0 ≤ 15

theorem okTo_lens {l : List Int} (h : okTo l l.length) (h2 : l.length ≤ 288) : Lens l := by
  refine ⟨h2, fun x hx => ?_⟩
  obtain ⟨i, hi, rfl⟩ := List.getElem_of_mem hx
  have := h i hi
  rwa [show l.getD i 0 = l[i] by simp [hi]] at this

theorem okTo_succ {l : List Int} {k : Nat} (h : okTo l k) (hk : 0 ≤ l.getD k 0 ∧ l.getD k 0 ≤ 15) : okTo l (k + 1) := fun i hi => by
  by_cases e : i = k
  · subst e; exact hk
  · exact h i (by omega)

theorem not_lens {l : List Int} {k : Nat} (h : ¬ (0 ≤ l.getD k 0 ∧ l.getD k 0 ≤ 15)) : ¬ Lens l := fun hl => h (hl.at k)

theorem check_any (v : Value) (l : List Int) (w : World) (h : SI w v l) :
    Calls Try.prog 21 #[v] w fun e w' => e = .returned (.tuple #[.int .i64 (chkS l), .int .i64 (chkE l)]) ∧ Below w.heap.size w w' := by
  have HS := hide h
  obtain ⟨ao, cap, rfl, hlc, hcm⟩ := h.open
  clear h
  by_cases hlen : 288 < l.length
  · have hlen' : (288 : Int) < l.length := by omega
    have hn : ¬ Lens l := fun h => by have := h.1; omega
    have HE : Hid (chkE l = 1 ∧ chkS l = 0) := ⟨if_pos hlen, if_neg hn⟩
    clear hn
    go_enter Try.func21, Try.ntmps21
    go_wp2
    go_ret2
    rw [HE.out.1, HE.out.2]
    exact ⟨rfl, Below.refl _ _⟩
  have hlen' : ¬ (288 : Int) < l.length := by omega
  have HNL := hide hlen
  clear hlen
  go_enter Try.func21, Try.ntmps21
  go_wp2
  go_loopw [11] (fun i wr => ∃ k : Nat, k ≤ l.length ∧ i = .int .i64 k ∧ wr = w ∧ Hid (okTo l k)) (fun i _ => l.length - (intOf i).toNat)
  case atStart => exact ⟨0, Nat.zero_le _, rfl, rfl, fun i hi => by omega⟩
  case round =>
    obtain ⟨k, hk, rfl, rfl, HT⟩ := hrel
    by_cases hlt : k < l.length
    · have hlt' : (k : Int) < (l.length : Int) := by omega
      obtain ⟨b, o, rfl, hc⟩ := HS.out.get (Below.refl _ _) hlt
      obtain ⟨x, HX⟩ : ∃ x, Hid (x = l.getD k 0) := ⟨_, rfl⟩
      rw [← HX.out] at hc
      by_cases hb : 0 ≤ x ∧ x ≤ 15
      · have HN : Hid (okTo l (k + 1)) := okTo_succ HT.out (by rw [← HX.out]; exact hb)
        obtain ⟨b0, b1⟩ := hb
        have b0' : ¬ x < 0 := by omega
        have b1' : ¬ 15 < x := by omega
        clear HT
        go_wp2
        go_roundw
        case rel => exact ⟨k + 1, by omega, by go_num, by trivial, HN⟩
        case measure => simp [intOf]; omega
      · have hn : ¬ Lens l := not_lens (k := k) (by rw [← HX.out]; exact hb)
        have HE : Hid (chkE l = 50 ∧ chkS l = 0) := ⟨by unfold chkE; rw [if_neg HNL.out, if_neg hn], if_neg hn⟩
        clear hn
        by_cases b0 : x < 0
        · clear hb
          go_wp2
          go_ret2
          rw [HE.out.1, HE.out.2]
          exact ⟨rfl, Below.refl _ _⟩
        · have b1 : 15 < x := by omega
          clear hb
          go_wp2
          go_ret2
          rw [HE.out.1, HE.out.2]
          exact ⟨rfl, Below.refl _ _⟩
    · obtain rfl : k = l.length := by omega
      have hl : Lens l := okTo_lens HT.out (by have := HNL.out; omega)
      have HL := hide hl
      have HE : Hid (chkE l = 0 ∧ chkS l = shp l) := ⟨by unfold chkE; rw [if_neg HNL.out, if_pos hl], if_pos hl⟩
      have hlt' : ¬ (l.length : Int) < (l.length : Int) := by omega
      clear hl HT
      go_wp2_with fail
      refine (count_any _ l _ HS.out HL.out).mono ?_
      rintro e w1 ⟨rfl, hb1⟩
      have HB1 := hide hb1
      clear hb1
      go_wp2_with fail
      refine (shape_any l _ HL.out).mono ?_
      rintro e w2 ⟨rfl, hb2⟩
      have HB2 : Hid (Below wr.heap.size wr w2) := HB1.out.trans (hb2.mono HB1.out.size)
      clear hb2
      go_wp2
      go_ret2
      rw [HE.out.1, HE.out.2]
      exact ⟨rfl, HB2.out⟩

def cdE (l : List Int) : Int := if chkE l ≠ 0 then chkE l else if shp l = 3 then 51 else 0
def cdL (l : List Int) : List Int := if cdE l = 0 then wds l else []

theorem chkE_zero {l : List Int} (h : chkE l = 0) : Lens l ∧ chkS l = shp l := by
  unfold chkE at h
  by_cases h1 : 288 < l.length
  · rw [if_pos h1] at h; omega
  · rw [if_neg h1] at h
    by_cases h2 : Lens l
    · exact ⟨h2, if_pos h2⟩
    · rw [if_neg h2] at h; omega

theorem codes_any (v : Value) (l : List Int) (w : World) (h : SI w v l) :
    Calls Try.prog 16 #[v] w fun e w' => ∃ a c, e = .returned (.tuple #[.slice a (cdL l).length c, .int .i64 (cdE l)]) ∧ OI w' w.heap.size (.slice a (cdL l).length c) (cdL l) ∧ Below w.heap.size w w' := by
  have HS := hide h
  obtain ⟨ao, cap, rfl, hlc, hcm⟩ := h.open
  clear h
  by_cases h0 : chkE l = 0
  case neg =>
    have h1 : (chkE l == 0) = false := by simpa using h0
    have HE : Hid (cdE l = chkE l) := if_pos h0
    have HC : Hid (cdL l = []) := if_neg (by rw [HE.out]; exact h0)
    obtain ⟨q, HQ⟩ : ∃ q, Hid (q = chkE l) := ⟨_, rfl⟩
    obtain ⟨r, HR⟩ : ∃ q, Hid (q = chkS l) := ⟨_, rfl⟩
    rw [← HQ.out] at h0 h1 HE
    rw [HC.out, HE.out]
    go_enter Try.func16, Try.ntmps16
    go_wp2_with fail
    refine (check_any _ l _ HS.out).mono ?_
    rintro e w1 ⟨rfl, hb1⟩
    have HB := hide hb1
    clear hb1
    rw [← HQ.out, ← HR.out]
    go_wp2
    go_ret2
    exact ⟨none, 0, rfl, World.ownsRow_nil _ _ _ _, HB.out⟩
  obtain ⟨hl, hs⟩ := chkE_zero h0
  have HL := hide hl
  have h288 := hl.1
  have HR := hide hs
  have HQ := hide h0
  clear hl hs h0
  by_cases h3 : shp l = 3
  · have HE : Hid (cdE l = 51) := by show _ = _; unfold cdE; rw [if_neg (by have := HQ.out; simp [this]), if_pos h3]
    have HC : Hid (cdL l = []) := if_neg (by rw [HE.out]; decide)
    rw [HC.out, HE.out]
    go_enter Try.func16, Try.ntmps16
    go_wp2_with fail
    refine (check_any _ l _ HS.out).mono ?_
    rintro e w1 ⟨rfl, hb1⟩
    have HB := hide hb1
    clear hb1
    rw [HQ.out, HR.out, h3]
    go_wp2
    go_ret2
    exact ⟨none, 0, rfl, World.ownsRow_nil _ _ _ _, HB.out⟩
  · have HE : Hid (cdE l = 0) := by show _ = _; unfold cdE; rw [if_neg (by have := HQ.out; simp [this]), if_neg h3]
    have HC : Hid (cdL l = wds l) := if_pos HE.out
    obtain ⟨r, HR2⟩ : ∃ q, Hid (q = shp l) := ⟨_, rfl⟩
    rw [HC.out, HE.out, wds_len]
    rw [← HR2.out] at h3
    go_enter Try.func16, Try.ntmps16
    go_wp2_with fail
    refine (check_any _ l _ HS.out).mono ?_
    rintro e w1 ⟨rfl, hb1⟩
    have HB1 := hide hb1
    have HS1 := hide (HS.out.below hb1)
    clear hb1
    rw [HQ.out, HR.out, ← HR2.out]
    go_wp2_with fail
    refine (count_any _ l _ HS1.out HL.out).mono ?_
    rintro e w2 ⟨rfl, hb2⟩
    have HB2 := hide (HB1.out.trans (hb2.mono HB1.out.size))
    have HS2 := hide (HS1.out.below hb2)
    clear hb2
    go_wp2_with fail
    refine (firsts_any l _ HL.out).mono ?_
    rintro e w3 ⟨rfl, hb3⟩
    have HB3 := hide (HB2.out.trans (hb3.mono HB2.out.size))
    have HS3 := hide (HS2.out.below hb3)
    clear hb3
    go_wp2_with fail
    refine (words_any _ l _ HS3.out HL.out).mono ?_
    rintro e w4 ⟨a, c, rfl, ho, hb4⟩
    have HB4 := hide (HB3.out.trans (hb4.mono HB3.out.size))
    have HO := hide (ho.base HB3.out.size)
    clear hb4 ho
    go_wp2
    go_ret2
    exact ⟨a, c, rfl, HO.out, HB4.out⟩
end Go.Proofs.Ythlbmpmbbdaboaa
