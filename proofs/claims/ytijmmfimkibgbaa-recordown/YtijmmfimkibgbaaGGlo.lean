import Derived.Test.YtijmmfimkibgbaaGGcm
import Derived.Test.YtijmmfimkibgbaaGGen
namespace Go.Proofs.Ytijmmfimkibgbaa
open Go.RowKit Go.Maps
set_option maxRecDepth 20000
set_option linter.unusedVariables false
set_option linter.unusedSimpArgs false

/-- The local header at a place, in numbers. -/
def loN (d : List Int) (k : Nat) : Nat := (fld d (k + 26) 2).toNat
def loX (d : List Int) (k : Nat) : Nat := (fld d (k + 28) 2).toNat
def loG (d : List Int) (k : Nat) : Loc := { rdG d (k + 4) with name := strOfNums (sub d (k + 30) (loN d k)), extra := strOfNums (sub d (k + 30 + loN d k) (loX d k)) }

def Loc.zero : Loc := ⟨0, 0, 0, 0, 0, 0, 0, 0, ⟨#[]⟩, ⟨#[]⟩⟩

def loE (d : List Int) (at' : Int) : Int := if beE d at' 30 67324752 ≠ 0 then beE d at' 30 67324752 else if (d.length : Int) - at' - 30 < (loN d at'.toNat : Int) + loX d at'.toNat then 122 else 0

def loA (d : List Int) (at' : Int) : Loc := if loE d at' = 0 then loG d at'.toNat else Loc.zero

def loP (d : List Int) (at' : Int) : Int := if loE d at' = 0 then at' + 30 + loN d at'.toNat + loX d at'.toNat else 0

theorem lo_bad {d : List Int} {at' : Int} (h : loE d at' ≠ 0) : loA d at' = Loc.zero ∧ loP d at' = 0 := ⟨if_neg h, if_neg h⟩

theorem lo_good {d : List Int} {k : Nat} (h : loE d k = 0) : loA d k = loG d k ∧ loP d k = (k : Int) + 30 + loN d k + loX d k := ⟨if_pos h, if_pos h⟩

theorem rdgIn {d : List Int} {k n p : Nat} (h : p + 26 ≤ n) : rdG (sub d k n) p = rdG d (k + p) := by
  unfold rdG
  rw [fld_sub (by omega), fld_sub (by omega), fld_sub (by omega), fld_sub (by omega), fld_sub (by omega), fld_sub (by omega), fld_sub (by omega), fld_sub (by omega)]
  simp only [Nat.add_assoc]

theorem next2_short {D : List Int} {n x : Nat} (h : D.length < n + x) : (nextSt (nextSt ⟨D, 0, 0⟩ (n : Int)) (x : Int)).e = 20 := by
  by_cases h1 : n ≤ D.length
  · rw [(next_st (d := D) (p := 0) (n := n) (by omega)).1, next_short (by omega)]
  · rw [next_short (by omega), next_err (by omega)]

set_option maxHeartbeats 8000000 in
theorem getLocal_any (v : Value) (d : List Int) (at' : Int) (w : World) (h : SB w v d) (hB : Byt d) (h64 : Ok64 at') (hd : d.length ≤ 140737488355328) :
    Calls Try.prog 34 #[v, .int .i64 at'] w fun e w' => e = .returned (.tuple #[(loA d at').v, .int .i64 (loP d at'), .int .i64 (loE d at')]) ∧ Below w.heap.size w w' := by
  obtain ⟨ao, cap, rfl, q1, q2, q3⟩ := h.open11
  have HD := hide hd
  have HBy := hide hB
  obtain ⟨wb, hwb⟩ : ∃ wb, w.alloc (.cells #[.int .i64 0, .int .i64 0, .int .i64 0, .int .i64 0, .int .i64 0, .int .u32 0, .int .i64 0, .int .i64 0, .string ⟨#[]⟩, .string ⟨#[]⟩] 24) = wb := ⟨_, rfl⟩
  have HB : Hid (Below w.heap.size w wb) := by rw [← hwb]; exact (Below.refl _ _).alloc (Nat.le_refl _) _
  have HRB : Hid (wb.heap[w.heap.size]? = some (.cells #[.int .i64 0, .int .i64 0, .int .i64 0, .int .i64 0, .int .i64 0, .int .u32 0, .int .i64 0, .int .i64 0, .string ⟨#[]⟩, .string ⟨#[]⟩] 24 (0, 0))) := by rw [← hwb]; exact heap_alloc_new w _
  have HS : Hid (SB wb (.slice ao d.length cap) d) := SB.below h HB.out
  have HFA := hide (fieldsAt_any _ d at' 30 67324752 wb HS.out hB h64 hd (by omega) (by omega))
  obtain ⟨u0, u1⟩ := h64
  clear h q3 hB hd
  go_enter Try.func34, Try.ntmps34
  go_wp2_with fail
  refine HFA.out.mono ?_
  rintro e w1 hfa
  rcases hfa with ⟨hne, rfl, hb1⟩ | ⟨h0, g, rfl, hx⟩
  · have HE : Hid (loE d at' = beE d at' 30 67324752) := if_pos hne
    have HE2 := hide (lo_bad (d := d) (at' := at') (by rw [HE.out]; exact hne))
    obtain ⟨E, hE⟩ : ∃ E, E = beE d at' 30 67324752 := ⟨_, rfl⟩
    rw [← hE] at hne HE ⊢
    have hne' : (E != 0) = true := by simpa using hne
    have HR1 : Hid (w1.heap[w.heap.size]? = some (.cells #[.int .i64 0, .int .i64 0, .int .i64 0, .int .i64 0, .int .i64 0, .int .u32 0, .int .i64 0, .int .i64 0, .string ⟨#[]⟩, .string ⟨#[]⟩] 24 (0, 0))) := (hb1.block _ (Array.getElem?_eq_some_iff.1 HRB.out).1).trans HRB.out
    have HP := hide (put10 (x0 := .int .i64 0) (x1 := .int .i64 0) (x2 := .int .i64 0) (x3 := .int .i64 0) (x4 := .int .i64 0) (x5 := .int .u32 0) (x6 := .int .i64 0) (x7 := .int .i64 0) (x8 := .string ⟨#[]⟩) (x9 := .string ⟨#[]⟩) HR1.out)
    have HPB := hide (put10_below (x0 := .int .i64 0) (x1 := .int .i64 0) (x2 := .int .i64 0) (x3 := .int .i64 0) (x4 := .int .i64 0) (x5 := .int .u32 0) (x6 := .int .i64 0) (x7 := .int .i64 0) (x8 := .string ⟨#[]⟩) (x9 := .string ⟨#[]⟩) (HB.out.trans (hb1.mono HB.out.size)) (Nat.le_refl _))
    obtain ⟨c0, c1, c2, c3, c4, c5, c6, c7, c8, c9⟩ := box10 HR1.out
    have hfz := box_free HR1.out
    clear hb1 hwb hne hE
    go_wp2
    obtain ⟨z0, z1, z2, z3, z4, z5, z6, z7, z8, z9⟩ := box10 HP.out
    refine bodyPost_ret (v := .tuple #[.agg #[.int .i64 0, .int .i64 0, .int .i64 0, .int .i64 0, .int .i64 0, .int .u32 0, .int .i64 0, .int .i64 0, .string ⟨#[]⟩, .string ⟨#[]⟩], .int .i64 0, .int .i64 E]) (by simp [results, Try.results34, go_sem, z0, z1, z2, z3, z4, z5, z6, z7, z8, z9]) rfl ?_
    rw [HE2.out.1, HE2.out.2, HE.out]
    exact ⟨rfl, HPB.out⟩
  obtain ⟨k, rfl, hk, hsig⟩ := beE_ok h0
  have HH0 := hide h0
  have HX : Hid (Cx wb g (sub d k 30) 4 w1) := hx
  have HFL : Hid ((sub d k 30).length = 30) := sub_len hk
  have HGM := hide (getCommon_any HX.out (by rw [HFL.out]; omega) (byt_sub HBy.out k 30))
  rw [rdgIn (by omega), fld_sub (by omega), fld_sub (by omega)] at HGM
  obtain ⟨LV, hLV⟩ : ∃ V, V = rdG d (k + 4) := ⟨_, rfl⟩
  have HLV : Hid (rdG d (k + 4) = LV) := hLV.symm
  obtain ⟨n, hn⟩ : ∃ n : Nat, fld d (k + (4 + 22)) 2 = (n : Int) := ⟨(fld d (k + (4 + 22)) 2).toNat, by have := fld2 HBy.out (k + (4 + 22)); omega⟩
  obtain ⟨x, hx'⟩ : ∃ n : Nat, fld d (k + (4 + 24)) 2 = (n : Int) := ⟨(fld d (k + (4 + 24)) 2).toNat, by have := fld2 HBy.out (k + (4 + 24)); omega⟩
  have hn1 : n ≤ 65535 := by have := fld2 HBy.out (k + (4 + 22)); omega
  have hx1 : x ≤ 65535 := by have := fld2 HBy.out (k + (4 + 24)); omega
  have HNN : Hid (loN d k = n ∧ loX d k = x) := by
    show _ ∧ _
    unfold loN loX
    rw [show k + 26 = k + (4 + 22) by omega, show k + 28 = k + (4 + 24) by omega, hn, hx']
    exact ⟨rfl, rfl⟩
  rw [hn, hx', HLV.out] at HGM
  obtain ⟨e0, e1, e2, e3, e4, e5, e6, e7, s8, s9⟩ := LV
  have HS8 : Hid (s8 = ⟨#[]⟩ ∧ s9 = ⟨#[]⟩) := by
    have h1 := congrArg Loc.name hLV
    have h2 := congrArg Loc.extra hLV
    exact ⟨h1, h2⟩
  obtain ⟨rfl, rfl⟩ := HS8.out
  simp only [Loc.v, Loc.cs] at HGM
  clear hx h0 hsig hLV hn hx' hwb HFA
  go_wp2_with fail
  refine HGM.out.mono ?_
  rintro e w2 ⟨rfl, hx2, hs2⟩
  obtain ⟨c, hc⟩ : ∃ c, w2.heap.size = c := ⟨_, rfl⟩
  obtain ⟨w3, hw3⟩ : ∃ x, w2.alloc (.cells #[.int .i64 e0, .int .i64 e1, .int .i64 e2, .int .i64 e3, .int .i64 e4, .int .u32 e5, .int .i64 e6, .int .i64 e7, .string ⟨#[]⟩, .string ⟨#[]⟩] 24) = x := ⟨_, rfl⟩
  have HB3 : Hid (Below w.heap.size w w3) := by rw [← hw3]; exact (HB.out.trans (hx2.bel.mono HB.out.size)).alloc (by have := hx2.bel.size; have := HB.out.size; omega) _
  have HBW3 : Hid (Below wb.heap.size wb w3) := by rw [← hw3]; exact hx2.bel.alloc hx2.bel.size _
  have HBX3 : Hid (w3.heap[c]? = some (.cells #[.int .i64 e0, .int .i64 e1, .int .i64 e2, .int .i64 e3, .int .i64 e4, .int .u32 e5, .int .i64 e6, .int .i64 e7, .string ⟨#[]⟩, .string ⟨#[]⟩] 24 (0, 0))) := by rw [← hw3, ← hc]; exact heap_alloc_new _ _
  have HR3 : Hid (w3.heap[w.heap.size]? = some (.cells #[.int .i64 0, .int .i64 0, .int .i64 0, .int .i64 0, .int .i64 0, .int .u32 0, .int .i64 0, .int .i64 0, .string ⟨#[]⟩, .string ⟨#[]⟩] 24 (0, 0))) := (HBW3.out.block _ (Array.getElem?_eq_some_iff.1 HRB.out).1).trans HRB.out
  have HWC : Hid (w.heap.size < c) := by show _ < _; rw [← hc]; have := (Array.getElem?_eq_some_iff.1 HRB.out).1; have := hx2.bel.size; omega
  obtain ⟨j, hj⟩ : ∃ j, j = k + 30 := ⟨_, rfl⟩
  have ej : (k : Int) + 30 = (j : Int) := by omega
  have HJ := hide hj
  have hjd : j ≤ d.length := by omega
  obtain ⟨t, ht⟩ : ∃ t, t = n + x := ⟨_, rfl⟩
  have et : (n : Int) + (x : Int) = (t : Int) := by omega
  have HT := hide ht
  have ht1 : t ≤ 131070 := by omega
  have HTX := hide (textsAt_any _ d j t w3 (SB.below HS.out HBW3.out) HBy.out hjd HD.out (by omega))
  have HW3 := hide hw3
  have HCC := hide hc
  clear hx2 hs2 HGM HX HFL hj ht HBW3 hk hw3 hc
  go_wp2_with fail
  rw [HW3.out, HCC.out]
  refine HTX.out.mono ?_
  rintro e w4 ⟨gt, rfl, hcx⟩
  have HY := hide hcx.cy
  have HB4 : Hid (Below w.heap.size w w4) := HB3.out.trans (hcx.bel.mono HB3.out.size)
  have HBX4 : Hid (w4.heap[c]? = some (.cells #[.int .i64 e0, .int .i64 e1, .int .i64 e2, .int .i64 e3, .int .i64 e4, .int .u32 e5, .int .i64 e6, .int .i64 e7, .string ⟨#[]⟩, .string ⟨#[]⟩] 24 (0, 0))) := (hcx.bel.block _ (Array.getElem?_eq_some_iff.1 HBX3.out).1).trans HBX3.out
  have HR4 : Hid (w4.heap[w.heap.size]? = some (.cells #[.int .i64 0, .int .i64 0, .int .i64 0, .int .i64 0, .int .i64 0, .int .u32 0, .int .i64 0, .int .i64 0, .string ⟨#[]⟩, .string ⟨#[]⟩] 24 (0, 0))) := (hcx.bel.block _ (Array.getElem?_eq_some_iff.1 HR3.out).1).trans HR3.out
  have HGT : Hid (w3.heap.size ≤ gt) := hcx.g0
  have HCL : Hid (c < w3.heap.size) := (Array.getElem?_eq_some_iff.1 HBX3.out).1
  have HA3 : Hid (w.heap.size ≤ w3.heap.size) := HB3.out.size
  clear hcx HTX HW3 HCC HB3 HBX3 HR3
  go_wp2_with fail
  refine (ytext_any HY.out (n : Int)).mono ?_
  rintro e w5 ⟨rfl, hy, ht⟩
  obtain ⟨S1, hS1⟩ : ∃ S, S = strOfNums (nextL ⟨sub d j t, 0, 0⟩ (n : Int)) := ⟨_, rfl⟩
  rw [← hS1]
  have HSS1 := hide hS1
  have hbx : w5.heap[c]? = some (.cells #[.int .i64 e0, .int .i64 e1, .int .i64 e2, .int .i64 e3, .int .i64 e4, .int .u32 e5, .int .i64 e6, .int .i64 e7, .string ⟨#[]⟩, .string ⟨#[]⟩] 24 (0, 0)) := (ht.2 c (Array.getElem?_eq_some_iff.1 HBX4.out).1 (by have := HCL.out; have := HGT.out; omega)).trans HBX4.out
  have hr5 : w5.heap[w.heap.size]? = some (.cells #[.int .i64 0, .int .i64 0, .int .i64 0, .int .i64 0, .int .i64 0, .int .u32 0, .int .i64 0, .int .i64 0, .string ⟨#[]⟩, .string ⟨#[]⟩] 24 (0, 0)) := (ht.2 _ (Array.getElem?_eq_some_iff.1 HR4.out).1 (by have := HWC.out; have := HCL.out; have := HGT.out; omega)).trans HR4.out
  have hb5 : Below w.heap.size w w5 := HB4.out.trans (ht.1.mono HA3.out)
  obtain ⟨v5, hv5⟩ : ∃ x, w5.setCell ⟨c, 8, none⟩ (.string S1) = x := ⟨_, rfl⟩
  have HB5 : Hid (Below w.heap.size w v5) := by rw [← hv5]; exact hb5.setCell (p := ⟨c, 8, none⟩) (Nat.le_of_lt HWC.out) _
  have HY5 : Hid (Cy w3.heap.size gt (nextSt ⟨sub d j t, 0, 0⟩ (n : Int)) v5) := by rw [← hv5]; exact hy.put HCL.out 8 _
  have HBX5 : Hid (v5.heap[c]? = some (.cells #[.int .i64 e0, .int .i64 e1, .int .i64 e2, .int .i64 e3, .int .i64 e4, .int .u32 e5, .int .i64 e6, .int .i64 e7, .string S1, .string ⟨#[]⟩] 24 (0, 0))) := by rw [← hv5]; exact (set10 hbx).2.2.2.2.2.2.2.2.1 _
  have HR5 : Hid (v5.heap[w.heap.size]? = some (.cells #[.int .i64 0, .int .i64 0, .int .i64 0, .int .i64 0, .int .i64 0, .int .u32 0, .int .i64 0, .int .i64 0, .string ⟨#[]⟩, .string ⟨#[]⟩] 24 (0, 0))) := by rw [← hv5]; exact (setCell_others _ _ _ _ _ (Nat.ne_of_lt HWC.out)).trans hr5
  have hci := (box10 hbx).2.2.2.2.2.2.2.2.1
  have hfz := box_free hbx
  clear hy ht hbx hr5 hb5 HY HB4 HBX4 HR4 hS1
  go_wp2_with fail
  clear hci hfz hv5
  refine (ytext_any HY5.out (x : Int)).mono ?_
  rintro e w6 ⟨rfl, hy, ht⟩
  obtain ⟨S2, hS2⟩ : ∃ S, S = strOfNums (nextL (nextSt ⟨sub d j t, 0, 0⟩ (n : Int)) (x : Int)) := ⟨_, rfl⟩
  rw [← hS2]
  have HSS2 := hide hS2
  have hbx : w6.heap[c]? = some (.cells #[.int .i64 e0, .int .i64 e1, .int .i64 e2, .int .i64 e3, .int .i64 e4, .int .u32 e5, .int .i64 e6, .int .i64 e7, .string S1, .string ⟨#[]⟩] 24 (0, 0)) := (ht.2 c (Array.getElem?_eq_some_iff.1 HBX5.out).1 (by have := HCL.out; have := HGT.out; omega)).trans HBX5.out
  have hr6 : w6.heap[w.heap.size]? = some (.cells #[.int .i64 0, .int .i64 0, .int .i64 0, .int .i64 0, .int .i64 0, .int .u32 0, .int .i64 0, .int .i64 0, .string ⟨#[]⟩, .string ⟨#[]⟩] 24 (0, 0)) := (ht.2 _ (Array.getElem?_eq_some_iff.1 HR5.out).1 (by have := HWC.out; have := HCL.out; have := HGT.out; omega)).trans HR5.out
  have hb6 : Below w.heap.size w w6 := HB5.out.trans (ht.1.mono HA3.out)
  obtain ⟨v6, hv6⟩ : ∃ x, w6.setCell ⟨c, 9, none⟩ (.string S2) = x := ⟨_, rfl⟩
  have HB9 : Hid (Below w.heap.size w v6) := by rw [← hv6]; exact hb6.setCell (p := ⟨c, 9, none⟩) (Nat.le_of_lt HWC.out) _
  have HY9 : Hid (Cy w3.heap.size gt (nextSt (nextSt ⟨sub d j t, 0, 0⟩ (n : Int)) (x : Int)) v6) := by rw [← hv6]; exact hy.put HCL.out 9 _
  have HBX9 : Hid (v6.heap[c]? = some (.cells #[.int .i64 e0, .int .i64 e1, .int .i64 e2, .int .i64 e3, .int .i64 e4, .int .u32 e5, .int .i64 e6, .int .i64 e7, .string S1, .string S2] 24 (0, 0))) := by rw [← hv6]; exact (set10 hbx).2.2.2.2.2.2.2.2.2 _
  have HR9 : Hid (v6.heap[w.heap.size]? = some (.cells #[.int .i64 0, .int .i64 0, .int .i64 0, .int .i64 0, .int .i64 0, .int .u32 0, .int .i64 0, .int .i64 0, .string ⟨#[]⟩, .string ⟨#[]⟩] 24 (0, 0))) := by rw [← hv6]; exact (setCell_others _ _ _ _ _ (Nat.ne_of_lt HWC.out)).trans hr6
  have hci := (box10 hbx).2.2.2.2.2.2.2.2.2
  have hfz := box_free hbx
  clear hy ht hbx hr6 hb6 HY5 HB5 HBX5 HR5 hS2
  by_cases hful : j + t ≤ d.length
  · have HLD : Hid ((sub d j t).length = t) := sub_len hful
    obtain ⟨s1, s2⟩ := next_st (d := sub d j t) (p := 0) (n := n) (by rw [HLD.out]; omega)
    rw [s1] at HY9 HSS2
    rw [Nat.zero_add] at HY9 HSS2
    obtain ⟨s3, s4⟩ := next_st (d := sub d j t) (p := n) (n := x) (by rw [HLD.out]; omega)
    rw [s3] at HY9
    rw [s4] at HSS2
    rw [s2] at HSS1
    rw [← HT.out] at HY9
    have HE0 : Hid (loE d k = 0) := by
      show _ = _
      unfold loE
      rw [if_neg (by rw [HH0.out]; simp), if_neg]
      rw [Int.toNat_natCast, HNN.out.1, HNN.out.2]
      have := HJ.out
      omega
    have HG := hide (lo_good HE0.out)
    obtain ⟨r, hr⟩ : ∃ r, r = j + t := ⟨_, rfl⟩
    have er : (j : Int) + (t : Int) = (r : Int) := by omega
    have hrd : r ≤ d.length := by omega
    have HAV : Hid ((loA d k).v = .agg #[.int .i64 e0, .int .i64 e1, .int .i64 e2, .int .i64 e3, .int .i64 e4, .int .u32 e5, .int .i64 e6, .int .i64 e7, .string S1, .string S2]) := by
      show _ = _
      rw [HG.out.1]
      unfold loG
      rw [HLV.out, HNN.out.1, HNN.out.2, ← HJ.out, HSS1.out, HSS2.out, sub_sub (by have := HT.out; omega), sub_sub (by have := HT.out; omega)]
      rfl
    have HPV : Hid (loP d k = (r : Int)) := by
      show _ = _
      rw [HG.out.2, HNN.out.1, HNN.out.2]
      omega
    have HED := HD.out
    clear s1 s2 s3 s4 hr et ht1
    go_wp2_with fail
    refine (err_any HY9.out.cu).mono ?_
    rintro e w10 ⟨rfl, rfl⟩
    have HAT : Hid (Calls Try.prog 29 #[.pointer (some ⟨gt, 0, none⟩)] w10.drew fun e w' => e = .returned (.int .i64 (t : Int)) ∧ w' = w10.drew) := at_any (st := ⟨sub d j t, t, 0⟩) (HY9.out.cu.drewN 1)
    obtain ⟨b0, b1, b2, b3, b4, b5, b6, b7, b8, b9⟩ := box10 HBX9.out
    obtain ⟨r0, r1, r2, r3, r4, r5, r6, r7, r8, r9⟩ := box10 HR9.out
    have hfb := box_free HR9.out
    have HP := hide (put10d (x0 := .int .i64 e0) (x1 := .int .i64 e1) (x2 := .int .i64 e2) (x3 := .int .i64 e3) (x4 := .int .i64 e4) (x5 := .int .u32 e5) (x6 := .int .i64 e6) (x7 := .int .i64 e7) (x8 := .string S1) (x9 := .string S2) HR9.out)
    have HPB := hide (put10d_below (x0 := .int .i64 e0) (x1 := .int .i64 e1) (x2 := .int .i64 e2) (x3 := .int .i64 e3) (x4 := .int .i64 e4) (x5 := .int .u32 e5) (x6 := .int .i64 e6) (x7 := .int .i64 e7) (x8 := .string S1) (x9 := .string S2) HB9.out (Nat.le_refl _))
    have ew1 : IntKind.i64.wrap (j : Int) = (j : Int) := by rw [IntKind.wrap_i64]; omega
    have ew3 : IntKind.i64.wrap (r : Int) = (r : Int) := by rw [IntKind.wrap_i64]; omega
    clear hci hfz hv6
    go_wp2
    go_region_with (go_at_call 29; with_reducible refine HAT.out.mono ?_; rintro e w11 ⟨rfl, rfl⟩)
    all_goals (
      go_simp
      go_wp2
      obtain ⟨z0, z1, z2, z3, z4, z5, z6, z7, z8, z9⟩ := box10 HP.out
      refine bodyPost_ret (v := .tuple #[.agg #[.int .i64 e0, .int .i64 e1, .int .i64 e2, .int .i64 e3, .int .i64 e4, .int .u32 e5, .int .i64 e6, .int .i64 e7, .string S1, .string S2], .int .i64 (r : Int), .int .i64 0]) (by simp [results, Try.results34, go_sem, z0, z1, z2, z3, z4, z5, z6, z7, z8, z9]) rfl ?_
      rw [HAV.out, HPV.out, HE0.out]
      exact ⟨rfl, HPB.out⟩)
  · have HE0 : Hid (loE d k = 122) := by
      show _ = _
      unfold loE
      rw [if_neg (by rw [HH0.out]; simp), if_pos]
      rw [Int.toNat_natCast, HNN.out.1, HNN.out.2]
      have := HJ.out
      omega
    have HBAD := hide (lo_bad (d := d) (at' := k) (by rw [HE0.out]; omega))
    have hls : (sub d j t).length < n + x := by unfold sub; rw [List.length_take, List.length_drop]; omega
    have HE20 := hide (next2_short hls)
    have HP := hide (put10 (x0 := .int .i64 0) (x1 := .int .i64 0) (x2 := .int .i64 0) (x3 := .int .i64 0) (x4 := .int .i64 0) (x5 := .int .u32 0) (x6 := .int .i64 0) (x7 := .int .i64 0) (x8 := .string ⟨#[]⟩) (x9 := .string ⟨#[]⟩) HR9.out)
    have HPB := hide (put10_below (x0 := .int .i64 0) (x1 := .int .i64 0) (x2 := .int .i64 0) (x3 := .int .i64 0) (x4 := .int .i64 0) (x5 := .int .u32 0) (x6 := .int .i64 0) (x7 := .int .i64 0) (x8 := .string ⟨#[]⟩) (x9 := .string ⟨#[]⟩) HB9.out (Nat.le_refl _))
    clear hls
    go_wp2_with fail
    refine (err_any HY9.out.cu).mono ?_
    rintro e w10 ⟨rfl, rfl⟩
    rw [HE20.out]
    obtain ⟨r0, r1, r2, r3, r4, r5, r6, r7, r8, r9⟩ := box10 HR9.out
    have hfb := box_free HR9.out
    clear hci hfz hv6
    go_wp2
    obtain ⟨z0, z1, z2, z3, z4, z5, z6, z7, z8, z9⟩ := box10 HP.out
    refine bodyPost_ret (v := .tuple #[.agg #[.int .i64 0, .int .i64 0, .int .i64 0, .int .i64 0, .int .i64 0, .int .u32 0, .int .i64 0, .int .i64 0, .string ⟨#[]⟩, .string ⟨#[]⟩], .int .i64 0, .int .i64 122]) (by simp [results, Try.results34, go_sem, z0, z1, z2, z3, z4, z5, z6, z7, z8, z9]) rfl ?_
    rw [HBAD.out.1, HBAD.out.2, HE0.out]
    exact ⟨rfl, HPB.out⟩
end Go.Proofs.Ytijmmfimkibgbaa

