import Derived.Test.YtjmjjjpanioifaaGVlf
import Derived.Test.YtjmjjjpanioifaaGRe
namespace Go.Proofs.Ytjmjjjpanioifaa
open Go.RowKit Go.Maps
set_option maxRecDepth 20000
set_option linter.unusedVariables false
set_option linter.unusedSimpArgs false

structure CFit (c : Cen) : Prop where
  loc : fitI (loI c.loc)
  made : w16 c.made = true
  disk : w16 c.disk = true
  internal : w16 c.internal = true
  external : w32 c.external = true
  at' : w32 c.at' = true
  comment : c.comment.size ≤ 65535

theorem fit_ce {c : Cen} : fitI (ceI c) ↔ CFit c := by
  refine ⟨fun h => ⟨fit_lo.2 (fun i hi => h i (by simp [ceI, hi])), w16_iff.2 (h (.num c.made 2) (by simp [ceI])), w16_iff.2 (h (.num c.disk 2) (by simp [ceI])), w16_iff.2 (h (.num c.internal 2) (by simp [ceI])), w32_iff.2 (h (.num c.external 4) (by simp [ceI])), w32_iff.2 (h (.num c.at' 4) (by simp [ceI])), wsz_iff.2 (h (.num c.comment.size 2) (by simp [ceI]))⟩, fun h i hi => ?_⟩
  simp only [ceI, List.mem_cons, List.mem_append, List.not_mem_nil, or_false] at hi
  rcases hi with rfl | rfl | hi | rfl | rfl | rfl | rfl | rfl | rfl | rfl | rfl
  · show ¬ wide _ _; unfold wide; omega
  · exact w16_iff.1 h.made
  · exact fit_lo.1 h.loc i hi
  · exact wsz_iff.1 h.comment
  · exact w16_iff.1 h.disk
  · exact w16_iff.1 h.internal
  · exact w32_iff.1 h.external
  · exact w32_iff.1 h.at'
  · exact fun h => h
  · exact fun h => h
  · exact fun h => h

set_option maxHeartbeats 16000000 in
theorem vputCentral_any (l : Cen) (ok : l.Ok) (w : World) :
    Calls Try.prog 37 #[l.v] w fun e w' => ∃ a c, e = .returned (.tuple #[.slice a (puL (ceI l)).length c, .int .i64 (puE (ceI l))]) ∧ OB w' w.heap.size (.slice a (puL (ceI l)).length c) (puL (ceI l)) ∧ Below w.heap.size w w' := by
  obtain ⟨wb, hwb⟩ : ∃ wb, w.alloc (.cells l.cs 28) = wb := ⟨_, rfl⟩
  have HB : Hid (Below w.heap.size w wb) := by rw [← hwb]; exact (Below.refl _ _).alloc (Nat.le_refl _) _
  have HN : Hid (wb.heap[w.heap.size]? = some (.cells l.cs 28 (0, 0))) := by rw [← hwb]; exact heap_alloc_new w _
  obtain ⟨e, he⟩ : ∃ e, e = puE (ceI l) := ⟨_, rfl⟩
  obtain ⟨R, hR⟩ : ∃ R, R = puL (ceI l) := ⟨_, rfl⟩
  rw [← he, ← hR]
  have HF : Hid (fitI (ceI l) ↔ CFit l) := fit_ce
  have xc := ok.comment
  have xl := ok.loc
  obtain ⟨lc, a10, a11, a12, a13, a14, a15⟩ := l
  obtain ⟨lv, hlv⟩ : ∃ lv, lv = lc := ⟨_, rfl⟩
  have HKL : Hid (lv.Ok) := by rw [hlv]; exact xl
  obtain ⟨I, hI⟩ : ∃ I, I = ceI ⟨lc, a10, a11, a12, a13, a14, a15⟩ := ⟨_, rfl⟩
  have HI := hide hI
  rw [← hI] at he hR HF
  have HFL : Hid (CFit ⟨lc, a10, a11, a12, a13, a14, a15⟩ ↔ CFit ⟨lv, a10, a11, a12, a13, a14, a15⟩) := by rw [hlv]; exact Iff.rfl
  have HLF : Hid (fitI (loI lv) → LFit lv) := fun h => (fit_lc HKL.out).1 (fit_lo.1 h)
  simp only at xc
  cases lc with
  | mk a0 a1 a2 a3 a4 a5 a6 a7 a8 a9 =>
  simp only [Cen.cs] at hwb HN
  have HV : Hid (lv.v = .agg #[.int .i64 a0, .int .i64 a1, .int .i64 a2, .int .i64 a3, .int .i64 a4, .int .u32 a5, .int .i64 a6, .int .i64 a7, .string a8, .string a9]) := by rw [hlv]; rfl
  have H89 : Hid (lv.name = a8 ∧ lv.extra = a9) := by rw [hlv]; exact ⟨rfl, rfl⟩
  have HRW : Hid (rowI I = ((((((((((((([] ++ bytesLE 33639248 4) ++ bytesLE a10 2) ++ shB lv) ++ bytesLE a8.size 2) ++ bytesLE a9.size 2) ++ bytesLE a15.size 2) ++ bytesLE a11 2) ++ bytesLE a12 2) ++ bytesLE a13 4) ++ bytesLE a14 4) ++ strL a8) ++ strL a9) ++ strL a15)) := by
    show _ = _
    rw [hI, hlv]
    simp [ceI, lcI, rowI, itB, shB, List.append_assoc]
  simp only [Cen.v, Cen.cs]
  obtain ⟨c0, c1, c2, c3, c4, c5, c6, c7, c8, c9, c10, c11, c12, c13, c14, c15⟩ := box16 HN.out
  have HLC := hide (vlocalFits_any lv HKL.out wb)
  clear ok xl hlv hI
  by_cases pl : fitI (loI lv)
  case neg =>
    have hdl : decide (fitI (loI lv)) = false := decide_eq_false pl
    have hf : ¬ fitI I := fun h => pl (HFL.out.1 (HF.out.1 h)).loc
    have HE : Hid (e = 124) := by show _ = _; rw [he]; exact if_neg hf
    have HR : Hid (R = []) := by show _ = _; rw [hR]; exact if_neg hf
    clear hf he hR HF HFL HLF
    go_enter Try.func37, Try.ntmps37
    go_wp2_with fail
    rw [← HV.out]
    refine HLC.out.mono ?_
    rintro e1 w1 ⟨rfl, hb1⟩
    rw [hdl]
    have HN1 : Hid (w1.heap[w.heap.size]? = some (.cells #[.int .i64 a0, .int .i64 a1, .int .i64 a2, .int .i64 a3, .int .i64 a4, .int .u32 a5, .int .i64 a6, .int .i64 a7, .string a8, .string a9, .int .i64 a10, .int .i64 a11, .int .i64 a12, .int .i64 a13, .int .i64 a14, .string a15] 28 (0, 0))) := (hb1.block _ (Array.getElem?_eq_some_iff.1 HN.out).1).trans HN.out
    have HBB : Hid (Below w.heap.size w w1) := HB.out.trans (hb1.mono HB.out.size)
    clear c0 c1 c2 c3 c4 c5 c6 c7 c8 c9 c10 c11 c12 c13 c14 c15 hb1 hwb hdl
    obtain ⟨c0, c1, c2, c3, c4, c5, c6, c7, c8, c9, c10, c11, c12, c13, c14, c15⟩ := box16 HN1.out
    clear c0 c1 c2 c3 c4 c5 c6 c7 c8 c9
    go_wp2_with fail
    refine (vis16_any a10 _).mono ?_
    rintro e2 wv0 ⟨rfl, rfl⟩
    go_wp2_with fail
    refine (vis16_any a11 _).mono ?_
    rintro e3 wv1 ⟨rfl, rfl⟩
    go_wp2_with fail
    refine (vis16_any a12 _).mono ?_
    rintro e4 wv2 ⟨rfl, rfl⟩
    go_wp2_with fail
    refine (vis32_any a13 _).mono ?_
    rintro e5 wv3 ⟨rfl, rfl⟩
    go_wp2_with fail
    refine (vis32_any a14 _).mono ?_
    rintro e6 wv4 ⟨rfl, rfl⟩
    go_wp2
    go_ret2
    rw [HE.out, HR.out]
    exact ⟨none, 0, rfl, World.ownsRow_nil _ _ _ _, HBB.out⟩
  case pos =>
  have hdl : decide (fitI (loI lv)) = true := decide_eq_true pl
  by_cases p10 : w16 a10 = true
  case neg =>
    have n10 : w16 a10 = false := by simpa using p10
    have hf : ¬ fitI I := fun h => p10 (HFL.out.1 (HF.out.1 h)).made
    have HE : Hid (e = 124) := by show _ = _; rw [he]; exact if_neg hf
    have HR : Hid (R = []) := by show _ = _; rw [hR]; exact if_neg hf
    clear hf he hR HF HFL HLF
    go_enter Try.func37, Try.ntmps37
    go_wp2_with fail
    rw [← HV.out]
    refine HLC.out.mono ?_
    rintro e1 w1 ⟨rfl, hb1⟩
    rw [hdl]
    have HN1 : Hid (w1.heap[w.heap.size]? = some (.cells #[.int .i64 a0, .int .i64 a1, .int .i64 a2, .int .i64 a3, .int .i64 a4, .int .u32 a5, .int .i64 a6, .int .i64 a7, .string a8, .string a9, .int .i64 a10, .int .i64 a11, .int .i64 a12, .int .i64 a13, .int .i64 a14, .string a15] 28 (0, 0))) := (hb1.block _ (Array.getElem?_eq_some_iff.1 HN.out).1).trans HN.out
    have HBB : Hid (Below w.heap.size w w1) := HB.out.trans (hb1.mono HB.out.size)
    clear c0 c1 c2 c3 c4 c5 c6 c7 c8 c9 c10 c11 c12 c13 c14 c15 hb1 hwb hdl
    obtain ⟨c0, c1, c2, c3, c4, c5, c6, c7, c8, c9, c10, c11, c12, c13, c14, c15⟩ := box16 HN1.out
    clear c0 c1 c2 c3 c4 c5 c6 c7 c8 c9
    go_wp2_with fail
    refine (vis16_any a10 _).mono ?_
    rintro e2 wv0 ⟨rfl, rfl⟩
    rw [n10]
    go_wp2_with fail
    refine (vis16_any a11 _).mono ?_
    rintro e3 wv1 ⟨rfl, rfl⟩
    go_wp2_with fail
    refine (vis16_any a12 _).mono ?_
    rintro e4 wv2 ⟨rfl, rfl⟩
    go_wp2_with fail
    refine (vis32_any a13 _).mono ?_
    rintro e5 wv3 ⟨rfl, rfl⟩
    go_wp2_with fail
    refine (vis32_any a14 _).mono ?_
    rintro e6 wv4 ⟨rfl, rfl⟩
    go_wp2
    go_ret2
    rw [HE.out, HR.out]
    exact ⟨none, 0, rfl, World.ownsRow_nil _ _ _ _, HBB.out⟩
  case pos =>
  by_cases p11 : w16 a11 = true
  case neg =>
    have n11 : w16 a11 = false := by simpa using p11
    have hf : ¬ fitI I := fun h => p11 (HFL.out.1 (HF.out.1 h)).disk
    have HE : Hid (e = 124) := by show _ = _; rw [he]; exact if_neg hf
    have HR : Hid (R = []) := by show _ = _; rw [hR]; exact if_neg hf
    clear hf he hR HF HFL HLF
    go_enter Try.func37, Try.ntmps37
    go_wp2_with fail
    rw [← HV.out]
    refine HLC.out.mono ?_
    rintro e1 w1 ⟨rfl, hb1⟩
    rw [hdl]
    have HN1 : Hid (w1.heap[w.heap.size]? = some (.cells #[.int .i64 a0, .int .i64 a1, .int .i64 a2, .int .i64 a3, .int .i64 a4, .int .u32 a5, .int .i64 a6, .int .i64 a7, .string a8, .string a9, .int .i64 a10, .int .i64 a11, .int .i64 a12, .int .i64 a13, .int .i64 a14, .string a15] 28 (0, 0))) := (hb1.block _ (Array.getElem?_eq_some_iff.1 HN.out).1).trans HN.out
    have HBB : Hid (Below w.heap.size w w1) := HB.out.trans (hb1.mono HB.out.size)
    clear c0 c1 c2 c3 c4 c5 c6 c7 c8 c9 c10 c11 c12 c13 c14 c15 hb1 hwb hdl
    obtain ⟨c0, c1, c2, c3, c4, c5, c6, c7, c8, c9, c10, c11, c12, c13, c14, c15⟩ := box16 HN1.out
    clear c0 c1 c2 c3 c4 c5 c6 c7 c8 c9
    go_wp2_with fail
    refine (vis16_any a10 _).mono ?_
    rintro e2 wv0 ⟨rfl, rfl⟩
    rw [p10]
    go_wp2_with fail
    refine (vis16_any a11 _).mono ?_
    rintro e3 wv1 ⟨rfl, rfl⟩
    rw [n11]
    go_wp2_with fail
    refine (vis16_any a12 _).mono ?_
    rintro e4 wv2 ⟨rfl, rfl⟩
    go_wp2_with fail
    refine (vis32_any a13 _).mono ?_
    rintro e5 wv3 ⟨rfl, rfl⟩
    go_wp2_with fail
    refine (vis32_any a14 _).mono ?_
    rintro e6 wv4 ⟨rfl, rfl⟩
    go_wp2
    go_ret2
    rw [HE.out, HR.out]
    exact ⟨none, 0, rfl, World.ownsRow_nil _ _ _ _, HBB.out⟩
  case pos =>
  by_cases p12 : w16 a12 = true
  case neg =>
    have n12 : w16 a12 = false := by simpa using p12
    have hf : ¬ fitI I := fun h => p12 (HFL.out.1 (HF.out.1 h)).internal
    have HE : Hid (e = 124) := by show _ = _; rw [he]; exact if_neg hf
    have HR : Hid (R = []) := by show _ = _; rw [hR]; exact if_neg hf
    clear hf he hR HF HFL HLF
    go_enter Try.func37, Try.ntmps37
    go_wp2_with fail
    rw [← HV.out]
    refine HLC.out.mono ?_
    rintro e1 w1 ⟨rfl, hb1⟩
    rw [hdl]
    have HN1 : Hid (w1.heap[w.heap.size]? = some (.cells #[.int .i64 a0, .int .i64 a1, .int .i64 a2, .int .i64 a3, .int .i64 a4, .int .u32 a5, .int .i64 a6, .int .i64 a7, .string a8, .string a9, .int .i64 a10, .int .i64 a11, .int .i64 a12, .int .i64 a13, .int .i64 a14, .string a15] 28 (0, 0))) := (hb1.block _ (Array.getElem?_eq_some_iff.1 HN.out).1).trans HN.out
    have HBB : Hid (Below w.heap.size w w1) := HB.out.trans (hb1.mono HB.out.size)
    clear c0 c1 c2 c3 c4 c5 c6 c7 c8 c9 c10 c11 c12 c13 c14 c15 hb1 hwb hdl
    obtain ⟨c0, c1, c2, c3, c4, c5, c6, c7, c8, c9, c10, c11, c12, c13, c14, c15⟩ := box16 HN1.out
    clear c0 c1 c2 c3 c4 c5 c6 c7 c8 c9
    go_wp2_with fail
    refine (vis16_any a10 _).mono ?_
    rintro e2 wv0 ⟨rfl, rfl⟩
    rw [p10]
    go_wp2_with fail
    refine (vis16_any a11 _).mono ?_
    rintro e3 wv1 ⟨rfl, rfl⟩
    rw [p11]
    go_wp2_with fail
    refine (vis16_any a12 _).mono ?_
    rintro e4 wv2 ⟨rfl, rfl⟩
    rw [n12]
    go_wp2_with fail
    refine (vis32_any a13 _).mono ?_
    rintro e5 wv3 ⟨rfl, rfl⟩
    go_wp2_with fail
    refine (vis32_any a14 _).mono ?_
    rintro e6 wv4 ⟨rfl, rfl⟩
    go_wp2
    go_ret2
    rw [HE.out, HR.out]
    exact ⟨none, 0, rfl, World.ownsRow_nil _ _ _ _, HBB.out⟩
  case pos =>
  by_cases p13 : w32 a13 = true
  case neg =>
    have n13 : w32 a13 = false := by simpa using p13
    have hf : ¬ fitI I := fun h => p13 (HFL.out.1 (HF.out.1 h)).external
    have HE : Hid (e = 124) := by show _ = _; rw [he]; exact if_neg hf
    have HR : Hid (R = []) := by show _ = _; rw [hR]; exact if_neg hf
    clear hf he hR HF HFL HLF
    go_enter Try.func37, Try.ntmps37
    go_wp2_with fail
    rw [← HV.out]
    refine HLC.out.mono ?_
    rintro e1 w1 ⟨rfl, hb1⟩
    rw [hdl]
    have HN1 : Hid (w1.heap[w.heap.size]? = some (.cells #[.int .i64 a0, .int .i64 a1, .int .i64 a2, .int .i64 a3, .int .i64 a4, .int .u32 a5, .int .i64 a6, .int .i64 a7, .string a8, .string a9, .int .i64 a10, .int .i64 a11, .int .i64 a12, .int .i64 a13, .int .i64 a14, .string a15] 28 (0, 0))) := (hb1.block _ (Array.getElem?_eq_some_iff.1 HN.out).1).trans HN.out
    have HBB : Hid (Below w.heap.size w w1) := HB.out.trans (hb1.mono HB.out.size)
    clear c0 c1 c2 c3 c4 c5 c6 c7 c8 c9 c10 c11 c12 c13 c14 c15 hb1 hwb hdl
    obtain ⟨c0, c1, c2, c3, c4, c5, c6, c7, c8, c9, c10, c11, c12, c13, c14, c15⟩ := box16 HN1.out
    clear c0 c1 c2 c3 c4 c5 c6 c7 c8 c9
    go_wp2_with fail
    refine (vis16_any a10 _).mono ?_
    rintro e2 wv0 ⟨rfl, rfl⟩
    rw [p10]
    go_wp2_with fail
    refine (vis16_any a11 _).mono ?_
    rintro e3 wv1 ⟨rfl, rfl⟩
    rw [p11]
    go_wp2_with fail
    refine (vis16_any a12 _).mono ?_
    rintro e4 wv2 ⟨rfl, rfl⟩
    rw [p12]
    go_wp2_with fail
    refine (vis32_any a13 _).mono ?_
    rintro e5 wv3 ⟨rfl, rfl⟩
    rw [n13]
    go_wp2_with fail
    refine (vis32_any a14 _).mono ?_
    rintro e6 wv4 ⟨rfl, rfl⟩
    go_wp2
    go_ret2
    rw [HE.out, HR.out]
    exact ⟨none, 0, rfl, World.ownsRow_nil _ _ _ _, HBB.out⟩
  case pos =>
  by_cases p14 : w32 a14 = true
  case neg =>
    have n14 : w32 a14 = false := by simpa using p14
    have hf : ¬ fitI I := fun h => p14 (HFL.out.1 (HF.out.1 h)).at'
    have HE : Hid (e = 124) := by show _ = _; rw [he]; exact if_neg hf
    have HR : Hid (R = []) := by show _ = _; rw [hR]; exact if_neg hf
    clear hf he hR HF HFL HLF
    go_enter Try.func37, Try.ntmps37
    go_wp2_with fail
    rw [← HV.out]
    refine HLC.out.mono ?_
    rintro e1 w1 ⟨rfl, hb1⟩
    rw [hdl]
    have HN1 : Hid (w1.heap[w.heap.size]? = some (.cells #[.int .i64 a0, .int .i64 a1, .int .i64 a2, .int .i64 a3, .int .i64 a4, .int .u32 a5, .int .i64 a6, .int .i64 a7, .string a8, .string a9, .int .i64 a10, .int .i64 a11, .int .i64 a12, .int .i64 a13, .int .i64 a14, .string a15] 28 (0, 0))) := (hb1.block _ (Array.getElem?_eq_some_iff.1 HN.out).1).trans HN.out
    have HBB : Hid (Below w.heap.size w w1) := HB.out.trans (hb1.mono HB.out.size)
    clear c0 c1 c2 c3 c4 c5 c6 c7 c8 c9 c10 c11 c12 c13 c14 c15 hb1 hwb hdl
    obtain ⟨c0, c1, c2, c3, c4, c5, c6, c7, c8, c9, c10, c11, c12, c13, c14, c15⟩ := box16 HN1.out
    clear c0 c1 c2 c3 c4 c5 c6 c7 c8 c9
    go_wp2_with fail
    refine (vis16_any a10 _).mono ?_
    rintro e2 wv0 ⟨rfl, rfl⟩
    rw [p10]
    go_wp2_with fail
    refine (vis16_any a11 _).mono ?_
    rintro e3 wv1 ⟨rfl, rfl⟩
    rw [p11]
    go_wp2_with fail
    refine (vis16_any a12 _).mono ?_
    rintro e4 wv2 ⟨rfl, rfl⟩
    rw [p12]
    go_wp2_with fail
    refine (vis32_any a13 _).mono ?_
    rintro e5 wv3 ⟨rfl, rfl⟩
    rw [p13]
    go_wp2_with fail
    refine (vis32_any a14 _).mono ?_
    rintro e6 wv4 ⟨rfl, rfl⟩
    rw [n14]
    go_wp2
    go_ret2
    rw [HE.out, HR.out]
    exact ⟨none, 0, rfl, World.ownsRow_nil _ _ _ _, HBB.out⟩
  case pos =>
  by_cases p15 : a15.size ≤ 65535
  case neg =>
    have n15 : (65535 : Int) < (a15.size : Int) := by omega
    have hf : ¬ fitI I := fun h => p15 (HFL.out.1 (HF.out.1 h)).comment
    have HE : Hid (e = 124) := by show _ = _; rw [he]; exact if_neg hf
    have HR : Hid (R = []) := by show _ = _; rw [hR]; exact if_neg hf
    clear hf he hR HF HFL HLF
    go_enter Try.func37, Try.ntmps37
    go_wp2_with fail
    rw [← HV.out]
    refine HLC.out.mono ?_
    rintro e1 w1 ⟨rfl, hb1⟩
    rw [hdl]
    have HN1 : Hid (w1.heap[w.heap.size]? = some (.cells #[.int .i64 a0, .int .i64 a1, .int .i64 a2, .int .i64 a3, .int .i64 a4, .int .u32 a5, .int .i64 a6, .int .i64 a7, .string a8, .string a9, .int .i64 a10, .int .i64 a11, .int .i64 a12, .int .i64 a13, .int .i64 a14, .string a15] 28 (0, 0))) := (hb1.block _ (Array.getElem?_eq_some_iff.1 HN.out).1).trans HN.out
    have HBB : Hid (Below w.heap.size w w1) := HB.out.trans (hb1.mono HB.out.size)
    clear c0 c1 c2 c3 c4 c5 c6 c7 c8 c9 c10 c11 c12 c13 c14 c15 hb1 hwb hdl
    obtain ⟨c0, c1, c2, c3, c4, c5, c6, c7, c8, c9, c10, c11, c12, c13, c14, c15⟩ := box16 HN1.out
    clear c0 c1 c2 c3 c4 c5 c6 c7 c8 c9
    go_wp2_with fail
    refine (vis16_any a10 _).mono ?_
    rintro e2 wv0 ⟨rfl, rfl⟩
    rw [p10]
    go_wp2_with fail
    refine (vis16_any a11 _).mono ?_
    rintro e3 wv1 ⟨rfl, rfl⟩
    rw [p11]
    go_wp2_with fail
    refine (vis16_any a12 _).mono ?_
    rintro e4 wv2 ⟨rfl, rfl⟩
    rw [p12]
    go_wp2_with fail
    refine (vis32_any a13 _).mono ?_
    rintro e5 wv3 ⟨rfl, rfl⟩
    rw [p13]
    go_wp2_with fail
    refine (vis32_any a14 _).mono ?_
    rintro e6 wv4 ⟨rfl, rfl⟩
    rw [p14]
    go_wp2
    go_ret2
    rw [HE.out, HR.out]
    exact ⟨none, 0, rfl, World.ownsRow_nil _ _ _ _, HBB.out⟩
  case pos =>
  have hf : fitI I := HF.out.2 (HFL.out.2 ⟨pl, p10, p11, p12, p13, p14, p15⟩)
  have HE : Hid (e = 0) := by show _ = _; rw [he]; exact if_pos hf
  have HR : Hid (R = rowI I) := by show _ = _; rw [hR]; exact if_pos hf
  have HL9 := hide (HLF.out pl)
  have q8 : a8.size ≤ 65535 := by have := HL9.out.name; rw [H89.out.1] at this; exact this
  have q9 : a9.size ≤ 65535 := by have := HL9.out.extra; rw [H89.out.2] at this; exact this
  have m15 : ¬ (65535 : Int) < (a15.size : Int) := by omega
  obtain ⟨y10, z10⟩ := w16_in p10
  obtain ⟨y11, z11⟩ := w16_in p11
  obtain ⟨y12, z12⟩ := w16_in p12
  obtain ⟨y13, z13⟩ := w32_in p13
  obtain ⟨y14, z14⟩ := w32_in p14
  clear hf he hR HF HFL HLF pl
  go_enter Try.func37, Try.ntmps37
  go_wp2_with fail
  rw [← HV.out]
  refine HLC.out.mono ?_
  rintro e1 w1 ⟨rfl, hb1⟩
  rw [hdl]
  have HN1 : Hid (w1.heap[w.heap.size]? = some (.cells #[.int .i64 a0, .int .i64 a1, .int .i64 a2, .int .i64 a3, .int .i64 a4, .int .u32 a5, .int .i64 a6, .int .i64 a7, .string a8, .string a9, .int .i64 a10, .int .i64 a11, .int .i64 a12, .int .i64 a13, .int .i64 a14, .string a15] 28 (0, 0))) := (hb1.block _ (Array.getElem?_eq_some_iff.1 HN.out).1).trans HN.out
  have HBB : Hid (Below w.heap.size w w1) := HB.out.trans (hb1.mono HB.out.size)
  clear c0 c1 c2 c3 c4 c5 c6 c7 c8 c9 c10 c11 c12 c13 c14 c15 hb1 hwb hdl
  obtain ⟨c0, c1, c2, c3, c4, c5, c6, c7, c8, c9, c10, c11, c12, c13, c14, c15⟩ := box16 HN1.out
  clear c0 c1 c2 c3 c4 c5 c6 c7 c8 c9
  go_wp2_with fail
  refine (vis16_any a10 _).mono ?_
  rintro e2 wv0 ⟨rfl, rfl⟩
  rw [p10]
  go_wp2_with fail
  refine (vis16_any a11 _).mono ?_
  rintro e3 wv1 ⟨rfl, rfl⟩
  rw [p11]
  go_wp2_with fail
  refine (vis16_any a12 _).mono ?_
  rintro e4 wv2 ⟨rfl, rfl⟩
  rw [p12]
  go_wp2_with fail
  refine (vis32_any a13 _).mono ?_
  rintro e5 wv3 ⟨rfl, rfl⟩
  rw [p13]
  go_wp2_with fail
  refine (vis32_any a14 _).mono ?_
  rintro e6 wv4 ⟨rfl, rfl⟩
  rw [p14]
  have HX := hide (Dx.nil HN1.out)
  clear p10 p11 p12 p13 p14 c10 c11 c12 c13 c14
  go_wp2_with fail
  refine (dput_any HX.out 33639248 4 (by omega) (by omega) (by omega) (by omega)).mono ?_
  rintro e0 wd0 ⟨pa0, pc0, rfl, hx⟩
  clear HX c15 m15
  have HX := hide hx
  obtain ⟨c0, c1, c2, c3, c4, c5, c6, c7, c8, c9, c10, c11, c12, c13, c14, c15⟩ := box16 hx.box
  clear c0 c1 c2 c3 c4 c5 c6 c7 c8 c9 c11 c12 c13 c14 c15
  clear hx
  go_wp2_with fail
  refine (dput_any HX.out a10 2 (by omega) (by omega) (by omega) (by omega)).mono ?_
  rintro e1 wd1 ⟨pa1, pc1, rfl, hx⟩
  clear HX c10
  have HX := hide hx
  obtain ⟨c0, c1, c2, c3, c4, c5, c6, c7, c8, c9, c10, c11, c12, c13, c14, c15⟩ := box16 hx.box
  clear c10 c11 c12 c13 c14 c15
  clear hx
  go_wp2_with fail
  rw [← HV.out]
  refine (vshared_any lv HKL.out HL9.out HX.out (by omega)).mono ?_
  rintro e2 wd2 ⟨pa2, pc2, rfl, hx⟩
  clear HX c0 c1 c2 c3 c4 c5 c6 c7 c8 c9
  have HX := hide hx
  obtain ⟨c0, c1, c2, c3, c4, c5, c6, c7, c8, c9, c10, c11, c12, c13, c14, c15⟩ := box16 hx.box
  clear c0 c1 c2 c3 c4 c5 c6 c7 c9 c10 c11 c12 c13 c14 c15
  clear hx
  go_wp2_with fail
  refine (dput_any HX.out (a8.size : Int) 2 (by omega) (by omega) (by omega) (by omega)).mono ?_
  rintro e3 wd3 ⟨pa3, pc3, rfl, hx⟩
  clear HX c8
  have HX := hide hx
  obtain ⟨c0, c1, c2, c3, c4, c5, c6, c7, c8, c9, c10, c11, c12, c13, c14, c15⟩ := box16 hx.box
  clear c0 c1 c2 c3 c4 c5 c6 c7 c8 c10 c11 c12 c13 c14 c15
  clear hx
  go_wp2_with fail
  refine (dput_any HX.out (a9.size : Int) 2 (by omega) (by omega) (by omega) (by omega)).mono ?_
  rintro e4 wd4 ⟨pa4, pc4, rfl, hx⟩
  clear HX c9
  have HX := hide hx
  obtain ⟨c0, c1, c2, c3, c4, c5, c6, c7, c8, c9, c10, c11, c12, c13, c14, c15⟩ := box16 hx.box
  clear c0 c1 c2 c3 c4 c5 c6 c7 c8 c9 c10 c11 c12 c13 c14
  clear hx
  go_wp2_with fail
  refine (dput_any HX.out (a15.size : Int) 2 (by omega) (by omega) (by omega) (by omega)).mono ?_
  rintro e5 wd5 ⟨pa5, pc5, rfl, hx⟩
  clear HX c15
  have HX := hide hx
  obtain ⟨c0, c1, c2, c3, c4, c5, c6, c7, c8, c9, c10, c11, c12, c13, c14, c15⟩ := box16 hx.box
  clear c0 c1 c2 c3 c4 c5 c6 c7 c8 c9 c10 c12 c13 c14 c15
  clear hx
  go_wp2_with fail
  refine (dput_any HX.out a11 2 (by omega) (by omega) (by omega) (by omega)).mono ?_
  rintro e6 wd6 ⟨pa6, pc6, rfl, hx⟩
  clear HX c11
  have HX := hide hx
  obtain ⟨c0, c1, c2, c3, c4, c5, c6, c7, c8, c9, c10, c11, c12, c13, c14, c15⟩ := box16 hx.box
  clear c0 c1 c2 c3 c4 c5 c6 c7 c8 c9 c10 c11 c13 c14 c15
  clear hx
  go_wp2_with fail
  refine (dput_any HX.out a12 2 (by omega) (by omega) (by omega) (by omega)).mono ?_
  rintro e7 wd7 ⟨pa7, pc7, rfl, hx⟩
  clear HX c12
  have HX := hide hx
  obtain ⟨c0, c1, c2, c3, c4, c5, c6, c7, c8, c9, c10, c11, c12, c13, c14, c15⟩ := box16 hx.box
  clear c0 c1 c2 c3 c4 c5 c6 c7 c8 c9 c10 c11 c12 c14 c15
  clear hx
  go_wp2_with fail
  refine (dput_any HX.out a13 4 (by omega) (by omega) (by omega) (by omega)).mono ?_
  rintro e8 wd8 ⟨pa8, pc8, rfl, hx⟩
  clear HX c13
  have HX := hide hx
  obtain ⟨c0, c1, c2, c3, c4, c5, c6, c7, c8, c9, c10, c11, c12, c13, c14, c15⟩ := box16 hx.box
  clear c0 c1 c2 c3 c4 c5 c6 c7 c8 c9 c10 c11 c12 c13 c15
  clear hx
  go_wp2_with fail
  refine (dput_any HX.out a14 4 (by omega) (by omega) (by omega) (by omega)).mono ?_
  rintro e9 wd9 ⟨pa9, pc9, rfl, hx⟩
  clear HX c14
  have HX := hide hx
  obtain ⟨c0, c1, c2, c3, c4, c5, c6, c7, c8, c9, c10, c11, c12, c13, c14, c15⟩ := box16 hx.box
  clear c0 c1 c2 c3 c4 c5 c6 c7 c9 c10 c11 c12 c13 c14 c15
  clear hx
  go_wp2_with fail
  refine (dtext_any HX.out a8 q8 (by omega)).mono ?_
  rintro e10 wd10 ⟨pa10, pc10, rfl, hx⟩
  clear HX c8
  have HX := hide hx
  obtain ⟨c0, c1, c2, c3, c4, c5, c6, c7, c8, c9, c10, c11, c12, c13, c14, c15⟩ := box16 hx.box
  clear c0 c1 c2 c3 c4 c5 c6 c7 c8 c10 c11 c12 c13 c14 c15
  clear hx
  go_wp2_with fail
  refine (dtext_any HX.out a9 q9 (by omega)).mono ?_
  rintro e11 wd11 ⟨pa11, pc11, rfl, hx⟩
  clear HX c9
  have HX := hide hx
  obtain ⟨c0, c1, c2, c3, c4, c5, c6, c7, c8, c9, c10, c11, c12, c13, c14, c15⟩ := box16 hx.box
  clear c0 c1 c2 c3 c4 c5 c6 c7 c8 c9 c10 c11 c12 c13 c14
  clear hx
  go_wp2_with fail
  refine (dtext_any HX.out a15 p15 (by omega)).mono ?_
  rintro e12 wd12 ⟨pa12, pc12, rfl, hx⟩
  clear HX c15
  have HX := hide hx
  clear hx
  go_wp2
  go_ret2
  have hl := HX.out.len
  have ho := HX.out.ob
  rw [hl] at ho
  have hr := HRW.out
  rw [HE.out, HR.out]
  refine ⟨pa12, pc12, ?_, ?_, HBB.out.trans (HX.out.bel.mono HBB.out.size)⟩
  · rw [hr]
    exact congrArg (fun n => Ending.returned (.tuple #[.slice pa12 n pc12, .int .i64 0])) hl
  · rw [hr]
    exact ho.base HBB.out.size
end Go.Proofs.Ytjmjjjpanioifaa

