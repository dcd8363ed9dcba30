import Derived.Test.YtjmjjjpanioifaaGVlf
namespace Go.Proofs.Ytjmjjjpanioifaa
open Go.RowKit Go.Maps
set_option maxRecDepth 20000
set_option linter.unusedVariables false
set_option linter.unusedSimpArgs false

structure EFit (x : Enr) : Prop where
  disk : w16 x.disk = true
  dirDisk : w16 x.dirDisk = true
  here : w16 x.here = true
  total : w16 x.total = true
  dirSize : w32 x.dirSize = true
  dirAt : w32 x.dirAt = true
  comment : x.comment.size ≤ 65535

theorem fit_en {x : Enr} : fitI (enI x) ↔ EFit x := by
  refine ⟨fun h => ⟨w16_iff.2 (h (.num x.disk 2) (by simp [enI])), w16_iff.2 (h (.num x.dirDisk 2) (by simp [enI])), w16_iff.2 (h (.num x.here 2) (by simp [enI])), w16_iff.2 (h (.num x.total 2) (by simp [enI])), w32_iff.2 (h (.num x.dirSize 4) (by simp [enI])), w32_iff.2 (h (.num x.dirAt 4) (by simp [enI])), wsz_iff.2 (h (.num x.comment.size 2) (by simp [enI]))⟩, fun h i hi => ?_⟩
  simp only [enI, List.mem_cons, List.not_mem_nil, or_false] at hi
  rcases hi with rfl | rfl | rfl | rfl | rfl | rfl | rfl | rfl | rfl
  · show ¬ wide _ _; unfold wide; omega
  · exact w16_iff.1 h.disk
  · exact w16_iff.1 h.dirDisk
  · exact w16_iff.1 h.here
  · exact w16_iff.1 h.total
  · exact w32_iff.1 h.dirSize
  · exact w32_iff.1 h.dirAt
  · exact wsz_iff.1 h.comment
  · exact fun h => h

set_option maxHeartbeats 8000000 in
theorem vputEnd_any (l : Enr) (ok : l.Ok) (w : World) :
    Calls Try.prog 38 #[l.v] w fun e w' => ∃ a c, e = .returned (.tuple #[.slice a (puL (enI l)).length c, .int .i64 (puE (enI l))]) ∧ OB w' w.heap.size (.slice a (puL (enI l)).length c) (puL (enI l)) ∧ Below w.heap.size w w' := by
  obtain ⟨wb, hwb⟩ : ∃ wb, w.alloc (.cells l.cs 68) = wb := ⟨_, rfl⟩
  have HB : Hid (Below w.heap.size w wb) := by rw [← hwb]; exact (Below.refl _ _).alloc (Nat.le_refl _) _
  have HN : Hid (wb.heap[w.heap.size]? = some (.cells l.cs 68 (0, 0))) := by rw [← hwb]; exact heap_alloc_new w _
  obtain ⟨e, he⟩ : ∃ e, e = puE (enI l) := ⟨_, rfl⟩
  obtain ⟨R, hR⟩ : ∃ R, R = puL (enI l) := ⟨_, rfl⟩
  rw [← he, ← hR]
  have HF : Hid (fitI (enI l) ↔ EFit l) := fit_en
  have xc := ok.comment
  cases l with
  | mk a0 a1 a2 a3 a4 a5 a6 =>
  simp only [Enr.cs] at hwb HN
  simp only at xc
  simp only [Enr.v, Enr.cs]
  clear ok
  obtain ⟨c0, c1, c2, c3, c4, c5, c6⟩ := box7 HN.out
  by_cases p0 : w16 a0 = true
  case neg =>
    have n0 : w16 a0 = false := by simpa using p0
    have hf : ¬ fitI (enI ⟨a0, a1, a2, a3, a4, a5, a6⟩) := fun h => p0 (HF.out.1 h).disk
    have HE : Hid (e = 124) := by show _ = _; rw [he]; exact if_neg hf
    have HR : Hid (R = []) := by show _ = _; rw [hR]; exact if_neg hf
    clear hf he hR HF p0
    go_enter Try.func38, Try.ntmps38
    go_wp2_with fail
    refine (vis16_any a0 _).mono ?_
    rintro e0 wv0 ⟨rfl, rfl⟩
    rw [n0]
    go_wp2_with fail
    refine (vis16_any a1 _).mono ?_
    rintro e1 wv1 ⟨rfl, rfl⟩
    go_wp2_with fail
    refine (vis16_any a2 _).mono ?_
    rintro e2 wv2 ⟨rfl, rfl⟩
    go_wp2_with fail
    refine (vis16_any a3 _).mono ?_
    rintro e3 wv3 ⟨rfl, rfl⟩
    go_wp2_with fail
    refine (vis32_any a4 _).mono ?_
    rintro e4 wv4 ⟨rfl, rfl⟩
    go_wp2_with fail
    refine (vis32_any a5 _).mono ?_
    rintro e5 wv5 ⟨rfl, rfl⟩
    go_wp2
    go_ret2
    rw [HE.out, HR.out]
    exact ⟨none, 0, rfl, World.ownsRow_nil _ _ _ _, HB.out⟩
  case pos =>
  by_cases p1 : w16 a1 = true
  case neg =>
    have n1 : w16 a1 = false := by simpa using p1
    have hf : ¬ fitI (enI ⟨a0, a1, a2, a3, a4, a5, a6⟩) := fun h => p1 (HF.out.1 h).dirDisk
    have HE : Hid (e = 124) := by show _ = _; rw [he]; exact if_neg hf
    have HR : Hid (R = []) := by show _ = _; rw [hR]; exact if_neg hf
    clear hf he hR HF p1
    go_enter Try.func38, Try.ntmps38
    go_wp2_with fail
    refine (vis16_any a0 _).mono ?_
    rintro e0 wv0 ⟨rfl, rfl⟩
    rw [p0]
    go_wp2_with fail
    refine (vis16_any a1 _).mono ?_
    rintro e1 wv1 ⟨rfl, rfl⟩
    rw [n1]
    go_wp2_with fail
    refine (vis16_any a2 _).mono ?_
    rintro e2 wv2 ⟨rfl, rfl⟩
    go_wp2_with fail
    refine (vis16_any a3 _).mono ?_
    rintro e3 wv3 ⟨rfl, rfl⟩
    go_wp2_with fail
    refine (vis32_any a4 _).mono ?_
    rintro e4 wv4 ⟨rfl, rfl⟩
    go_wp2_with fail
    refine (vis32_any a5 _).mono ?_
    rintro e5 wv5 ⟨rfl, rfl⟩
    go_wp2
    go_ret2
    rw [HE.out, HR.out]
    exact ⟨none, 0, rfl, World.ownsRow_nil _ _ _ _, HB.out⟩
  case pos =>
  by_cases p2 : w16 a2 = true
  case neg =>
    have n2 : w16 a2 = false := by simpa using p2
    have hf : ¬ fitI (enI ⟨a0, a1, a2, a3, a4, a5, a6⟩) := fun h => p2 (HF.out.1 h).here
    have HE : Hid (e = 124) := by show _ = _; rw [he]; exact if_neg hf
    have HR : Hid (R = []) := by show _ = _; rw [hR]; exact if_neg hf
    clear hf he hR HF p2
    go_enter Try.func38, Try.ntmps38
    go_wp2_with fail
    refine (vis16_any a0 _).mono ?_
    rintro e0 wv0 ⟨rfl, rfl⟩
    rw [p0]
    go_wp2_with fail
    refine (vis16_any a1 _).mono ?_
    rintro e1 wv1 ⟨rfl, rfl⟩
    rw [p1]
    go_wp2_with fail
    refine (vis16_any a2 _).mono ?_
    rintro e2 wv2 ⟨rfl, rfl⟩
    rw [n2]
    go_wp2_with fail
    refine (vis16_any a3 _).mono ?_
    rintro e3 wv3 ⟨rfl, rfl⟩
    go_wp2_with fail
    refine (vis32_any a4 _).mono ?_
    rintro e4 wv4 ⟨rfl, rfl⟩
    go_wp2_with fail
    refine (vis32_any a5 _).mono ?_
    rintro e5 wv5 ⟨rfl, rfl⟩
    go_wp2
    go_ret2
    rw [HE.out, HR.out]
    exact ⟨none, 0, rfl, World.ownsRow_nil _ _ _ _, HB.out⟩
  case pos =>
  by_cases p3 : w16 a3 = true
  case neg =>
    have n3 : w16 a3 = false := by simpa using p3
    have hf : ¬ fitI (enI ⟨a0, a1, a2, a3, a4, a5, a6⟩) := fun h => p3 (HF.out.1 h).total
    have HE : Hid (e = 124) := by show _ = _; rw [he]; exact if_neg hf
    have HR : Hid (R = []) := by show _ = _; rw [hR]; exact if_neg hf
    clear hf he hR HF p3
    go_enter Try.func38, Try.ntmps38
    go_wp2_with fail
    refine (vis16_any a0 _).mono ?_
    rintro e0 wv0 ⟨rfl, rfl⟩
    rw [p0]
    go_wp2_with fail
    refine (vis16_any a1 _).mono ?_
    rintro e1 wv1 ⟨rfl, rfl⟩
    rw [p1]
    go_wp2_with fail
    refine (vis16_any a2 _).mono ?_
    rintro e2 wv2 ⟨rfl, rfl⟩
    rw [p2]
    go_wp2_with fail
    refine (vis16_any a3 _).mono ?_
    rintro e3 wv3 ⟨rfl, rfl⟩
    rw [n3]
    go_wp2_with fail
    refine (vis32_any a4 _).mono ?_
    rintro e4 wv4 ⟨rfl, rfl⟩
    go_wp2_with fail
    refine (vis32_any a5 _).mono ?_
    rintro e5 wv5 ⟨rfl, rfl⟩
    go_wp2
    go_ret2
    rw [HE.out, HR.out]
    exact ⟨none, 0, rfl, World.ownsRow_nil _ _ _ _, HB.out⟩
  case pos =>
  by_cases p4 : w32 a4 = true
  case neg =>
    have n4 : w32 a4 = false := by simpa using p4
    have hf : ¬ fitI (enI ⟨a0, a1, a2, a3, a4, a5, a6⟩) := fun h => p4 (HF.out.1 h).dirSize
    have HE : Hid (e = 124) := by show _ = _; rw [he]; exact if_neg hf
    have HR : Hid (R = []) := by show _ = _; rw [hR]; exact if_neg hf
    clear hf he hR HF p4
    go_enter Try.func38, Try.ntmps38
    go_wp2_with fail
    refine (vis16_any a0 _).mono ?_
    rintro e0 wv0 ⟨rfl, rfl⟩
    rw [p0]
    go_wp2_with fail
    refine (vis16_any a1 _).mono ?_
    rintro e1 wv1 ⟨rfl, rfl⟩
    rw [p1]
    go_wp2_with fail
    refine (vis16_any a2 _).mono ?_
    rintro e2 wv2 ⟨rfl, rfl⟩
    rw [p2]
    go_wp2_with fail
    refine (vis16_any a3 _).mono ?_
    rintro e3 wv3 ⟨rfl, rfl⟩
    rw [p3]
    go_wp2_with fail
    refine (vis32_any a4 _).mono ?_
    rintro e4 wv4 ⟨rfl, rfl⟩
    rw [n4]
    go_wp2_with fail
    refine (vis32_any a5 _).mono ?_
    rintro e5 wv5 ⟨rfl, rfl⟩
    go_wp2
    go_ret2
    rw [HE.out, HR.out]
    exact ⟨none, 0, rfl, World.ownsRow_nil _ _ _ _, HB.out⟩
  case pos =>
  by_cases p5 : w32 a5 = true
  case neg =>
    have n5 : w32 a5 = false := by simpa using p5
    have hf : ¬ fitI (enI ⟨a0, a1, a2, a3, a4, a5, a6⟩) := fun h => p5 (HF.out.1 h).dirAt
    have HE : Hid (e = 124) := by show _ = _; rw [he]; exact if_neg hf
    have HR : Hid (R = []) := by show _ = _; rw [hR]; exact if_neg hf
    clear hf he hR HF p5
    go_enter Try.func38, Try.ntmps38
    go_wp2_with fail
    refine (vis16_any a0 _).mono ?_
    rintro e0 wv0 ⟨rfl, rfl⟩
    rw [p0]
    go_wp2_with fail
    refine (vis16_any a1 _).mono ?_
    rintro e1 wv1 ⟨rfl, rfl⟩
    rw [p1]
    go_wp2_with fail
    refine (vis16_any a2 _).mono ?_
    rintro e2 wv2 ⟨rfl, rfl⟩
    rw [p2]
    go_wp2_with fail
    refine (vis16_any a3 _).mono ?_
    rintro e3 wv3 ⟨rfl, rfl⟩
    rw [p3]
    go_wp2_with fail
    refine (vis32_any a4 _).mono ?_
    rintro e4 wv4 ⟨rfl, rfl⟩
    rw [p4]
    go_wp2_with fail
    refine (vis32_any a5 _).mono ?_
    rintro e5 wv5 ⟨rfl, rfl⟩
    rw [n5]
    go_wp2
    go_ret2
    rw [HE.out, HR.out]
    exact ⟨none, 0, rfl, World.ownsRow_nil _ _ _ _, HB.out⟩
  case pos =>
  by_cases p6 : a6.size ≤ 65535
  case neg =>
    have n6 : (65535 : Int) < (a6.size : Int) := by omega
    have hf : ¬ fitI (enI ⟨a0, a1, a2, a3, a4, a5, a6⟩) := fun h => p6 (HF.out.1 h).comment
    have HE : Hid (e = 124) := by show _ = _; rw [he]; exact if_neg hf
    have HR : Hid (R = []) := by show _ = _; rw [hR]; exact if_neg hf
    clear hf he hR HF p6
    go_enter Try.func38, Try.ntmps38
    go_wp2_with fail
    refine (vis16_any a0 _).mono ?_
    rintro e0 wv0 ⟨rfl, rfl⟩
    rw [p0]
    go_wp2_with fail
    refine (vis16_any a1 _).mono ?_
    rintro e1 wv1 ⟨rfl, rfl⟩
    rw [p1]
    go_wp2_with fail
    refine (vis16_any a2 _).mono ?_
    rintro e2 wv2 ⟨rfl, rfl⟩
    rw [p2]
    go_wp2_with fail
    refine (vis16_any a3 _).mono ?_
    rintro e3 wv3 ⟨rfl, rfl⟩
    rw [p3]
    go_wp2_with fail
    refine (vis32_any a4 _).mono ?_
    rintro e4 wv4 ⟨rfl, rfl⟩
    rw [p4]
    go_wp2_with fail
    refine (vis32_any a5 _).mono ?_
    rintro e5 wv5 ⟨rfl, rfl⟩
    rw [p5]
    go_wp2
    go_ret2
    rw [HE.out, HR.out]
    exact ⟨none, 0, rfl, World.ownsRow_nil _ _ _ _, HB.out⟩
  case pos =>
  have hf : fitI (enI ⟨a0, a1, a2, a3, a4, a5, a6⟩) := HF.out.2 ⟨p0, p1, p2, p3, p4, p5, p6⟩
  have HE : Hid (e = 0) := by show _ = _; rw [he]; exact if_pos hf
  have HR : Hid (R = rowI (enI ⟨a0, a1, a2, a3, a4, a5, a6⟩)) := by show _ = _; rw [hR]; exact if_pos hf
  have HRW : Hid (rowI (enI ⟨a0, a1, a2, a3, a4, a5, a6⟩) = ((((((((([] ++ bytesLE 101010256 4) ++ bytesLE a0 2) ++ bytesLE a1 2) ++ bytesLE a2 2) ++ bytesLE a3 2) ++ bytesLE a4 4) ++ bytesLE a5 4) ++ bytesLE a6.size 2) ++ strL a6)) := by
    show _ = _
    simp [enI, rowI, itB, List.append_assoc]
  have HX := hide (Dx.nil HN.out)
  have HBB := HB
  have m6 : ¬ (65535 : Int) < (a6.size : Int) := by omega
  obtain ⟨y0, z0⟩ := w16_in p0
  obtain ⟨y1, z1⟩ := w16_in p1
  obtain ⟨y2, z2⟩ := w16_in p2
  obtain ⟨y3, z3⟩ := w16_in p3
  obtain ⟨y4, z4⟩ := w32_in p4
  obtain ⟨y5, z5⟩ := w32_in p5
  clear hf he hR HF
  go_enter Try.func38, Try.ntmps38
  go_wp2_with fail
  refine (vis16_any a0 _).mono ?_
  rintro e0 wv0 ⟨rfl, rfl⟩
  rw [p0]
  go_wp2_with fail
  refine (vis16_any a1 _).mono ?_
  rintro e1 wv1 ⟨rfl, rfl⟩
  rw [p1]
  go_wp2_with fail
  refine (vis16_any a2 _).mono ?_
  rintro e2 wv2 ⟨rfl, rfl⟩
  rw [p2]
  go_wp2_with fail
  refine (vis16_any a3 _).mono ?_
  rintro e3 wv3 ⟨rfl, rfl⟩
  rw [p3]
  go_wp2_with fail
  refine (vis32_any a4 _).mono ?_
  rintro e4 wv4 ⟨rfl, rfl⟩
  rw [p4]
  go_wp2_with fail
  refine (vis32_any a5 _).mono ?_
  rintro e5 wv5 ⟨rfl, rfl⟩
  rw [p5]
  clear p0 p1 p2 p3 p4 p5 hwb c0 c1 c2 c3 c4 c5
  go_wp2_with fail
  refine (dput_any HX.out 101010256 4 (by omega) (by omega) (by omega) (by omega)).mono ?_
  rintro e0 wd0 ⟨pa0, pc0, rfl, hx⟩
  clear HX c6
  have HX := hide hx
  obtain ⟨c0, c1, c2, c3, c4, c5, c6⟩ := box7 hx.box
  clear c1 c2 c3 c4 c5 c6
  clear hx
  go_wp2_with fail
  refine (dput_any HX.out a0 2 (by omega) (by omega) (by omega) (by omega)).mono ?_
  rintro e1 wd1 ⟨pa1, pc1, rfl, hx⟩
  clear HX c0
  have HX := hide hx
  obtain ⟨c0, c1, c2, c3, c4, c5, c6⟩ := box7 hx.box
  clear c0 c2 c3 c4 c5 c6
  clear hx
  go_wp2_with fail
  refine (dput_any HX.out a1 2 (by omega) (by omega) (by omega) (by omega)).mono ?_
  rintro e2 wd2 ⟨pa2, pc2, rfl, hx⟩
  clear HX c1
  have HX := hide hx
  obtain ⟨c0, c1, c2, c3, c4, c5, c6⟩ := box7 hx.box
  clear c0 c1 c3 c4 c5 c6
  clear hx
  go_wp2_with fail
  refine (dput_any HX.out a2 2 (by omega) (by omega) (by omega) (by omega)).mono ?_
  rintro e3 wd3 ⟨pa3, pc3, rfl, hx⟩
  clear HX c2
  have HX := hide hx
  obtain ⟨c0, c1, c2, c3, c4, c5, c6⟩ := box7 hx.box
  clear c0 c1 c2 c4 c5 c6
  clear hx
  go_wp2_with fail
  refine (dput_any HX.out a3 2 (by omega) (by omega) (by omega) (by omega)).mono ?_
  rintro e4 wd4 ⟨pa4, pc4, rfl, hx⟩
  clear HX c3
  have HX := hide hx
  obtain ⟨c0, c1, c2, c3, c4, c5, c6⟩ := box7 hx.box
  clear c0 c1 c2 c3 c5 c6
  clear hx
  go_wp2_with fail
  refine (dput_any HX.out a4 4 (by omega) (by omega) (by omega) (by omega)).mono ?_
  rintro e5 wd5 ⟨pa5, pc5, rfl, hx⟩
  clear HX c4
  have HX := hide hx
  obtain ⟨c0, c1, c2, c3, c4, c5, c6⟩ := box7 hx.box
  clear c0 c1 c2 c3 c4 c6
  clear hx
  go_wp2_with fail
  refine (dput_any HX.out a5 4 (by omega) (by omega) (by omega) (by omega)).mono ?_
  rintro e6 wd6 ⟨pa6, pc6, rfl, hx⟩
  clear HX c5
  have HX := hide hx
  obtain ⟨c0, c1, c2, c3, c4, c5, c6⟩ := box7 hx.box
  clear c0 c1 c2 c3 c4 c5
  clear hx
  go_wp2_with fail
  refine (dput_any HX.out (a6.size : Int) 2 (by omega) (by omega) (by omega) (by omega)).mono ?_
  rintro e7 wd7 ⟨pa7, pc7, rfl, hx⟩
  clear HX c6
  have HX := hide hx
  obtain ⟨c0, c1, c2, c3, c4, c5, c6⟩ := box7 hx.box
  clear c0 c1 c2 c3 c4 c5
  clear hx
  go_wp2_with fail
  refine (dtext_any HX.out a6 p6 (by omega)).mono ?_
  rintro e8 wd8 ⟨pa8, pc8, rfl, hx⟩
  clear HX c6
  have HX := hide hx
  clear hx
  go_wp2
  go_ret2
  have hl := HX.out.len
  have ho := HX.out.ob
  rw [hl] at ho
  have hr := HRW.out
  rw [HE.out, HR.out]
  refine ⟨pa8, pc8, ?_, ?_, HBB.out.trans (HX.out.bel.mono HBB.out.size)⟩
  · rw [hr]
    exact congrArg (fun n => Ending.returned (.tuple #[.slice pa8 n pc8, .int .i64 0])) hl
  · rw [hr]
    exact ho.base HBB.out.size
end Go.Proofs.Ytjmjjjpanioifaa

