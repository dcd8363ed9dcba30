import Derived.Test.YtjjepgkcgbbmhabGSpn
namespace Go.Proofs.Ytjjepgkcgbbmhab
open Go.RowKit Go.Maps
set_option maxRecDepth 20000
set_option linter.unusedVariables false
set_option linter.unusedSimpArgs false

set_option maxHeartbeats 8000000 in
theorem canon_no (v : Value) (d : List Int) (at' : Int) (w : World) (h : SB w v d) (hB : Byt d) (h64 : Ok64 at') (hd : d.length ≤ 140737488351232) (hlo : loE d at' ≠ 0) (hce : ceE d at' ≠ 0) (hen : enE d at' ≠ 0) :
    Calls Try.prog 3 #[v, .int .i64 at'] w fun e w' => e = .returned (.bool true) ∧ Below w.heap.size w w' := by
  obtain ⟨ao, cap, rfl, q1, q2, q3⟩ := h.open11
  have HS := hide h
  have HBy := hide hB
  have H64 := hide h64
  have HDl := hide hd
  have HDl2 : Hid (d.length ≤ 140737488355328) := Nat.le_trans hd (by omega)
  obtain ⟨w0, hw0⟩ : ∃ x, w.alloc (.cells #[.int .u8 80, .int .u8 75, .int .u8 5, .int .u8 6, .int .u8 0, .int .u8 0, .int .u8 0, .int .u8 0, .int .u8 0, .int .u8 0, .int .u8 0, .int .u8 0, .int .u8 0, .int .u8 0, .int .u8 0, .int .u8 0, .int .u8 0, .int .u8 0, .int .u8 0, .int .u8 0, .int .u8 0, .int .u8 0] 5) = x := ⟨_, rfl⟩
  have H22 : Hid (SB w0 (.slice (some ⟨w.heap.size, 0, none⟩) 22 22) e22) := by rw [← hw0]; exact e22_sb w
  have HB0 : Hid (Below w.heap.size w w0) := by rw [← hw0]; exact (Below.refl _ _).alloc (Nat.le_refl _) _
  have HLO := hide hlo
  have HCE := hide hce
  have HEN := hide hen
  clear h hB h64 hd q3 hlo hce hen
  go_enter Try.func3, Try.ntmps3
  go_wp2_with fail
  refine (e22_any _ _ H22.out).mono ?_
  rintro e w1 ⟨rfl, hb1⟩
  have HB1 := hide (HB0.out.trans (hb1.mono HB0.out.size))
  clear hb1 HB0 H22 hw0
  obtain ⟨w2, hw2⟩ : ∃ x, w1.alloc (.cells #[.int .i64 0, .int .i64 0, .int .i64 0, .int .i64 0, .int .i64 0, .int .i64 0, .string ⟨#[]⟩] 24) = x := ⟨_, rfl⟩
  have HB2 : Hid (Below w.heap.size w w2) := by rw [← hw2]; exact HB1.out.alloc HB1.out.size _
  have HM2 : Hid (w2.heap[w1.heap.size]? = some (.cells #[.int .i64 0, .int .i64 0, .int .i64 0, .int .i64 0, .int .i64 0, .int .i64 0, .string ⟨#[]⟩] 24 (0, 0))) := by rw [← hw2]; exact heap_alloc_new _ _
  have HW2 := hide hw2
  clear hw2
  have hlo := HLO.out
  have HQE : Hid (loE d at' ≠ 0) := hlo
  obtain ⟨GL, hGL⟩ : ∃ G, G = loE d at' := ⟨_, rfl⟩
  have HGL := hide hGL
  obtain ⟨PL, hPL⟩ : ∃ P, P = loP d at' := ⟨_, rfl⟩
  have HPL := hide hPL
  obtain ⟨AL, hAL⟩ : ∃ A, A = (loA d at').cs := ⟨_, rfl⟩
  have HAVL : Hid ((loA d at').v = .agg AL) := by show _ = _; rw [hAL]; rfl
  have HSAL : Hid (AL.size = 10) := by rw [hAL]; exact rsL _
  have HOAL : Hid (AL.all (·.oneCell') = true) := by rw [hAL]; exact roL _
  have gL : (GL == 0) = false := by rw [hGL]; simpa using HQE.out
  clear hGL hPL hAL HQE hlo
  go_wp2_with fail
  rw [HW2.out]
  clear HM2 HW2
  refine (copied_any _ d _ (SB.below HS.out HB2.out) HDl.out).mono ?_
  rintro e wL1 ⟨aL1, cL1, rfl, ho, hb⟩
  have HBx := hide (HB2.out.trans (hb.mono HB2.out.size))
  have HOx := hide ho.sb
  clear ho hb
  go_wp2_with fail
  refine (getLocal_any _ d at' _ HOx.out HBy.out H64.out HDl2.out).mono ?_
  rintro e wL2 ⟨rfl, hb⟩
  rw [HAVL.out, ← HPL.out, ← HGL.out]
  have HBy2 := hide (HBx.out.trans (hb.mono HBx.out.size))
  have HZ : Hid ((wL2.alloc (.cells #[.int .i64 0, .int .i64 0, .int .i64 0, .int .i64 0, .int .i64 0, .int .u32 0, .int .i64 0, .int .i64 0, .string ⟨#[]⟩, .string ⟨#[]⟩] 30)).heap[wL2.heap.size]? = some (.cells #[.int .i64 0, .int .i64 0, .int .i64 0, .int .i64 0, .int .i64 0, .int .u32 0, .int .i64 0, .int .i64 0, .string ⟨#[]⟩, .string ⟨#[]⟩] 30 (0, 0))) := heap_alloc_new _ _
  obtain ⟨wL3, hw3⟩ : ∃ x, wL2.alloc (.cells AL 30) = x := ⟨_, rfl⟩
  have HBL3 : Hid (Below w.heap.size w wL3) := by rw [← hw3]; exact HBy2.out.alloc HBy2.out.size _
  have HML : Hid (wL3.heap[wL2.heap.size]? = some (.cells AL 30 (0, 0))) := by rw [← hw3]; exact heap_alloc_new _ _
  have HW3 : Hid ((wL2.alloc (.cells #[.int .i64 0, .int .i64 0, .int .i64 0, .int .i64 0, .int .i64 0, .int .u32 0, .int .i64 0, .int .i64 0, .string ⟨#[]⟩, .string ⟨#[]⟩] 30)).setRow wL2.heap.size AL = wL3) := by show _ = _; rw [World.setRow_alloc_new]; exact hw3
  clear hb HBx HOx hw3
  have hce := HCE.out
  have HQE : Hid (ceE d at' ≠ 0) := hce
  obtain ⟨GC, hGC⟩ : ∃ G, G = ceE d at' := ⟨_, rfl⟩
  have HGC := hide hGC
  obtain ⟨PC, hPC⟩ : ∃ P, P = ceP d at' := ⟨_, rfl⟩
  have HPC := hide hPC
  obtain ⟨AC, hAC⟩ : ∃ A, A = (ceA d at').cs := ⟨_, rfl⟩
  have HAVC : Hid ((ceA d at').v = .agg AC) := by show _ = _; rw [hAC]; rfl
  have HSAC : Hid (AC.size = 16) := by rw [hAC]; exact rsC _
  have HOAC : Hid (AC.all (·.oneCell') = true) := by rw [hAC]; exact roC _
  have gC : (GC == 0) = false := by rw [hGC]; simpa using HQE.out
  clear hGC hPC hAC HQE hce
  go_wp2_with ((with_reducible refine wpList_stL wL2.heap.size AL #[.int .i64 0, .int .i64 0, .int .i64 0, .int .i64 0, .int .i64 0, .int .u32 0, .int .i64 0, .int .i64 0, .string ⟨#[]⟩, .string ⟨#[]⟩] HSAL.out rfl HOAL.out ?hx ?hy HZ.out ?_); (case hx => rfl); (case hy => rfl); rw [HW3.out])
  clear HZ HW3 HBy2
  refine (copied_any _ d _ (SB.below HS.out HBL3.out) HDl.out).mono ?_
  rintro e wC1 ⟨aC1, cC1, rfl, ho, hb⟩
  have HBx := hide (HBL3.out.trans (hb.mono HBL3.out.size))
  have HOx := hide ho.sb
  clear ho hb
  go_wp2_with fail
  refine (getCentral_any _ d at' _ HOx.out HBy.out H64.out HDl2.out).mono ?_
  rintro e wC2 ⟨rfl, hb⟩
  rw [HAVC.out, ← HPC.out, ← HGC.out]
  have HBy2 := hide (HBx.out.trans (hb.mono HBx.out.size))
  have HZ : Hid ((wC2.alloc (.cells #[.int .i64 0, .int .i64 0, .int .i64 0, .int .i64 0, .int .i64 0, .int .u32 0, .int .i64 0, .int .i64 0, .string ⟨#[]⟩, .string ⟨#[]⟩, .int .i64 0, .int .i64 0, .int .i64 0, .int .i64 0, .int .i64 0, .string ⟨#[]⟩] 40)).heap[wC2.heap.size]? = some (.cells #[.int .i64 0, .int .i64 0, .int .i64 0, .int .i64 0, .int .i64 0, .int .u32 0, .int .i64 0, .int .i64 0, .string ⟨#[]⟩, .string ⟨#[]⟩, .int .i64 0, .int .i64 0, .int .i64 0, .int .i64 0, .int .i64 0, .string ⟨#[]⟩] 40 (0, 0))) := heap_alloc_new _ _
  obtain ⟨wC3, hw3⟩ : ∃ x, wC2.alloc (.cells AC 40) = x := ⟨_, rfl⟩
  have HBC3 : Hid (Below w.heap.size w wC3) := by rw [← hw3]; exact HBy2.out.alloc HBy2.out.size _
  have HMC : Hid (wC3.heap[wC2.heap.size]? = some (.cells AC 40 (0, 0))) := by rw [← hw3]; exact heap_alloc_new _ _
  have HW3 : Hid ((wC2.alloc (.cells #[.int .i64 0, .int .i64 0, .int .i64 0, .int .i64 0, .int .i64 0, .int .u32 0, .int .i64 0, .int .i64 0, .string ⟨#[]⟩, .string ⟨#[]⟩, .int .i64 0, .int .i64 0, .int .i64 0, .int .i64 0, .int .i64 0, .string ⟨#[]⟩] 40)).setRow wC2.heap.size AC = wC3) := by show _ = _; rw [World.setRow_alloc_new]; exact hw3
  clear hb HBx HOx hw3
  have hen := HEN.out
  have HQE : Hid (enE d at' ≠ 0) := hen
  obtain ⟨GE, hGE⟩ : ∃ G, G = enE d at' := ⟨_, rfl⟩
  have HGE := hide hGE
  obtain ⟨PE, hPE⟩ : ∃ P, P = enP d at' := ⟨_, rfl⟩
  have HPE := hide hPE
  obtain ⟨AE, hAE⟩ : ∃ A, A = (enA d at').cs := ⟨_, rfl⟩
  have HAVE : Hid ((enA d at').v = .agg AE) := by show _ = _; rw [hAE]; rfl
  have HSAE : Hid (AE.size = 7) := by rw [hAE]; exact rsE _
  have HOAE : Hid (AE.all (·.oneCell') = true) := by rw [hAE]; exact roE _
  have gE : (GE == 0) = false := by rw [hGE]; simpa using HQE.out
  clear hGE hPE hAE HQE hen
  go_wp2_with ((with_reducible refine wpList_stC wC2.heap.size AC #[.int .i64 0, .int .i64 0, .int .i64 0, .int .i64 0, .int .i64 0, .int .u32 0, .int .i64 0, .int .i64 0, .string ⟨#[]⟩, .string ⟨#[]⟩, .int .i64 0, .int .i64 0, .int .i64 0, .int .i64 0, .int .i64 0, .string ⟨#[]⟩] HSAC.out rfl HOAC.out ?hx ?hy HZ.out ?_); (case hx => rfl); (case hy => rfl); rw [HW3.out])
  clear HZ HW3 HBy2
  refine (copied_any _ d _ (SB.below HS.out HBC3.out) HDl.out).mono ?_
  rintro e wE1 ⟨aE1, cE1, rfl, ho, hb⟩
  have HBx := hide (HBC3.out.trans (hb.mono HBC3.out.size))
  have HOx := hide ho.sb
  clear ho hb
  go_wp2_with fail
  refine (getEnd_any _ d at' _ HOx.out HBy.out H64.out HDl2.out).mono ?_
  rintro e wE2 ⟨rfl, hb⟩
  rw [HAVE.out, ← HPE.out, ← HGE.out]
  have HBy2 := hide (HBx.out.trans (hb.mono HBx.out.size))
  have HZ : Hid ((wE2.alloc (.cells #[.int .i64 0, .int .i64 0, .int .i64 0, .int .i64 0, .int .i64 0, .int .i64 0, .string ⟨#[]⟩] 24)).heap[wE2.heap.size]? = some (.cells #[.int .i64 0, .int .i64 0, .int .i64 0, .int .i64 0, .int .i64 0, .int .i64 0, .string ⟨#[]⟩] 24 (0, 0))) := heap_alloc_new _ _
  obtain ⟨wE3, hw3⟩ : ∃ x, wE2.alloc (.cells AE 24) = x := ⟨_, rfl⟩
  have HBE3 : Hid (Below w.heap.size w wE3) := by rw [← hw3]; exact HBy2.out.alloc HBy2.out.size _
  have HME : Hid (wE3.heap[wE2.heap.size]? = some (.cells AE 24 (0, 0))) := by rw [← hw3]; exact heap_alloc_new _ _
  have HW3 : Hid ((wE2.alloc (.cells #[.int .i64 0, .int .i64 0, .int .i64 0, .int .i64 0, .int .i64 0, .int .i64 0, .string ⟨#[]⟩] 24)).setRow wE2.heap.size AE = wE3) := by show _ = _; rw [World.setRow_alloc_new]; exact hw3
  clear hb HBx HOx hw3
  go_wp2_with ((with_reducible refine wpList_stE wE2.heap.size AE #[.int .i64 0, .int .i64 0, .int .i64 0, .int .i64 0, .int .i64 0, .int .i64 0, .string ⟨#[]⟩] HSAE.out rfl HOAE.out ?hx ?hy HZ.out ?_); (case hx => rfl); (case hy => rfl); rw [HW3.out])
  go_ret
  exact ⟨rfl, HBE3.out⟩
end Go.Proofs.Ytjjepgkcgbbmhab

