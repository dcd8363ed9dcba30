import Derived.Test.YtaeifigbnlffbaaDoorG15Tpq
namespace Go.Proofs.YtaeifigbnlffbaaDoor
set_option maxRecDepth 20000
set_option linter.unusedVariables false
set_option linter.unusedSimpArgs false

/-! The program's header is the document's. -/

theorem wrt_seg (A B : List (List Int)) (n : Nat) (t : List Int) (at' : Nat) (h : A.flatten.length = at') (ht : t.length ≤ n) :
    wrt (A ++ List.replicate n 0 :: B).flatten at' t = (A ++ fil t n :: B).flatten := by
  subst h
  rw [fil_of ht]
  simp only [List.flatten_append, List.flatten_cons]
  exact wrt_mid _ _ [] _ 0 n _ rfl ht

theorem zeros_seg : z512 = ([List.replicate 100 0, List.replicate 8 0, List.replicate 8 0, List.replicate 8 0, List.replicate 12 0, List.replicate 12 0, List.replicate 7 0, List.replicate 1 0, List.replicate 1 0, List.replicate 100 0, List.replicate 8 0, List.replicate 32 0, List.replicate 32 0, List.replicate 8 0, List.replicate 8 0, List.replicate 155 0, List.replicate 12 0] : List (List Int)).flatten := by decide

set_option maxHeartbeats 4000000 in
theorem hdA_segs (f : Fl) (h : Hok f) : hdA f = ([fil (sbs (cutB f.nm).2.1) 100, fil (oct f.md.toNat 7) 8, fil (oct f.ow.toNat 7) 8, fil (oct f.gr.toNat 7) 8, fil (oct f.dt.length 11) 12, fil (oct f.ti.toNat 11) 12, List.replicate 7 0, List.replicate 1 0, fil ([48 + f.kd]) 1, fil (sbs f.lk) 100, fil (sbs mag) 8, fil (sbs f.us) 32, fil (sbs f.tm) 32, fil (oct 0 7) 8, fil (oct 0 7) 8, fil (sbs (cutB f.nm).1) 155, List.replicate 12 0] : List (List Int)).flatten := by
  have l1 := h.rest
  have l2 := h.lk
  have l3 := h.us
  have l4 := h.tm
  have l5 := h.pre
  rw [← sbs_len] at l1 l2 l3 l4 l5
  obtain ⟨t0, e0⟩ : ∃ t, t = sbs (cutB f.nm).2.1 := ⟨_, rfl⟩
  obtain ⟨t1, e1⟩ : ∃ t, t = sbs f.lk := ⟨_, rfl⟩
  obtain ⟨t2, e2⟩ : ∃ t, t = sbs f.us := ⟨_, rfl⟩
  obtain ⟨t3, e3⟩ : ∃ t, t = sbs f.tm := ⟨_, rfl⟩
  obtain ⟨t4, e4⟩ : ∃ t, t = sbs (cutB f.nm).1 := ⟨_, rfl⟩
  obtain ⟨t5, e5⟩ : ∃ t, t = oct f.md.toNat 7 := ⟨_, rfl⟩
  obtain ⟨t6, e6⟩ : ∃ t, t = oct f.ow.toNat 7 := ⟨_, rfl⟩
  obtain ⟨t7, e7⟩ : ∃ t, t = oct f.gr.toNat 7 := ⟨_, rfl⟩
  obtain ⟨t8, e8⟩ : ∃ t, t = oct f.dt.length 11 := ⟨_, rfl⟩
  obtain ⟨t9, e9⟩ : ∃ t, t = oct f.ti.toNat 11 := ⟨_, rfl⟩
  obtain ⟨t10, e10⟩ : ∃ t, t = oct 0 7 := ⟨_, rfl⟩
  obtain ⟨t11, e11⟩ : ∃ t, t = oct 0 7 := ⟨_, rfl⟩
  obtain ⟨t12, e12⟩ : ∃ t, t = [48 + f.kd] := ⟨_, rfl⟩
  obtain ⟨t13, e13⟩ : ∃ t, t = sbs mag := ⟨_, rfl⟩
  have m5 : t5.length = 7 := by rw [e5, oct_len]
  have m6 : t6.length = 7 := by rw [e6, oct_len]
  have m7 : t7.length = 7 := by rw [e7, oct_len]
  have m8 : t8.length = 11 := by rw [e8, oct_len]
  have m9 : t9.length = 11 := by rw [e9, oct_len]
  have m10 : t10.length = 7 := by rw [e10, oct_len]
  have m11 : t11.length = 7 := by rw [e11, oct_len]
  have m12 : t12.length = 1 := by rw [e12]; rfl
  have m13 : t13.length = 8 := by rw [e13, sbs_len]; rfl
  rw [← e0] at l1
  rw [← e1] at l2
  rw [← e2] at l3
  rw [← e3] at l4
  rw [← e4] at l5
  have hw : hdA f = wrs z512 [(0, t0), (157, t1), (265, t2), (297, t3), (345, t4), (100, t5), (108, t6), (116, t7), (124, t8), (136, t9), (329, t10), (337, t11), (156, t12), (257, t13)] := by
    rw [e0, e1, e2, e3, e4, e5, e6, e7, e8, e9, e10, e11, e12, e13]; rfl
  rw [hw, zeros_seg]
  rw [← e0, ← e1, ← e2, ← e3, ← e4, ← e5, ← e6, ← e7, ← e8, ← e9, ← e12, ← e13, ← e10]
  have e1011 : t11 = t10 := by rw [e10, e11]
  clear hw e0 e1 e2 e3 e4 e5 e6 e7 e8 e9 e12 e13
  have w0 : wrt ([List.replicate 100 0, List.replicate 8 0, List.replicate 8 0, List.replicate 8 0, List.replicate 12 0, List.replicate 12 0, List.replicate 7 0, List.replicate 1 0, List.replicate 1 0, List.replicate 100 0, List.replicate 8 0, List.replicate 32 0, List.replicate 32 0, List.replicate 8 0, List.replicate 8 0, List.replicate 155 0, List.replicate 12 0] : List (List Int)).flatten 0 t0 = ([fil t0 100, List.replicate 8 0, List.replicate 8 0, List.replicate 8 0, List.replicate 12 0, List.replicate 12 0, List.replicate 7 0, List.replicate 1 0, List.replicate 1 0, List.replicate 100 0, List.replicate 8 0, List.replicate 32 0, List.replicate 32 0, List.replicate 8 0, List.replicate 8 0, List.replicate 155 0, List.replicate 12 0] : List (List Int)).flatten := wrt_seg [] [List.replicate 8 0, List.replicate 8 0, List.replicate 8 0, List.replicate 12 0, List.replicate 12 0, List.replicate 7 0, List.replicate 1 0, List.replicate 1 0, List.replicate 100 0, List.replicate 8 0, List.replicate 32 0, List.replicate 32 0, List.replicate 8 0, List.replicate 8 0, List.replicate 155 0, List.replicate 12 0] 100 t0 0 (by simp [fil_len]) (by omega)
  have w1 : wrt ([fil t0 100, List.replicate 8 0, List.replicate 8 0, List.replicate 8 0, List.replicate 12 0, List.replicate 12 0, List.replicate 7 0, List.replicate 1 0, List.replicate 1 0, List.replicate 100 0, List.replicate 8 0, List.replicate 32 0, List.replicate 32 0, List.replicate 8 0, List.replicate 8 0, List.replicate 155 0, List.replicate 12 0] : List (List Int)).flatten 157 t1 = ([fil t0 100, List.replicate 8 0, List.replicate 8 0, List.replicate 8 0, List.replicate 12 0, List.replicate 12 0, List.replicate 7 0, List.replicate 1 0, List.replicate 1 0, fil t1 100, List.replicate 8 0, List.replicate 32 0, List.replicate 32 0, List.replicate 8 0, List.replicate 8 0, List.replicate 155 0, List.replicate 12 0] : List (List Int)).flatten := wrt_seg [fil t0 100, List.replicate 8 0, List.replicate 8 0, List.replicate 8 0, List.replicate 12 0, List.replicate 12 0, List.replicate 7 0, List.replicate 1 0, List.replicate 1 0] [List.replicate 8 0, List.replicate 32 0, List.replicate 32 0, List.replicate 8 0, List.replicate 8 0, List.replicate 155 0, List.replicate 12 0] 100 t1 157 (by simp [fil_len]) (by omega)
  have w2 : wrt ([fil t0 100, List.replicate 8 0, List.replicate 8 0, List.replicate 8 0, List.replicate 12 0, List.replicate 12 0, List.replicate 7 0, List.replicate 1 0, List.replicate 1 0, fil t1 100, List.replicate 8 0, List.replicate 32 0, List.replicate 32 0, List.replicate 8 0, List.replicate 8 0, List.replicate 155 0, List.replicate 12 0] : List (List Int)).flatten 265 t2 = ([fil t0 100, List.replicate 8 0, List.replicate 8 0, List.replicate 8 0, List.replicate 12 0, List.replicate 12 0, List.replicate 7 0, List.replicate 1 0, List.replicate 1 0, fil t1 100, List.replicate 8 0, fil t2 32, List.replicate 32 0, List.replicate 8 0, List.replicate 8 0, List.replicate 155 0, List.replicate 12 0] : List (List Int)).flatten := wrt_seg [fil t0 100, List.replicate 8 0, List.replicate 8 0, List.replicate 8 0, List.replicate 12 0, List.replicate 12 0, List.replicate 7 0, List.replicate 1 0, List.replicate 1 0, fil t1 100, List.replicate 8 0] [List.replicate 32 0, List.replicate 8 0, List.replicate 8 0, List.replicate 155 0, List.replicate 12 0] 32 t2 265 (by simp [fil_len]) (by omega)
  have w3 : wrt ([fil t0 100, List.replicate 8 0, List.replicate 8 0, List.replicate 8 0, List.replicate 12 0, List.replicate 12 0, List.replicate 7 0, List.replicate 1 0, List.replicate 1 0, fil t1 100, List.replicate 8 0, fil t2 32, List.replicate 32 0, List.replicate 8 0, List.replicate 8 0, List.replicate 155 0, List.replicate 12 0] : List (List Int)).flatten 297 t3 = ([fil t0 100, List.replicate 8 0, List.replicate 8 0, List.replicate 8 0, List.replicate 12 0, List.replicate 12 0, List.replicate 7 0, List.replicate 1 0, List.replicate 1 0, fil t1 100, List.replicate 8 0, fil t2 32, fil t3 32, List.replicate 8 0, List.replicate 8 0, List.replicate 155 0, List.replicate 12 0] : List (List Int)).flatten := wrt_seg [fil t0 100, List.replicate 8 0, List.replicate 8 0, List.replicate 8 0, List.replicate 12 0, List.replicate 12 0, List.replicate 7 0, List.replicate 1 0, List.replicate 1 0, fil t1 100, List.replicate 8 0, fil t2 32] [List.replicate 8 0, List.replicate 8 0, List.replicate 155 0, List.replicate 12 0] 32 t3 297 (by simp [fil_len]) (by omega)
  have w4 : wrt ([fil t0 100, List.replicate 8 0, List.replicate 8 0, List.replicate 8 0, List.replicate 12 0, List.replicate 12 0, List.replicate 7 0, List.replicate 1 0, List.replicate 1 0, fil t1 100, List.replicate 8 0, fil t2 32, fil t3 32, List.replicate 8 0, List.replicate 8 0, List.replicate 155 0, List.replicate 12 0] : List (List Int)).flatten 345 t4 = ([fil t0 100, List.replicate 8 0, List.replicate 8 0, List.replicate 8 0, List.replicate 12 0, List.replicate 12 0, List.replicate 7 0, List.replicate 1 0, List.replicate 1 0, fil t1 100, List.replicate 8 0, fil t2 32, fil t3 32, List.replicate 8 0, List.replicate 8 0, fil t4 155, List.replicate 12 0] : List (List Int)).flatten := wrt_seg [fil t0 100, List.replicate 8 0, List.replicate 8 0, List.replicate 8 0, List.replicate 12 0, List.replicate 12 0, List.replicate 7 0, List.replicate 1 0, List.replicate 1 0, fil t1 100, List.replicate 8 0, fil t2 32, fil t3 32, List.replicate 8 0, List.replicate 8 0] [List.replicate 12 0] 155 t4 345 (by simp [fil_len]) (by omega)
  have w5 : wrt ([fil t0 100, List.replicate 8 0, List.replicate 8 0, List.replicate 8 0, List.replicate 12 0, List.replicate 12 0, List.replicate 7 0, List.replicate 1 0, List.replicate 1 0, fil t1 100, List.replicate 8 0, fil t2 32, fil t3 32, List.replicate 8 0, List.replicate 8 0, fil t4 155, List.replicate 12 0] : List (List Int)).flatten 100 t5 = ([fil t0 100, fil t5 8, List.replicate 8 0, List.replicate 8 0, List.replicate 12 0, List.replicate 12 0, List.replicate 7 0, List.replicate 1 0, List.replicate 1 0, fil t1 100, List.replicate 8 0, fil t2 32, fil t3 32, List.replicate 8 0, List.replicate 8 0, fil t4 155, List.replicate 12 0] : List (List Int)).flatten := wrt_seg [fil t0 100] [List.replicate 8 0, List.replicate 8 0, List.replicate 12 0, List.replicate 12 0, List.replicate 7 0, List.replicate 1 0, List.replicate 1 0, fil t1 100, List.replicate 8 0, fil t2 32, fil t3 32, List.replicate 8 0, List.replicate 8 0, fil t4 155, List.replicate 12 0] 8 t5 100 (by simp [fil_len]) (by omega)
  have w6 : wrt ([fil t0 100, fil t5 8, List.replicate 8 0, List.replicate 8 0, List.replicate 12 0, List.replicate 12 0, List.replicate 7 0, List.replicate 1 0, List.replicate 1 0, fil t1 100, List.replicate 8 0, fil t2 32, fil t3 32, List.replicate 8 0, List.replicate 8 0, fil t4 155, List.replicate 12 0] : List (List Int)).flatten 108 t6 = ([fil t0 100, fil t5 8, fil t6 8, List.replicate 8 0, List.replicate 12 0, List.replicate 12 0, List.replicate 7 0, List.replicate 1 0, List.replicate 1 0, fil t1 100, List.replicate 8 0, fil t2 32, fil t3 32, List.replicate 8 0, List.replicate 8 0, fil t4 155, List.replicate 12 0] : List (List Int)).flatten := wrt_seg [fil t0 100, fil t5 8] [List.replicate 8 0, List.replicate 12 0, List.replicate 12 0, List.replicate 7 0, List.replicate 1 0, List.replicate 1 0, fil t1 100, List.replicate 8 0, fil t2 32, fil t3 32, List.replicate 8 0, List.replicate 8 0, fil t4 155, List.replicate 12 0] 8 t6 108 (by simp [fil_len]) (by omega)
  have w7 : wrt ([fil t0 100, fil t5 8, fil t6 8, List.replicate 8 0, List.replicate 12 0, List.replicate 12 0, List.replicate 7 0, List.replicate 1 0, List.replicate 1 0, fil t1 100, List.replicate 8 0, fil t2 32, fil t3 32, List.replicate 8 0, List.replicate 8 0, fil t4 155, List.replicate 12 0] : List (List Int)).flatten 116 t7 = ([fil t0 100, fil t5 8, fil t6 8, fil t7 8, List.replicate 12 0, List.replicate 12 0, List.replicate 7 0, List.replicate 1 0, List.replicate 1 0, fil t1 100, List.replicate 8 0, fil t2 32, fil t3 32, List.replicate 8 0, List.replicate 8 0, fil t4 155, List.replicate 12 0] : List (List Int)).flatten := wrt_seg [fil t0 100, fil t5 8, fil t6 8] [List.replicate 12 0, List.replicate 12 0, List.replicate 7 0, List.replicate 1 0, List.replicate 1 0, fil t1 100, List.replicate 8 0, fil t2 32, fil t3 32, List.replicate 8 0, List.replicate 8 0, fil t4 155, List.replicate 12 0] 8 t7 116 (by simp [fil_len]) (by omega)
  have w8 : wrt ([fil t0 100, fil t5 8, fil t6 8, fil t7 8, List.replicate 12 0, List.replicate 12 0, List.replicate 7 0, List.replicate 1 0, List.replicate 1 0, fil t1 100, List.replicate 8 0, fil t2 32, fil t3 32, List.replicate 8 0, List.replicate 8 0, fil t4 155, List.replicate 12 0] : List (List Int)).flatten 124 t8 = ([fil t0 100, fil t5 8, fil t6 8, fil t7 8, fil t8 12, List.replicate 12 0, List.replicate 7 0, List.replicate 1 0, List.replicate 1 0, fil t1 100, List.replicate 8 0, fil t2 32, fil t3 32, List.replicate 8 0, List.replicate 8 0, fil t4 155, List.replicate 12 0] : List (List Int)).flatten := wrt_seg [fil t0 100, fil t5 8, fil t6 8, fil t7 8] [List.replicate 12 0, List.replicate 7 0, List.replicate 1 0, List.replicate 1 0, fil t1 100, List.replicate 8 0, fil t2 32, fil t3 32, List.replicate 8 0, List.replicate 8 0, fil t4 155, List.replicate 12 0] 12 t8 124 (by simp [fil_len]) (by omega)
  have w9 : wrt ([fil t0 100, fil t5 8, fil t6 8, fil t7 8, fil t8 12, List.replicate 12 0, List.replicate 7 0, List.replicate 1 0, List.replicate 1 0, fil t1 100, List.replicate 8 0, fil t2 32, fil t3 32, List.replicate 8 0, List.replicate 8 0, fil t4 155, List.replicate 12 0] : List (List Int)).flatten 136 t9 = ([fil t0 100, fil t5 8, fil t6 8, fil t7 8, fil t8 12, fil t9 12, List.replicate 7 0, List.replicate 1 0, List.replicate 1 0, fil t1 100, List.replicate 8 0, fil t2 32, fil t3 32, List.replicate 8 0, List.replicate 8 0, fil t4 155, List.replicate 12 0] : List (List Int)).flatten := wrt_seg [fil t0 100, fil t5 8, fil t6 8, fil t7 8, fil t8 12] [List.replicate 7 0, List.replicate 1 0, List.replicate 1 0, fil t1 100, List.replicate 8 0, fil t2 32, fil t3 32, List.replicate 8 0, List.replicate 8 0, fil t4 155, List.replicate 12 0] 12 t9 136 (by simp [fil_len]) (by omega)
  have w10 : wrt ([fil t0 100, fil t5 8, fil t6 8, fil t7 8, fil t8 12, fil t9 12, List.replicate 7 0, List.replicate 1 0, List.replicate 1 0, fil t1 100, List.replicate 8 0, fil t2 32, fil t3 32, List.replicate 8 0, List.replicate 8 0, fil t4 155, List.replicate 12 0] : List (List Int)).flatten 329 t10 = ([fil t0 100, fil t5 8, fil t6 8, fil t7 8, fil t8 12, fil t9 12, List.replicate 7 0, List.replicate 1 0, List.replicate 1 0, fil t1 100, List.replicate 8 0, fil t2 32, fil t3 32, fil t10 8, List.replicate 8 0, fil t4 155, List.replicate 12 0] : List (List Int)).flatten := wrt_seg [fil t0 100, fil t5 8, fil t6 8, fil t7 8, fil t8 12, fil t9 12, List.replicate 7 0, List.replicate 1 0, List.replicate 1 0, fil t1 100, List.replicate 8 0, fil t2 32, fil t3 32] [List.replicate 8 0, fil t4 155, List.replicate 12 0] 8 t10 329 (by simp [fil_len]) (by omega)
  have w11 : wrt ([fil t0 100, fil t5 8, fil t6 8, fil t7 8, fil t8 12, fil t9 12, List.replicate 7 0, List.replicate 1 0, List.replicate 1 0, fil t1 100, List.replicate 8 0, fil t2 32, fil t3 32, fil t10 8, List.replicate 8 0, fil t4 155, List.replicate 12 0] : List (List Int)).flatten 337 t11 = ([fil t0 100, fil t5 8, fil t6 8, fil t7 8, fil t8 12, fil t9 12, List.replicate 7 0, List.replicate 1 0, List.replicate 1 0, fil t1 100, List.replicate 8 0, fil t2 32, fil t3 32, fil t10 8, fil t11 8, fil t4 155, List.replicate 12 0] : List (List Int)).flatten := wrt_seg [fil t0 100, fil t5 8, fil t6 8, fil t7 8, fil t8 12, fil t9 12, List.replicate 7 0, List.replicate 1 0, List.replicate 1 0, fil t1 100, List.replicate 8 0, fil t2 32, fil t3 32, fil t10 8] [fil t4 155, List.replicate 12 0] 8 t11 337 (by simp [fil_len]) (by omega)
  have w12 : wrt ([fil t0 100, fil t5 8, fil t6 8, fil t7 8, fil t8 12, fil t9 12, List.replicate 7 0, List.replicate 1 0, List.replicate 1 0, fil t1 100, List.replicate 8 0, fil t2 32, fil t3 32, fil t10 8, fil t11 8, fil t4 155, List.replicate 12 0] : List (List Int)).flatten 156 t12 = ([fil t0 100, fil t5 8, fil t6 8, fil t7 8, fil t8 12, fil t9 12, List.replicate 7 0, List.replicate 1 0, fil t12 1, fil t1 100, List.replicate 8 0, fil t2 32, fil t3 32, fil t10 8, fil t11 8, fil t4 155, List.replicate 12 0] : List (List Int)).flatten := wrt_seg [fil t0 100, fil t5 8, fil t6 8, fil t7 8, fil t8 12, fil t9 12, List.replicate 7 0, List.replicate 1 0] [fil t1 100, List.replicate 8 0, fil t2 32, fil t3 32, fil t10 8, fil t11 8, fil t4 155, List.replicate 12 0] 1 t12 156 (by simp [fil_len]) (by omega)
  have w13 : wrt ([fil t0 100, fil t5 8, fil t6 8, fil t7 8, fil t8 12, fil t9 12, List.replicate 7 0, List.replicate 1 0, fil t12 1, fil t1 100, List.replicate 8 0, fil t2 32, fil t3 32, fil t10 8, fil t11 8, fil t4 155, List.replicate 12 0] : List (List Int)).flatten 257 t13 = ([fil t0 100, fil t5 8, fil t6 8, fil t7 8, fil t8 12, fil t9 12, List.replicate 7 0, List.replicate 1 0, fil t12 1, fil t1 100, fil t13 8, fil t2 32, fil t3 32, fil t10 8, fil t11 8, fil t4 155, List.replicate 12 0] : List (List Int)).flatten := wrt_seg [fil t0 100, fil t5 8, fil t6 8, fil t7 8, fil t8 12, fil t9 12, List.replicate 7 0, List.replicate 1 0, fil t12 1, fil t1 100] [fil t2 32, fil t3 32, fil t10 8, fil t11 8, fil t4 155, List.replicate 12 0] 8 t13 257 (by simp [fil_len]) (by omega)
  simp only [wrs, List.foldl_cons, List.foldl_nil]
  rw [w0, w1, w2, w3, w4, w5, w6, w7, w8, w9, w10, w11, w12, w13]
  rw [e1011]

theorem hdX_segs (f : Fl) (a b : List Int) (ha : a.length = 7) (hb : b.length = 1) : hdX f (a ++ b) = ([fil (sbs (cutB f.nm).2.1) 100, fil (oct f.md.toNat 7) 8, fil (oct f.ow.toNat 7) 8, fil (oct f.gr.toNat 7) 8, fil (oct f.dt.length 11) 12, fil (oct f.ti.toNat 11) 12, a, b, fil ([48 + f.kd]) 1, fil (sbs f.lk) 100, fil (sbs mag) 8, fil (sbs f.us) 32, fil (sbs f.tm) 32, fil (oct 0 7) 8, fil (oct 0 7) 8, fil (sbs (cutB f.nm).1) 155, List.replicate 12 0] : List (List Int)).flatten := by
  unfold hdX
  have hl : (hx4 f (a ++ b)).length = 500 := by
    unfold hx4 hx3 hx2 hx1
    simp [fil_len, ha, hb]
  rw [fil_of (by omega), hl]
  unfold hx4 hx3 hx2 hx1
  have hm : fil (sbs mag) 8 = fil [117, 115, 116, 97, 114] 6 ++ [48, 48] := by decide
  have hk : fil [48 + f.kd] 1 = [48 + f.kd] := rfl
  simp only [List.flatten_cons, List.flatten_nil, List.append_nil, List.append_assoc, hm, hk]

theorem hdA_is (f : Fl) (h : Hok f) : hdA f = hdX f (List.replicate 7 0 ++ List.replicate 1 0) := by
  rw [hdA_segs f h, hdX_segs f (List.replicate 7 0) (List.replicate 1 0) List.length_replicate List.length_replicate]

theorem hdX_sum (f : Fl) (a b t : List Int) (ha : a.length = 7) (hb : b.length = 1) (ht : t.length = 8) : wrt (hdX f (a ++ b)) 148 t = hdX f t := by
  have e : t = t.take 7 ++ t.drop 7 := (List.take_append_drop 7 t).symm
  have h1 : (t.take 7).length = 7 := by rw [List.length_take]; omega
  have h2 : (t.drop 7).length = 1 := by rw [List.length_drop]; omega
  have e2 : hdX f t = hdX f (t.take 7 ++ t.drop 7) := by rw [← e]
  rw [e2, hdX_segs f a b ha hb, hdX_segs f _ _ h1 h2]
  obtain ⟨A, hA⟩ : ∃ A : List Int, A = ([fil (sbs (cutB f.nm).2.1) 100, fil (oct f.md.toNat 7) 8, fil (oct f.ow.toNat 7) 8, fil (oct f.gr.toNat 7) 8, fil (oct f.dt.length 11) 12, fil (oct f.ti.toNat 11) 12] : List (List Int)).flatten := ⟨_, rfl⟩
  obtain ⟨B, hB⟩ : ∃ B : List Int, B = ([fil ([48 + f.kd]) 1, fil (sbs f.lk) 100, fil (sbs mag) 8, fil (sbs f.us) 32, fil (sbs f.tm) 32, fil (oct 0 7) 8, fil (oct 0 7) 8, fil (sbs (cutB f.nm).1) 155, List.replicate 12 0] : List (List Int)).flatten := ⟨_, rfl⟩
  have hAl : A.length = 148 := by rw [hA]; simp [fil_len]
  have q1 : ([fil (sbs (cutB f.nm).2.1) 100, fil (oct f.md.toNat 7) 8, fil (oct f.ow.toNat 7) 8, fil (oct f.gr.toNat 7) 8, fil (oct f.dt.length 11) 12, fil (oct f.ti.toNat 11) 12, a, b, fil ([48 + f.kd]) 1, fil (sbs f.lk) 100, fil (sbs mag) 8, fil (sbs f.us) 32, fil (sbs f.tm) 32, fil (oct 0 7) 8, fil (oct 0 7) 8, fil (sbs (cutB f.nm).1) 155, List.replicate 12 0] : List (List Int)).flatten = A ++ ((a ++ b) ++ B) := by
    rw [hA, hB]
    simp only [List.flatten_cons, List.flatten_nil, List.append_nil, List.append_assoc]
  have q2 : ([fil (sbs (cutB f.nm).2.1) 100, fil (oct f.md.toNat 7) 8, fil (oct f.ow.toNat 7) 8, fil (oct f.gr.toNat 7) 8, fil (oct f.dt.length 11) 12, fil (oct f.ti.toNat 11) 12, t.take 7, t.drop 7, fil ([48 + f.kd]) 1, fil (sbs f.lk) 100, fil (sbs mag) 8, fil (sbs f.us) 32, fil (sbs f.tm) 32, fil (oct 0 7) 8, fil (oct 0 7) 8, fil (sbs (cutB f.nm).1) 155, List.replicate 12 0] : List (List Int)).flatten = A ++ ((t.take 7 ++ t.drop 7) ++ B) := by
    rw [hA, hB]
    simp only [List.flatten_cons, List.flatten_nil, List.append_nil, List.append_assoc]
  rw [q1, q2, ← e]
  unfold wrt
  rw [List.take_append, List.take_of_length_le (by omega), show 148 - A.length = 0 by omega, List.take_zero, List.append_nil, List.drop_append, List.drop_of_length_le (by omega), List.nil_append, List.drop_append, List.drop_of_length_le (by rw [List.length_append]; omega), List.nil_append]
  rw [show 148 + t.length - A.length - (a ++ b).length = 0 by rw [List.length_append]; omega, List.drop_zero, List.append_assoc]

set_option maxHeartbeats 2000000 in
theorem hd_same (f : Fl) (h : Hok f) : hdP f = hdX f (oct (hdX f (List.replicate 8 32)).sum.toNat 6 ++ ([0] ++ [32])) := by
  have h1 : sumN (hdA f) = (hdX f (List.replicate 8 32)).sum := by
    unfold sumN
    rw [hdA_is f h, hdX_sum f (List.replicate 7 0) (List.replicate 1 0) (List.replicate 8 32) List.length_replicate List.length_replicate List.length_replicate]
  obtain ⟨o, ho⟩ : ∃ o, o = oct (hdX f (List.replicate 8 32)).sum.toNat 6 := ⟨_, rfl⟩
  have hol : o.length = 6 := by rw [ho, oct_len]
  unfold hdP
  rw [h1, ← ho]
  have e : wrs (hdA f) [(148, o), (155, [32])] = wrt (wrt (hdA f) 148 o) 155 [32] := rfl
  rw [e, hdA_is f h]
  have hX0 : (hdX f (List.replicate 7 0 ++ List.replicate 1 0)).length = 512 := fil_len _ _
  rw [← hdX_sum f (List.replicate 7 0) (List.replicate 1 0) (o ++ ([0] ++ [32])) List.length_replicate List.length_replicate (by simp [hol])]
  obtain ⟨L, hL⟩ : ∃ L : List Int, L = hdX f (List.replicate 7 0 ++ List.replicate 1 0) := ⟨hdX f (List.replicate 7 0 ++ List.replicate 1 0), Eq.refl _⟩
  have hz : L.drop 154 = [0] ++ L.drop 155 := by
    have hq : L[154]? = some 0 := by
      rw [hL, hdX_segs f (List.replicate 7 0) (List.replicate 1 0) List.length_replicate List.length_replicate]
      obtain ⟨A, hA⟩ : ∃ A : List Int, A = ([fil (sbs (cutB f.nm).2.1) 100, fil (oct f.md.toNat 7) 8, fil (oct f.ow.toNat 7) 8, fil (oct f.gr.toNat 7) 8, fil (oct f.dt.length 11) 12, fil (oct f.ti.toNat 11) 12] : List (List Int)).flatten := ⟨_, rfl⟩
      obtain ⟨B, hB⟩ : ∃ B : List Int, B = ([fil ([48 + f.kd]) 1, fil (sbs f.lk) 100, fil (sbs mag) 8, fil (sbs f.us) 32, fil (sbs f.tm) 32, fil (oct 0 7) 8, fil (oct 0 7) 8, fil (sbs (cutB f.nm).1) 155, List.replicate 12 0] : List (List Int)).flatten := ⟨_, rfl⟩
      have hAl : A.length = 148 := by rw [hA]; simp [fil_len]
      have q1 : ([fil (sbs (cutB f.nm).2.1) 100, fil (oct f.md.toNat 7) 8, fil (oct f.ow.toNat 7) 8, fil (oct f.gr.toNat 7) 8, fil (oct f.dt.length 11) 12, fil (oct f.ti.toNat 11) 12, List.replicate 7 0, List.replicate 1 0, fil ([48 + f.kd]) 1, fil (sbs f.lk) 100, fil (sbs mag) 8, fil (sbs f.us) 32, fil (sbs f.tm) 32, fil (oct 0 7) 8, fil (oct 0 7) 8, fil (sbs (cutB f.nm).1) 155, List.replicate 12 0] : List (List Int)).flatten = A ++ (List.replicate 7 0 ++ (List.replicate 1 0 ++ B)) := by
        rw [hA, hB]
        simp only [List.flatten_cons, List.flatten_nil, List.append_nil, List.append_assoc]
      rw [q1, List.getElem?_append_right (by omega), hAl]
      rfl
    have hlt : 154 < L.length := by rw [hL, hX0]; decide
    rw [List.drop_eq_getElem_cons hlt]
    have := (List.getElem?_eq_some_iff.1 hq).2
    rw [this]; rfl
  rw [← hL] at hX0 ⊢
  have hd156 : L.drop 156 = (L.drop 155).drop 1 := by rw [List.drop_drop]
  have e3 : (o ++ ([0] ++ [32])).length = 8 := by simp [hol]
  unfold wrt
  rw [hol, e3, show 148 + 6 = 154 from rfl, hz, show 148 + 8 = 156 from rfl, hd156]
  have t1 : (L.take 148).length = 148 := by rw [List.length_take, hX0]; rfl
  clear hz hL hX0 hd156 e h1 ho
  obtain ⟨T, hT⟩ : ∃ T : List Int, T = L.take 148 := ⟨L.take 148, Eq.refl _⟩
  obtain ⟨D, hD⟩ : ∃ D : List Int, D = L.drop 155 := ⟨L.drop 155, Eq.refl _⟩
  rw [← hT, ← hD]
  rw [← hT] at t1
  clear hT hD
  have e0 : (T ++ o).length = 154 := by rw [List.length_append, t1, hol]
  have e1 : List.take 155 (T ++ o ++ ([0] ++ D)) = T ++ o ++ [0] := by
    rw [List.take_append, List.take_of_length_le (by omega), e0]
    simp
  have e2 : List.drop (155 + 1) (T ++ o ++ ([0] ++ D)) = D.drop 1 := by
    rw [List.drop_append, List.drop_of_length_le (by omega), List.nil_append, e0]
    simp
  rw [show 155 + [(32 : Int)].length = 155 + 1 from rfl, e1, e2]
  simp only [List.append_assoc]
end Go.Proofs.YtaeifigbnlffbaaDoor

