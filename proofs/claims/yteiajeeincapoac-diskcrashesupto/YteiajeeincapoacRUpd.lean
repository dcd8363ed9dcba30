import Derived.Test.YteiajeeincapoacRRef
namespace Go.Proofs.Yteiajeeincapoac
open Go.RowKit Go.Maps

theorem RC.of_heap {w w' : World} {g : Nat} {cap : Int} {vn vd vp vs : Value} {calls fuse : Int} {live : Bool} (h : RC w g cap vn vd vp vs calls fuse live) (e : w'.heap[g]? = w.heap[g]?) : RC w' g cap vn vd vp vs calls fuse live := e.trans h

def newK (w : World) (K N : Nat → Nat) : Nat → Nat := fun k => if k < w.heap.size then K k else N k

theorem newK_old {w : World} {K N : Nat → Nat} {k : Nat} (h : k < w.heap.size) : newK w K N k = K k := by unfold newK; rw [if_pos h]

theorem newK_new {w : World} {K N : Nat → Nat} {k : Nat} (h : w.heap.size ≤ k) : newK w K N k = N k := by unfold newK; rw [if_neg (by omega)]

theorem RRepV.role' {w : World} {K N : Nat → Nat} {g : Nat} {st : RSt} {vn vd vp vs : Value} (h : RRepV w K g st vn vd vp vs) {v : Value} {r : Nat} (hr : r ≠ 0) (hv : Role K v r) : Role (newK w K N) v r := by
  intro k hk
  have := hv k hk
  rw [newK_old (h.sup k (by rw [this]; exact hr)), this]

theorem RRepV.mk' {w w' : World} {K N : Nat → Nat} {g : Nat} {st st' : RSt} {vn vd vp vs vn' vd' vp' vs' : Value} (h : RRepV w K g st vn vd vp vs)
    (h1 : w'.os = w.os) (h2 : w'.tape = w.tape) (h3 : w'.output = w.output) (hsz : w.heap.size ≤ w'.heap.size) (rc : RC w' g st'.room vn' vd' vp' vs' st'.calls st'.fuse st'.live)
    (hn : OB w' 0 vn' st'.now) (kn : Role (newK w K N) vn' 2) (hd : OB w' 0 vd' st'.dur) (kd : Role (newK w K N) vd' 3) (hp : RowP w' (newK w K N) vp' st'.rps) (kp : Role (newK w K N) vp' 4) (hs : OI w' vs' st'.sizes) (ks : Role (newK w K N) vs' 5)
    (hN : ∀ k, N k ≠ 0 → k < w'.heap.size) (hfr : ∀ k, k < w.heap.size → K k = 0 ∨ K k = 6 → w'.heap[k]? = w.heap[k]?) :
    ∃ K', RRepV w' K' g st' vn' vd' vp' vs' ∧ Fr K K' w w' := by
  refine ⟨newK w K N, ⟨rc, ?_, hn, kn, hd, kd, hp, kp, hs, ks, ?_⟩, ⟨h1, h2, h3, hsz, hfr, fun k hk => newK_old hk⟩⟩
  · rw [newK_old h.rc.lt]; exact h.kg
  · intro k hk
    by_cases hl : k < w.heap.size
    · omega
    · rw [newK_new (by omega)] at hk
      exact hN k hk

theorem RRepV.rowOld {w w' : World} {K N : Nat → Nat} {g : Nat} {st : RSt} {vn vd vp vs : Value} (h : RRepV w K g st vn vd vp vs) (hb : ∀ k, k < w.heap.size → K k = 6 ∨ K k = 4 → w'.heap[k]? = w.heap[k]?) : RowP w' (newK w K N) vp st.rps :=
  (h.hp.same (fun k hk => hb k (h.sup k (by omega)) (.inl hk)) (fun k hk => hb k (h.sup k (by rw [h.kp k hk]; omega)) (.inr (h.kp k hk)))).roles fun k hk => by rw [newK_old (h.sup k (by omega))]; exact hk

theorem RRepV.addPiece {w w2 w4 : World} {K : Nat → Nat} {g : Nat} {st : RSt} {vn vd vp vs vdat : Value} {pd : List Int} {O : Obj} {gg cap s a : Nat} {cs0 : List Value} (h : RRepV w K g st vn vd vp vs)
    (hb2 : Below w.heap.size w w2) (ho : OB w2 w.heap.size vdat pd) (hpk : PcsOK w K cs0 st.rps)
    (hown : w4.ownsRow 0 79 3 (.slice (some ⟨gg, 0, none⟩) (st.rps.length + 1) cap) (st.rps.length + 1) (cs0 ++ [.int .i64 s, .int .i64 a, vdat]))
    (hgr : (w2.alloc O).grownBy w4 vp.ownBlock) (hat : vp.ownBlock = some gg ∨ gg = w2.heap.size + 1) (hgg : gg < w4.heap.size) :
    ∃ K', RRepV (w4.setCell ⟨g, 3, none⟩ (.slice (some ⟨gg, 0, none⟩) (st.rps.length + 1) cap)) K' g { st with rps := st.rps ++ [(s, a, pd)] } vn vd (.slice (some ⟨gg, 0, none⟩) (st.rps.length + 1) cap) vs ∧ Fr K K' w (w4.setCell ⟨g, 3, none⟩ (.slice (some ⟨gg, 0, none⟩) (st.rps.length + 1) cap)) := by
  have s2 := hb2.size
  have s4 := hgr.size
  rw [size_alloc'] at s4
  have gl := h.rc.lt
  have hgne : some g ≠ vp.ownBlock := fun e => by have := h.kp g e.symm; rw [h.kg] at this; omega
  have old4 : ∀ k, k < w2.heap.size → some k ≠ vp.ownBlock → w4.heap[k]? = w2.heap[k]? := fun k hk hne => (hgr.block k (by rw [size_alloc']; omega) hne).trans (Below.heap_alloc _ _ k hk)
  have keep : ∀ k, k < w.heap.size → k ≠ g → some k ≠ vp.ownBlock → (w4.setCell ⟨g, 3, none⟩ (.slice (some ⟨gg, 0, none⟩) (st.rps.length + 1) cap)).heap[k]? = w.heap[k]? := fun k hk hg hne => by
    rw [setCell_others _ _ _ _ k hg, old4 k (by omega) hne, hb2.block k hk]
  have keepR : ∀ k, K k ≠ 0 → K k ≠ 1 → K k ≠ 4 → (w4.setCell ⟨g, 3, none⟩ (.slice (some ⟨gg, 0, none⟩) (st.rps.length + 1) cap)).heap[k]? = w.heap[k]? := fun k h0 h1 h4 =>
    keep k (h.sup k h0) (fun e => h1 (by rw [e]; exact h.kg)) (fun e => h4 (h.kp k e.symm))
  have hgg1 : vp.ownBlock = some gg → gg < w.heap.size ∧ K gg = 4 := fun e => ⟨h.sup gg (by rw [h.kp gg e]; omega), h.kp gg e⟩
  have hggne : gg ≠ g := fun e => by
    rcases hat with e1 | e1
    · have := (hgg1 e1).2; rw [e, h.kg] at this; omega
    · omega
  have hdg : ∀ k, vdat.ownBlock = some k → k ≠ gg := fun k hk e => by
    have := ho.lt k hk
    rcases hat with e1 | e1
    · have := (hgg1 e1).1; omega
    · omega
  refine h.mk' (N := fun k => if k = gg then 4 else if vdat.ownBlock = some k then 6 else 0) ?_ ?_ ?_ ?_ ?_ ?_ ?_ ?_ ?_ ?_ ?_ ?_ ?_ ?_ ?_
  · exact hgr.os.trans hb2.os
  · exact hgr.tape.trans hb2.tape
  · exact hgr.output.trans hb2.output
  · rw [size_setCell]; omega
  · exact (h.rc.of_heap ((old4 g (by omega) hgne).trans (hb2.block g gl))).set.2.2.1 _
  · exact h.hn.move fun k hk => keepR k (by rw [h.kn k hk]; omega) (by rw [h.kn k hk]; omega) (by rw [h.kn k hk]; omega)
  · exact h.role' (by omega) h.kn
  · exact h.hd.move fun k hk => keepR k (by rw [h.kd k hk]; omega) (by rw [h.kd k hk]; omega) (by rw [h.kd k hk]; omega)
  · exact h.role' (by omega) h.kd
  · refine ⟨cs0 ++ [.int .i64 s, .int .i64 a, vdat], PcsOK.snoc (p := (s, a, pd)) ?_ ?_ _ _ (PcsOK.roles (K := K) ?_ _ _ (hpk.move fun k hk => keepR k (by omega) (by omega) (by omega))), ?_⟩
    · refine ho.sb.same fun k hk => ?_
      have hk2 := ho.lt k hk
      rw [setCell_others _ _ _ _ k (fun e => by omega)]
      exact old4 k hk2.2 (fun e => by have := h.sup k (by rw [h.kp k e.symm]; omega); omega)
    · intro k hk
      rw [newK_new (ho.lt k hk).1]
      simp [hdg k hk, hk]
    · intro k hk
      rw [newK_old (h.sup k (by omega))]; exact hk
    · rw [List.length_append]
      refine ownsRow_same hown fun k hk => ?_
      simp only [Value.ownBlock, Option.some.injEq] at hk
      exact setCell_others _ _ _ _ k (fun e => hggne (by rw [hk]; exact e))
  · intro k hk
    simp only [Value.ownBlock, Option.some.injEq] at hk
    subst hk
    rcases hat with e1 | e1
    · rw [newK_old (hgg1 e1).1]; exact (hgg1 e1).2
    · rw [newK_new (by omega)]; simp
  · exact ownsRow_same h.hs fun k hk => keepR k (by rw [h.ks k hk]; omega) (by rw [h.ks k hk]; omega) (by rw [h.ks k hk]; omega)
  · exact h.role' (by omega) h.ks
  · intro k hk
    rw [size_setCell]
    by_cases e : k = gg
    · omega
    · simp only [e, if_false] at hk
      by_cases e2 : vdat.ownBlock = some k
      · have := (ho.lt k e2).2; omega
      · simp [e2] at hk
  · intro k hk h0
    exact keep k hk (fun e => by rw [e, h.kg] at h0; omega) (fun e => by have := h.kp k e.symm; omega)

theorem RRepV.setNow {w w1 : World} {K : Nat → Nat} {g : Nat} {st : RSt} {vn vd vp vs v' : Value} {l : List Int} (h : RRepV w K g st vn vd vp vs) (hob : OB w1 0 v' l) (hgr : w.grownBy w1 vn.ownBlock)
    (hloc : v'.ownBlock = vn.ownBlock ∨ ∀ k, v'.ownBlock = some k → w.heap.size ≤ k) :
    ∃ K', RRepV (w1.setCell ⟨g, 1, none⟩ v') K' g { st with now := l } v' vd vp vs ∧ Fr K K' w (w1.setCell ⟨g, 1, none⟩ v') := by
  have s1 := hgr.size
  have gl := h.rc.lt
  have hgne : some g ≠ vn.ownBlock := fun e => by have := h.kn g e.symm; rw [h.kg] at this; omega
  have keep : ∀ k, k < w.heap.size → k ≠ g → some k ≠ vn.ownBlock → (w1.setCell ⟨g, 1, none⟩ v').heap[k]? = w.heap[k]? := fun k hk hg hne => by
    rw [setCell_others _ _ _ _ k hg, hgr.block k hk hne]
  have keepR : ∀ k, K k ≠ 0 → K k ≠ 1 → K k ≠ 2 → (w1.setCell ⟨g, 1, none⟩ v').heap[k]? = w.heap[k]? := fun k h0 h1 h4 =>
    keep k (h.sup k h0) (fun e => h1 (by rw [e]; exact h.kg)) (fun e => h4 (h.kn k e.symm))
  have old : ∀ k, v'.ownBlock = some k → k < w.heap.size → K k = 2 := fun k hk hl => by
    rcases hloc with e | e
    · exact h.kn k (by rw [← e]; exact hk)
    · have := e k hk; omega
  have hvg : ∀ k, v'.ownBlock = some k → k ≠ g := fun k hk e => by
    have := old k hk (by omega)
    rw [e, h.kg] at this
    omega
  refine h.mk' (N := fun k => if v'.ownBlock = some k then 2 else 0) hgr.os hgr.tape hgr.output (by rw [size_setCell]; exact s1) ?_ ?_ ?_ ?_ ?_ ?_ ?_ ?_ ?_ ?_ ?_
  · exact (h.rc.of_heap (hgr.block g gl hgne)).set.1 _
  · exact hob.move fun k hk => setCell_others _ _ _ _ k (hvg k hk)
  · intro k hk
    by_cases hl : k < w.heap.size
    · rw [newK_old hl]; exact old k hk hl
    · rw [newK_new (by omega)]; simp [hk]
  · exact h.hd.move fun k hk => keepR k (by rw [h.kd k hk]; omega) (by rw [h.kd k hk]; omega) (by rw [h.kd k hk]; omega)
  · exact h.role' (by omega) h.kd
  · exact h.rowOld fun k hk h0 => keepR k (by omega) (by omega) (by omega)
  · exact h.role' (by omega) h.kp
  · exact ownsRow_same h.hs fun k hk => keepR k (by rw [h.ks k hk]; omega) (by rw [h.ks k hk]; omega) (by rw [h.ks k hk]; omega)
  · exact h.role' (by omega) h.ks
  · intro k hk
    rw [size_setCell]
    by_cases e2 : v'.ownBlock = some k
    · exact (hob.lt k e2).2
    · simp [e2] at hk
  · intro k hk h0
    exact keep k hk (fun e => by rw [e, h.kg] at h0; omega) (fun e => by have := h.kn k e.symm; omega)

theorem RRepV.paintNow {w w1 : World} {K : Nat → Nat} {g : Nat} {st : RSt} {vn vd vp vs : Value} {l : List Int} (h : RRepV w K g st vn vd vp vs) (hob : OB w1 0 vn l) (hgr : w.grownBy w1 vn.ownBlock) :
    RRepV w1 K g { st with now := l } vn vd vp vs ∧ Fr K K w w1 := by
  have gl := h.rc.lt
  have hgne : some g ≠ vn.ownBlock := fun e => by have := h.kn g e.symm; rw [h.kg] at this; omega
  have keepR : ∀ k, K k ≠ 0 → K k ≠ 2 → w1.heap[k]? = w.heap[k]? := fun k h0 h4 => hgr.block k (h.sup k h0) (fun e => h4 (h.kn k e.symm))
  refine ⟨⟨(hgr.block g gl hgne).trans h.rc, h.kg, hob, h.kn, h.hd.move fun k hk => keepR k (by rw [h.kd k hk]; omega) (by rw [h.kd k hk]; omega), h.kd, h.hp.same (fun k hk => keepR k (by omega) (by omega)) (fun k hk => keepR k (by rw [h.kp k hk]; omega) (by rw [h.kp k hk]; omega)), h.kp, ownsRow_same h.hs fun k hk => keepR k (by rw [h.ks k hk]; omega) (by rw [h.ks k hk]; omega), h.ks, fun k hk => Nat.lt_of_lt_of_le (h.sup k hk) hgr.size⟩, ⟨hgr.os, hgr.tape, hgr.output, hgr.size, fun k hk h0 => hgr.block k hk (fun e => by have := h.kn k e.symm; omega), fun _ _ => rfl⟩⟩

theorem RRepV.setSizes {w w1 : World} {K : Nat → Nat} {g : Nat} {st : RSt} {vn vd vp vs v' : Value} {l : List Nat} (h : RRepV w K g st vn vd vp vs) (hob : OI w1 v' l) (hgr : w.grownBy w1 vs.ownBlock)
    (hloc : ∀ k, v'.ownBlock = some k → vs.ownBlock = some k ∨ w.heap.size ≤ k) (hlt : ∀ k, v'.ownBlock = some k → k < w1.heap.size) :
    ∃ K', RRepV (w1.setCell ⟨g, 4, none⟩ v') K' g { st with sizes := l } vn vd vp v' ∧ Fr K K' w (w1.setCell ⟨g, 4, none⟩ v') := by
  have s1 := hgr.size
  have gl := h.rc.lt
  have hgne : some g ≠ vs.ownBlock := fun e => by have := h.ks g e.symm; rw [h.kg] at this; omega
  have keep : ∀ k, k < w.heap.size → k ≠ g → some k ≠ vs.ownBlock → (w1.setCell ⟨g, 4, none⟩ v').heap[k]? = w.heap[k]? := fun k hk hg hne => by
    rw [setCell_others _ _ _ _ k hg, hgr.block k hk hne]
  have keepR : ∀ k, K k ≠ 0 → K k ≠ 1 → K k ≠ 5 → (w1.setCell ⟨g, 4, none⟩ v').heap[k]? = w.heap[k]? := fun k h0 h1 h4 =>
    keep k (h.sup k h0) (fun e => h1 (by rw [e]; exact h.kg)) (fun e => h4 (h.ks k e.symm))
  have old : ∀ k, v'.ownBlock = some k → k < w.heap.size → K k = 5 := fun k hk hl => by
    rcases hloc k hk with e | e
    · exact h.ks k e
    · omega
  have hvg : ∀ k, v'.ownBlock = some k → k ≠ g := fun k hk e => by
    have := old k hk (by omega)
    rw [e, h.kg] at this
    omega
  refine h.mk' (N := fun k => if v'.ownBlock = some k then 5 else 0) hgr.os hgr.tape hgr.output (by rw [size_setCell]; exact s1) ?_ ?_ ?_ ?_ ?_ ?_ ?_ ?_ ?_ ?_ ?_
  · exact (h.rc.of_heap (hgr.block g gl hgne)).set.2.2.2.1 _
  · exact h.hn.move fun k hk => keepR k (by rw [h.kn k hk]; omega) (by rw [h.kn k hk]; omega) (by rw [h.kn k hk]; omega)
  · exact h.role' (by omega) h.kn
  · exact h.hd.move fun k hk => keepR k (by rw [h.kd k hk]; omega) (by rw [h.kd k hk]; omega) (by rw [h.kd k hk]; omega)
  · exact h.role' (by omega) h.kd
  · exact h.rowOld fun k hk h0 => keepR k (by omega) (by omega) (by omega)
  · exact h.role' (by omega) h.kp
  · exact ownsRow_same hob fun k hk => setCell_others _ _ _ _ k (hvg k hk)
  · intro k hk
    by_cases hl : k < w.heap.size
    · rw [newK_old hl]; exact old k hk hl
    · rw [newK_new (by omega)]; simp [hk]
  · intro k hk
    rw [size_setCell]
    by_cases e2 : v'.ownBlock = some k
    · exact hlt k e2
    · simp [e2] at hk
  · intro k hk h0
    exact keep k hk (fun e => by rw [e, h.kg] at h0; omega) (fun e => by have := h.ks k e.symm; omega)

theorem RRepV.settle {w w1 : World} {K : Nat → Nat} {g : Nat} {st : RSt} {vn vd vp vs v' : Value} (h : RRepV w K g st vn vd vp vs) (hob : OB w1 w.heap.size v' st.now) (hb : Below w.heap.size w w1) :
    ∃ K', RRepV (((w1.setCell ⟨g, 2, none⟩ v').setCell ⟨g, 3, none⟩ (.slice none 0 0)).setCell ⟨g, 4, none⟩ (.slice none 0 0)) K' g { st with dur := st.now, rps := [], sizes := [] } vn v' (.slice none 0 0) (.slice none 0 0) ∧ Fr K K' w (((w1.setCell ⟨g, 2, none⟩ v').setCell ⟨g, 3, none⟩ (.slice none 0 0)).setCell ⟨g, 4, none⟩ (.slice none 0 0)) := by
  have s1 := hb.size
  have gl := h.rc.lt
  have keep : ∀ k, k ≠ g → (((w1.setCell ⟨g, 2, none⟩ v').setCell ⟨g, 3, none⟩ (.slice none 0 0)).setCell ⟨g, 4, none⟩ (.slice none 0 0)).heap[k]? = w1.heap[k]? := fun k hg => by
    rw [setCell_others _ _ _ _ k hg, setCell_others _ _ _ _ k hg, setCell_others _ _ _ _ k hg]
  refine h.mk' (N := fun k => if v'.ownBlock = some k then 3 else 0) hb.os hb.tape hb.output (by rw [size_setCell, size_setCell, size_setCell]; exact s1) ?_ ?_ ?_ ?_ ?_ ?_ ?_ ?_ ?_ ?_ ?_
  · exact (((h.rc.of_heap (hb.block g gl)).set.2.1 v').set.2.2.1 _).set.2.2.2.1 _
  · exact h.hn.move fun k hk => by rw [keep k (fun e => by have := h.kn k hk; rw [e, h.kg] at this; omega), hb.block k (h.sup k (by rw [h.kn k hk]; omega))]
  · exact h.role' (by omega) h.kn
  · exact (hob.base (Nat.zero_le _)).move fun k hk => keep k (fun e => by have := (hob.lt k hk).1; omega)
  · intro k hk
    rw [newK_new (hob.lt k hk).1]; simp [hk]
  · exact ⟨[], trivial, World.ownsRow_nil _ _ _ _⟩
  · exact fun k hk => by simp [Value.ownBlock] at hk
  · exact World.ownsRow_nil _ _ _ _
  · exact fun k hk => by simp [Value.ownBlock] at hk
  · intro k hk
    rw [size_setCell, size_setCell, size_setCell]
    by_cases e2 : v'.ownBlock = some k
    · exact (hob.lt k e2).2
    · simp [e2] at hk
  · intro k hk h0
    rw [keep k (fun e => by rw [e, h.kg] at h0; omega), hb.block k hk]
end Go.Proofs.Yteiajeeincapoac
