import Derived.Test.YteiajeeincapoacOps2
import Derived.Deep.DeepMust
namespace Go.Proofs.Yteiajeeincapoac
open Go.RowKit Go.Maps

structure Upd (w w' : World) (K K' : Nat → Nat) (S : Nat → Prop) : Prop where
  size : w.heap.size ≤ w'.heap.size
  role : ∀ k, k < w.heap.size → K' k = K k
  block : ∀ k, K k ≠ 0 → ¬ S (K k) → w'.heap[k]? = w.heap[k]?

theorem RepV.role {w w' : World} {K K' : Nat → Nat} {S : Nat → Prop} {g : Nat} {st : St} {vn vd : Value} {m : Nat} {vs : Value} {D : DataW Unit} (h : RepV w K g st vn vd m vs D) (u : Upd w w' K K' S) {v : Value} {r : Nat} (hr : r ≠ 0) (hv : Role K v r) : Role K' v r := by
  intro k hk
  have := hv k hk
  rw [u.role k (h.sup k (by rw [this]; exact hr)), this]

theorem RepV.now' {w w' : World} {K K' : Nat → Nat} {S : Nat → Prop} {g : Nat} {st : St} {vn vd : Value} {m : Nat} {vs : Value} {D : DataW Unit} (h : RepV w K g st vn vd m vs D) (u : Upd w w' K K' S) (hS : ¬ S 2) : OB w' 0 vn st.now :=
  h.hn.move fun k hk => u.block k (by rw [h.kn k hk]; omega) (by rw [h.kn k hk]; exact hS)

theorem RepV.dur' {w w' : World} {K K' : Nat → Nat} {S : Nat → Prop} {g : Nat} {st : St} {vn vd : Value} {m : Nat} {vs : Value} {D : DataW Unit} (h : RepV w K g st vn vd m vs D) (u : Upd w w' K K' S) (hS : ¬ S 3) : OB w' 0 vd st.dur :=
  h.hd.move fun k hk => u.block k (by rw [h.kd k hk]; omega) (by rw [h.kd k hk]; exact hS)

theorem RepV.map' {w w' : World} {K K' : Nat → Nat} {S : Nat → Prop} {g : Nat} {st : St} {vn vd : Value} {m : Nat} {vs : Value} {D : DataW Unit} (h : RepV w K g st vn vd m vs D) (u : Upd w w' K K' S) (hS : ¬ S 4) : ∃ n, n ≤ st.ents ∧ w'.ownsMap Try.prog 3 tokR m n D := by
  obtain ⟨n, hn, hmm⟩ := h.hm
  exact ⟨n, hn, ownsMap_same hmm (u.block m (by rw [h.km]; omega) (by rw [h.km]; exact hS))⟩

theorem RepV.sizes' {w w' : World} {K K' : Nat → Nat} {S : Nat → Prop} {g : Nat} {st : St} {vn vd : Value} {m : Nat} {vs : Value} {D : DataW Unit} (h : RepV w K g st vn vd m vs D) (u : Upd w w' K K' S) (hS : ¬ S 5) : OI w' vs st.sizes :=
  ownsRow_same h.hs fun k hk => u.block k (by rw [h.ks k hk]; omega) (by rw [h.ks k hk]; exact hS)

theorem PcsOK.roles {w : World} {K K' : Nat → Nat} (hk : ∀ k, K k = 6 → K' k = 6) : ∀ (cs : List Value) (ps : List (Nat × Nat × List Int)), PcsOK w K cs ps → PcsOK w K' cs ps
  | [], [], _ => trivial
  | a :: b :: c :: r, p :: ps, h => by
    obtain ⟨h1, h2, h3, h4, h5⟩ := h
    exact ⟨h1, h2, h3, fun k hk' => hk k (h4 k hk'), PcsOK.roles hk r ps h5⟩

theorem RepV.row' {w w' : World} {K K' : Nat → Nat} {S : Nat → Prop} {g : Nat} {st : St} {vn vd : Value} {m : Nat} {vs : Value} {D : DataW Unit} (h : RepV w K g st vn vd m vs D) (u : Upd w w' K K' S) (h6 : ¬ S 6) (s : Nat) (hS : ¬ S (7 + s)) :
    ∃ v, tokR v = some (D.atKey (.int .i64 s) .nil, []) ∧ Role K' v (7 + s) ∧ RowOK w' K' v (st.pcs s) := by
  obtain ⟨v, h1, h2, cs, h3, h4⟩ := h.rows s
  refine ⟨v, h1, h.role u (by omega) h2, cs, PcsOK.roles (K := K) ?_ _ _ (h3.move fun k hk => u.block k (by omega) (by rw [hk]; exact h6)), ownsRow_same h4 fun k hk => u.block k (by rw [h2 k hk]; omega) (by rw [h2 k hk]; exact hS)⟩
  intro k hk
  rw [u.role k (h.sup k (by omega)), hk]

theorem info3 : (Try.prog.info? 3).map (fun i => (i.zero, i.size, i.bytes)) = some (some (.int .i64 0), 1, 8) := by kernel_rfl

theorem OI.shape {w : World} {v : Value} {l : List Nat} (h : OI w v l) : ∃ a c, v = .slice a l.length c := by
  rcases h.2 with ⟨rfl, h0⟩ | ⟨g, cap, cur, rfl, _⟩
  · exact ⟨none, 0, by rw [h0]⟩
  · exact ⟨_, _, rfl⟩

theorem resize_any {w : World} {K : Nat → Nat} {g : Nat} {st : St} (n : Nat) (h : Rep w K g st) (hn : n ≤ 16777216) (hl : st.now.length ≤ 16777216) (hz : st.sizes.length ≤ 10000000000000) :
    Calls Try.prog 49 #[.pointer (some ⟨g, 0, none⟩), .int .i64 n] w fun e w' => e = .returned (.tuple #[]) ∧ ∃ K', Rep w' K' g { st with now := resz st.now n, sizes := st.sizes ++ [n] } ∧ Fr K K' w w' := by
  obtain ⟨vn, vd, m, vs, D, h⟩ := h
  obtain ⟨c0, c1, c2, c3, c4, c5, c6, c7, c8⟩ := h.dc.at
  have hfz := h.dc.free
  have HR := hide h
  obtain ⟨an, cn, hvn⟩ := h.hn.shape
  obtain ⟨az, cz, hvs⟩ := h.hs.shape
  subst hvn hvs
  have HC := hide (show DC w g st.cap _ vd m _ st.calls st.dead st.fused st.left from h.dc)
  clear h c0 c2 c3 c5 c6 c7 c8
  obtain ⟨i0, hi, hz0, hz1, hz2⟩ := info_parts info3
  go_enter Try.func49, Try.ntmps49
  go_wp2_with fail
  refine (resized_any n HR.out.hn hn hl).mono ?_
  rintro e w1 ⟨a', c', rfl, hob, hgr, hloc⟩
  have hne : some g ≠ (Value.slice an st.now.length cn).ownBlock := fun e => by
    have := HR.out.kn g e.symm
    rw [HR.out.kg] at this
    omega
  have hd1 : DC w1 g st.cap (.slice an st.now.length cn) vd m (.slice az st.sizes.length cz) st.calls st.dead st.fused st.left := (hgr.block g HR.out.dc.lt hne).trans HR.out.dc
  have hd2 := hd1.set.1 (.slice a' n c')
  obtain ⟨_, e1, _, _, _, _⟩ := hd1.at
  have f1 := hd1.free
  obtain ⟨_, _, _, _, e4, _⟩ := hd2.at
  have f2 := hd2.free
  clear c1 c4 hfz
  have hs1 : (w1.setCell ⟨g, 1, none⟩ (.slice a' n c')).ownsRow 0 3 1 (.slice az st.sizes.length cz) st.sizes.length (st.sizes.map fun (n : Nat) => Value.int .i64 n) := by
    refine ownsRow_same HR.out.hs fun k hk => ?_
    have hk5 := HR.out.ks k hk
    rw [setCell_others _ _ _ _ k (fun e => by rw [e, HR.out.kg] at hk5; omega)]
    exact hgr.block k (HR.out.sup k (by rw [hk5]; omega)) (fun e => by have := HR.out.kn k e.symm; omega)
  have HS1 := hide hs1
  have HG := hide hgr
  have HO := hide hob
  have HL := hide hloc
  have HD2 := hide hd2
  clear hs1 hgr hob hloc hd1 hd2 hne
  go_wp2_with (at_builtin; go_must (refine wpList_append_own_at _ rfl _ _ 24 rfl 0 3 i0 (.int .i64 0) 1 8 Try.underlying24 hi hz0 hz1 hz2 rfl (by decide) _ _ _ rfl (HS1.out.alloc _) ⟨w1.heap.size, 0, none⟩ 1 1 [.int .i64 n] rfl rfl ?cc (ints_oneCell .i64 [(n : Int)]) (by unfold maxLen; omega) (by omega) (Nat.zero_le _) ?_))
  case cc =>
    have := cell_one_new (w1.setCell ⟨g, 1, none⟩ (.slice a' n c')) (.int .i64 n) 3
    rw [size_setCell] at this
    exact this
  intro v' w3 hown hgrow _ hloc3
  have hg3 : ∀ k, k < w1.heap.size → some k ≠ (Value.slice az st.sizes.length cz).ownBlock → w3.heap[k]? = (w1.setCell ⟨g, 1, none⟩ (.slice a' n c')).heap[k]? := fun k hk hne =>
    (hgrow.block k (by rw [size_alloc', size_setCell]; omega) hne).trans (Below.heap_alloc _ _ k (by rw [size_setCell]; exact hk))
  have hgw1 : g < w1.heap.size := Nat.lt_of_lt_of_le HR.out.dc.lt HG.out.size
  have hng : some g ≠ (Value.slice az st.sizes.length cz).ownBlock := fun e => by
    have := HR.out.ks g e.symm
    rw [HR.out.kg] at this
    omega
  have hd3 : DC w3 g st.cap (.slice a' n c') vd m (.slice az st.sizes.length cz) st.calls st.dead st.fused st.left := (hg3 g hgw1 hng).trans HD2.out
  obtain ⟨_, _, _, _, q4, _⟩ := hd3.at
  have f3 := hd3.free
  have HD3 := hide hd3
  have HG3 := hide hg3
  have hl3 : v'.ownBlock = (Value.slice az st.sizes.length cz).ownBlock ∨ v'.ownBlock = some (w1.heap.size + 1) := hloc3
  have HL3 := hide hl3
  have hsz3 : w1.heap.size + 1 ≤ w3.heap.size := by have := hgrow.size; rw [size_alloc', size_setCell] at this; exact this
  have hoi : OI w3 v' (st.sizes ++ [n]) := by
    show w3.ownsRow 0 3 1 v' (st.sizes ++ [n]).length _
    rw [List.length_append, List.map_append]
    exact hown
  have HOI := hide hoi
  obtain ⟨a2, c2, hv2⟩ := hoi.shape
  rw [List.length_append, List.length_singleton] at hv2
  have hext : w3.os = w.os ∧ w3.tape = w.tape ∧ w3.output = w.output := ⟨hgrow.os.trans HG.out.os, hgrow.tape.trans HG.out.tape, hgrow.output.trans HG.out.output⟩
  have HX := hide hext
  clear hd3 hg3 hl3 hloc3 hown hgrow hoi hext e1 f1 e4 f2 hng
  rw [hv2] at HL3 HOI ⊢
  clear hv2
  go_wp2
  go_end0
  have hR := HR.out
  have hd4 := HD3.out.set.2.2.2.1 (.slice a2 (st.sizes.length + 1) c2)
  have hlt1 : ∀ k, (Value.slice a' n c').ownBlock = some k → k < w1.heap.size := fun k hk => (HO.out.lt k hk).2
  have hlt3 : ∀ k, (Value.slice a2 (st.sizes.length + 1) c2).ownBlock = some k → k < w3.heap.size := fun k hk => (World.ownsRow.lt HOI.out k hk).2
  have hws : w.heap.size ≤ w1.heap.size := HG.out.size
  have hne2 : ∀ k, (Value.slice a' n c').ownBlock = some k → w.heap.size ≤ k → k = w.heap.size := fun k hk hk2 => by
    rcases HL.out with e | e
    · rw [e] at hk
      have := hR.sup k (by rw [hR.kn k hk]; omega)
      omega
    · rw [e] at hk; simpa using hk.symm
  have hne5 : ∀ k, (Value.slice a2 (st.sizes.length + 1) c2).ownBlock = some k → w.heap.size ≤ k → k = w1.heap.size + 1 := fun k hk hk2 => by
    rcases HL3.out with e | e
    · rw [e] at hk
      have := hR.sup k (by rw [hR.ks k hk]; omega)
      omega
    · rw [e] at hk; simpa using hk.symm
  have old2 : ∀ k, (Value.slice a' n c').ownBlock = some k → k < w.heap.size → K k = 2 := fun k hk hk2 => by
    rcases HL.out with e | e
    · rw [e] at hk; exact hR.kn k hk
    · rw [e] at hk; simp at hk; omega
  have old5 : ∀ k, (Value.slice a2 (st.sizes.length + 1) c2).ownBlock = some k → k < w.heap.size → K k = 5 := fun k hk hk2 => by
    rcases HL3.out with e | e
    · rw [e] at hk; exact hR.ks k hk
    · rw [e] at hk; simp at hk; omega
  have u : Upd w (w3.setCell ⟨g, 4, none⟩ (.slice a2 (st.sizes.length + 1) c2)) K (fun k => if k < w.heap.size then K k else if (Value.slice a' n c').ownBlock = some k then 2 else if (Value.slice a2 (st.sizes.length + 1) c2).ownBlock = some k then 5 else 0) (fun r => r = 1 ∨ r = 2 ∨ r = 5) := by
    refine ⟨by rw [size_setCell]; omega, fun k hk => by simp [hk], fun k h0 hS => ?_⟩
    have hk := hR.sup k h0
    have k1 : k ≠ g := fun e => hS (by rw [e, hR.kg]; omega)
    have k2 : some k ≠ (Value.slice an st.now.length cn).ownBlock := fun e => hS (by rw [hR.kn k e.symm]; omega)
    have k5 : some k ≠ (Value.slice az st.sizes.length cz).ownBlock := fun e => hS (by rw [hR.ks k e.symm]; omega)
    rw [setCell_others _ _ _ _ k k1, HG3.out k (by omega) k5, setCell_others _ _ _ _ k k1]
    exact HG.out.block k hk k2
  have hob2 : ∀ k, (Value.slice a' n c').ownBlock = some k → (w3.setCell ⟨g, 4, none⟩ (.slice a2 (st.sizes.length + 1) c2)).heap[k]? = w1.heap[k]? := fun k hk => by
    have hk1 := hlt1 k hk
    have kg : k ≠ g := fun e => by
      have hlt := hR.dc.lt
      have := old2 k hk (by omega)
      rw [e, hR.kg] at this; omega
    have k5 : some k ≠ (Value.slice az st.sizes.length cz).ownBlock := fun e => by
      have h5 := hR.ks k e.symm
      have := old2 k hk (hR.sup k (by omega))
      omega
    rw [setCell_others _ _ _ _ k kg, HG3.out k hk1 k5, setCell_others _ _ _ _ k kg]
  have hob5 : ∀ k, (Value.slice a2 (st.sizes.length + 1) c2).ownBlock = some k → (w3.setCell ⟨g, 4, none⟩ (.slice a2 (st.sizes.length + 1) c2)).heap[k]? = w3.heap[k]? := fun k hk => by
    have kg : k ≠ g := fun e => by
      have hlt := hR.dc.lt
      have := old5 k hk (by omega)
      rw [e, hR.kg] at this; omega
    rw [setCell_others _ _ _ _ k kg]
  refine ⟨rfl, _, ⟨.slice a' n c', vd, m, .slice a2 (st.sizes.length + 1) c2, D, ?_⟩, ⟨HX.out.1, HX.out.2.1, HX.out.2.2, u.size, fun k hk h0 => ?_, u.role⟩⟩
  · refine { dc := hd4, kg := by simp [hR.dc.lt, hR.kg], hn := HO.out.move hob2, kn := ?_, hd := hR.dur' u (by simp), kd := hR.role u (by omega) hR.kd, hm := hR.map' u (by simp), km := ?_, hs := ownsRow_same HOI.out hob5, ks := ?_, rows := fun s => hR.row' u (by simp) s (by omega), keys := hR.keys, sup := ?_ }
    · intro k hk
      by_cases hk2 : k < w.heap.size
      · simp [hk2, old2 k hk hk2]
      · simp [hk2, hk]
    · rw [u.role m (hR.sup m (by rw [hR.km]; omega)), hR.km]
    · intro k hk
      by_cases hk2 : k < w.heap.size
      · simp [hk2, old5 k hk hk2]
      · have : (Value.slice a' n c').ownBlock ≠ some k := fun e => by
          have := hlt1 k e
          have := hne5 k hk (by omega)
          omega
        simp [hk2, hk, this]
    · intro k hk
      rw [size_setCell]
      by_cases hk2 : k < w.heap.size
      · omega
      by_cases e2 : (Value.slice a' n c').ownBlock = some k
      · have := hlt1 k e2; omega
      by_cases e5 : (Value.slice a2 (st.sizes.length + 1) c2).ownBlock = some k
      · exact hlt3 k e5
      simp [hk2, e2, e5] at hk
  · have k1 : k ≠ g := fun e => by rw [e, hR.kg] at h0; omega
    have k2 : some k ≠ (Value.slice an st.now.length cn).ownBlock := fun e => by have := hR.kn k e.symm; omega
    have k5 : some k ≠ (Value.slice az st.sizes.length cz).ownBlock := fun e => by have := hR.ks k e.symm; omega
    rw [setCell_others _ _ _ _ k k1, HG3.out k (by omega) k5, setCell_others _ _ _ _ k k1]
    exact HG.out.block k hk k2
end Go.Proofs.Yteiajeeincapoac
