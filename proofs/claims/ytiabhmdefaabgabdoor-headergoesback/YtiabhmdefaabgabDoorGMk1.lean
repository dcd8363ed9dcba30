import Derived.Test.YtiabhmdefaabgabDoorGRmy
import Derived.Test.YtiabhmdefaabgabDoorGRnw
namespace Go.Proofs.YtiabhmdefaabgabDoor
open Go.RowKit Go.Maps
set_option maxRecDepth 20000
set_option linter.unusedVariables false

theorem zeroCells_int (n : Nat) : (Builtin.zeroCells #[Value.int .i64 0] n) = (List.replicate n (Value.int .i64 0)).toArray := by
  have e : ∀ k : Nat, [Value.int IntKind.i64 0][k % 1]?.getD default = Value.int .i64 0 := fun k => by simp [Nat.mod_one]
  apply Array.ext'
  simp [Builtin.zeroCells, e, List.map_const']

set_option linter.unusedSimpArgs false in
/-- append of zeros onto nothing: a new block. -/
theorem run_zerosI (w : World) (ty : TypeId) (m : Nat) (hm : 0 < m) (hb : m ≤ 1048576) :
    ∃ C w', (Builtin.append_ #[22, 3] ty #[.slice none 0 0, .int .i64 m]).run Tryd.prog w = .ok (.slice (some ⟨w.heap.size, 0, none⟩) m C) w' ∧ m ≤ C ∧ C ≤ maxLen ∧ (∃ zs : List Value, w'.heap[w.heap.size]? = some (.cells zs.toArray 3 (0, 0)) ∧ zs.length = C) ∧ Below w.heap.size w w' := by
  obtain ⟨i, hi, hz, hsize, hby⟩ := info_parts infoInt
  have ht := Tryd.underlying22
  have hti := Tryd.underlying3
  have hwr : IntKind.i64.wrap (m : Int) = m := by rw [IntKind.wrap_i64]; omega
  have hneg : ¬ ((m : Int) < 0) := by omega
  have hbig : ¬ (281474976710656 < (m : Int)) := by omega
  have hm0 : m ≠ 0 := by omega
  have hge := grownCap_ge w m 0 3
  have hcm := grownCap_le_maxLen w m 0 3 (by unfold maxLen; omega)
  have has : ∀ W : World, (asInt (Value.int .i64 m)).run Tryd.prog W = .ok (m : Int) W := fun _ => rfl
  have hcl : (Value.int .i64 0).cells = #[Value.int .i64 0] := rfl
  have h48 : ¬ (281474976710656 < Builtin.nextslicecap m 0 * 8) := by have := growslice_fits (need := m) (old := 0) (bytes := 8) (by omega) (by omega); omega
  refine ⟨grownCap w m 0 3, w.drew.alloc (.cells ((List.replicate m (Value.int .i64 0)).toArray ++ (List.replicate (grownCap w m 0 3 - m) (Value.int .i64 0)).toArray) 3), ?_, hge, hcm, ⟨List.replicate m (Value.int .i64 0) ++ List.replicate (grownCap w m 0 3 - m) (Value.int .i64 0), ?_, by simp; omega⟩, (Below.refl _ _).drew.alloc (Nat.le_refl _) _⟩
  · have hle : ¬ ((m : Int) ≤ 0) := by omega
    have hsm : ¬ (281474976710656 < (m : Int) * 8) := by omega
    simp [Builtin.append_, run_underlying ht, run_underlying hti, has, hcl, hle, hsm, sizeOf, typeInfo, zeroValue, hi, hz, hsize, hby, hwr, hneg, hbig, hm0, h48, zeroCells_int, Question.forced, run_firstCells_none, newRow, grownCap]
    try (intro h; omega)
  · refine (heap_alloc_new w.drew _).trans ?_
    simp

theorem wpList_zerosI {w : World} {ops : Array Oper} {rest : List Oper} {o : Oper} {a : Act} {Q : Exit → Act → World → Prop} (hgd : o.guard = none) (s x : Operand)
    (ho : o.op = .call { callee := .builtin .append, args := #[s, x], argTypes := #[22, 3] }) (hs : a.eval s = .slice none 0 0) (m : Nat) (M : Int) (hx : a.eval x = .int .i64 M) (hM : M = m) (hm : 0 < m) (hb : m ≤ 1048576)
    (h : ∀ C w', m ≤ C → C ≤ maxLen → (∃ zs : List Value, w'.heap[w.heap.size]? = some (.cells zs.toArray 3 (0, 0)) ∧ zs.length = C) → Below w.heap.size w w' → wpList Tryd.prog ops Q rest (a.put o.dst (.slice (some ⟨w.heap.size, 0, none⟩) m C)) w') :
    wpList Tryd.prog ops Q (o :: rest) a w := by
  refine wpList_plain hgd fun K hK => ?_
  subst hM
  obtain ⟨C, w', hr, h1, h2, h3, h4⟩ := run_zerosI w o.type m hm hb
  unfold Oper.wp
  simp [execOp, ho, resolve, invoke, builtin, hs, hx, hr, Result.andThen]
  exact hK _ _ (h C w' h1 h2 h3 h4)

theorem growI_any (n : Nat) (w : World) (h1 : 1 ≤ n) (hn : n ≤ 1048576) :
    Calls Tryd.prog 61 #[.slice none 0 0, .int .i64 n] w fun e w' => ∃ c, e = .returned (.slice (some ⟨w.heap.size, 0, none⟩) 0 c) ∧ OI w' w.heap.size (.slice (some ⟨w.heap.size, 0, none⟩) 0 c) [] ∧ Below w.heap.size w w' := by
  have hnp : (0 : Int) < n := by omega
  go_enter Tryd.func61, Tryd.ntmps61
  go_wp2_with (at_builtin; refine wpList_zerosI rfl _ _ rfl rfl n _ rfl (by first | rfl | (simp; done)) (by omega) (by omega) ?_)
  intro C w1 h1 h2 zs h3 h5 h4
  have HO : Hid (OI w1 w.heap.size (.slice (some ⟨w.heap.size, 0, none⟩) 0 C) []) := ⟨by simp, .inr ⟨w.heap.size, C, _, rfl, Nat.le_refl _, h3, Nat.zero_le _, h2, by simp at h5 ⊢; omega, by simp⟩⟩
  have HB := hide h4
  unfold maxLen at h2
  clear h3 h4 h5
  go_wp2
  go_ret
  exact ⟨_, rfl, HO.out, HB.out⟩

set_option maxHeartbeats 1000000 in
theorem concat_any (g : Nat) (v1 v2 : Value) (l1 l2 : List Int) (w : World) (hg : w.heap[g]? = some (.cells #[v1, v2] 22 (0, 0))) (s1 : SI w v1 l1) (s2 : SI w v2 l2) (h1 : 1 ≤ l1.length) (hn : l1.length + l2.length ≤ 100000) :
    Calls Tryd.prog 35 #[.slice (some ⟨g, 0, none⟩) 2 2] w fun e w' => ∃ a c, e = .returned (.slice a (l1 ++ l2).length c) ∧ OI w' w.heap.size (.slice a (l1 ++ l2).length c) (l1 ++ l2) ∧ Below w.heap.size w w' := by
  have H1 := hide s1
  have H2 := hide s2
  have hgl : g < w.heap.size := by
    rcases Nat.lt_or_ge g w.heap.size with h | h
    · exact h
    · rw [Array.getElem?_eq_none h] at hg; cases hg
  obtain ⟨a1, c1, rfl, hc1, hd1⟩ := s1.open
  obtain ⟨a2, c2, rfl, hc2, hd2⟩ := s2.open
  have e0 : w.cell? ⟨g, 0, none⟩ = some (.slice a1 l1.length c1) := by unfold World.cell?; rw [hg]; rfl
  have e1 : w.cell? ⟨g, 1, none⟩ = some (.slice a2 l2.length c2) := by unfold World.cell?; rw [hg]; rfl
  clear s1 s2
  go_enter Tryd.func35, Tryd.ntmps35
  go_wp2
  refine wp_loop_rounds 3 ?_
  rw [rounds_succ]
  go_wp2
  rw [rounds_succ]
  go_wp2
  rw [rounds_succ]
  go_wp2_with fail
  have HGR := hide (growI_any (l1.length + l2.length) w (by omega) (by omega))
  rw [Int.natCast_add] at HGR
  refine HGR.out.mono ?_
  rintro e w1 ⟨c3, rfl, o3, b3⟩
  have HO3 := hide o3
  have HB3 := hide b3
  have f0 : w1.cell? ⟨g, 0, none⟩ = some (.slice a1 l1.length c1) := (b3.cell hgl).trans e0
  have HS1 := hide (H1.out.below b3).src
  have hb3 := b3.size
  clear HGR o3 b3
  go_wp2
  refine wp_loop_rounds 3 ?_
  rw [rounds_succ]
  go_wp2_with (at_builtin; refine wpList_appI rfl _ _ 22 rfl w.heap.size (.slice (some ⟨w.heap.size, 0, none⟩) 0 c3) _ [] l1 rfl HO3.out rfl HS1.out (by simp; omega) (by omega) ?_)
  intro v4 w4 ho4 hg4
  have HB4 := hide (HB3.out.grown hg4.by hb3 (fun j hj => (HO3.out.lt j hj).1))
  have HO4 : Hid (OI w4 w.heap.size v4 l1) := ho4
  have f1 : w4.cell? ⟨g, 1, none⟩ = some (.slice a2 l2.length c2) := (HB4.out.cell hgl).trans e1
  have HS2 := hide (H2.out.below HB4.out).src
  have hb4 := HB4.out.size
  obtain ⟨a4, c4, hv4⟩ := HO4.out.shape
  subst hv4
  clear ho4 hg4
  go_wp2
  rw [rounds_succ]
  go_wp2_with (at_builtin; refine wpList_appI rfl _ _ 22 rfl w.heap.size (.slice a4 l1.length c4) _ l1 l2 rfl HO4.out rfl HS2.out (by omega) (by omega) ?_)
  intro v5 w5 ho5 hg5
  have HB5 := hide (HB4.out.grown hg5.by hb4 (fun j hj => (HO4.out.lt j hj).1))
  have HO5 := hide ho5
  obtain ⟨a5, c5, hv5⟩ := ho5.shape
  subst hv5
  clear ho5 hg5
  go_wp2
  rw [rounds_succ]
  go_wp2
  go_ret
  exact ⟨_, _, rfl, HO5.out, HB5.out⟩

/-- A list without the zeros at its end, but with at least f lengths. -/
def tlk (l : List Int) (f : Nat) : Nat → Nat
  | 0 => 0
  | n + 1 => if f < n + 1 ∧ l.getD n 0 = 0 then tlk l f n else n + 1
def tln (l : List Int) (f : Nat) : Nat := tlk l f l.length
def trm (l : List Int) (f : Nat) : List Int := l.take (tln l f) ++ List.replicate (f - tln l f) 0

theorem tl_le (l : List Int) (f : Nat) : ∀ n, tlk l f n ≤ n
  | 0 => Nat.le_refl _
  | n + 1 => by simp only [tlk]; split
                · have := tl_le l f n; omega
                · exact Nat.le_refl _
theorem tl_ge (l : List Int) (f : Nat) : ∀ n, f ≤ n → f ≤ tlk l f n
  | 0, h => h
  | n + 1, h => by simp only [tlk]; split
                   · rename_i q; exact tl_ge l f n (by omega)
                   · exact h
theorem tl_low (l : List Int) (f n : Nat) (h : n ≤ f) : tlk l f n = n := by
  cases n with
  | zero => rfl
  | succ n => simp only [tlk]; rw [if_neg (by omega)]
theorem tl_zero (l : List Int) (f : Nat) : ∀ n j, tlk l f n ≤ j → j < n → l.getD j 0 = 0
  | 0, _, _, h => by omega
  | n + 1, j, h1, h2 => by
    simp only [tlk] at h1
    split at h1
    · rename_i q
      by_cases e : j = n
      · rw [e]; exact q.2
      · exact tl_zero l f n j h1 (by omega)
    · omega

theorem tln_le (l : List Int) (f : Nat) : tln l f ≤ l.length := tl_le l f _
theorem trm_len (l : List Int) (f : Nat) : (trm l f).length = max (tln l f) f := by
  unfold trm
  rw [List.length_append, List.length_take, List.length_replicate]
  have := tln_le l f
  omega

theorem trm_all (l : List Int) (f : Nat) (h : ∀ x ∈ l, 0 ≤ x ∧ x ≤ 15) : ∀ x ∈ trm l f, 0 ≤ x ∧ x ≤ 15 := by
  intro x hx
  unfold trm at hx
  rcases List.mem_append.1 hx with e | e
  · exact h x (List.mem_of_mem_take e)
  · rw [List.mem_replicate] at e; omega

/-- What is read beyond the end is a zero: so the lists begin alike. -/
theorem trm_getD (l : List Int) (f j : Nat) : (trm l f).getD j 0 = l.getD j 0 := by
  unfold trm
  simp only [List.getD_eq_getElem?_getD]
  have hle := tln_le l f
  by_cases h : j < tln l f
  · rw [List.getElem?_append_left (by rw [List.length_take]; omega), List.getElem?_take, if_pos h]
  · rw [List.getElem?_append_right (by rw [List.length_take]; omega)]
    have z : (l[j]?).getD 0 = 0 := by
      by_cases q : j < l.length
      · have := tl_zero l f l.length j (by unfold tln at h; omega) q
        rwa [List.getD_eq_getElem?_getD] at this
      · rw [List.getElem?_eq_none (by omega)]; rfl
    rw [z, List.getElem?_replicate]
    split <;> rfl

theorem trm_cut {l : List Int} {f N : Nat} (hN : N = max (tln l f) f) (ht : tln l f < f → tln l f = l.length) : trm l f = l.take N ++ List.replicate (N - min N l.length) 0 := by
  have hle := tln_le l f
  unfold trm
  by_cases h : tln l f < f
  · have e := ht h
    have eN : N = f := by omega
    rw [eN, e, List.take_of_length_le (Nat.le_refl _), List.take_of_length_le (by omega), show f - min f l.length = f - l.length by omega]
  · have eN : N = tln l f := by omega
    rw [eN, show f - tln l f = 0 by omega, show tln l f - min (tln l f) l.length = 0 by omega]

set_option maxHeartbeats 2000000 in
theorem trimmed_any (v : Value) (l : List Int) (f : Nat) (w : World) (h : SI w v l) (hf : f ≤ 257) (hn : l.length ≤ 286) :
    Calls Tryd.prog 32 #[v, .int .i64 f] w fun e w' => ∃ g, e = .returned (.slice (some ⟨g, 0, none⟩) (trm l f).length (trm l f).length) ∧ OI w' w.heap.size (.slice (some ⟨g, 0, none⟩) (trm l f).length (trm l f).length) (trm l f) ∧ Below w.heap.size w w' := by
  have HS := hide h
  obtain ⟨ao, cap, rfl, hlc, hcm⟩ := h.open
  clear h
  go_enter Tryd.func32, Tryd.ntmps32
  go_wp2
  go_loopw [5] (fun i wr => ∃ k : Nat, k ≤ l.length ∧ i = .int .i64 k ∧ wr = w ∧ Hid (tln l f = tlk l f k) ∧ (k < f → k = l.length)) (fun i _ => (intOf i).toNat)
  case atStart => exact ⟨l.length, Nat.le_refl _, rfl, rfl, rfl, fun _ => rfl⟩
  case round =>
    obtain ⟨k, hk, rfl, hw, HK, hkf⟩ := hrel
    subst hw
    have EXITS : Hid (tln l f = k → ∀ Z : Prop, Z → Z) := fun _ _ z => z
    by_cases hlt : f < k
    · have hlt' : (f : Int) < (k : Int) := by omega
      obtain ⟨j, rfl⟩ : ∃ j, k = j + 1 := ⟨k - 1, by omega⟩
      obtain ⟨b, o, rfl, hc⟩ := HS.out.get (Below.refl _ _) (k := j) (by omega)
      have HT : Hid (tlk l f (j + 1) = if l.getD j 0 = 0 then tlk l f j else j + 1) := by
        show _ = _
        simp only [tlk]
        by_cases q : l.getD j 0 = 0
        · rw [if_pos ⟨hlt, q⟩, if_pos q]
        · rw [if_neg (fun z => q z.2), if_neg q]
      obtain ⟨y, HY⟩ : ∃ y, Hid (y = l.getD j 0) := ⟨_, rfl⟩
      rw [← HY.out] at hc HT
      have ej : ((j : Int) + 1 - 1) = (j : Int) := by omega
      by_cases hy : y = 0
      · subst hy
        have HK2 : Hid (tln l f = tlk l f j) := by show _ = _; rw [HK.out, HT.out, if_pos rfl]
        go_wp2
        go_roundw
        case rel => exact ⟨j, by omega, by go_num, trivial, HK2, by omega⟩
        case measure => simp [intOf]
      · have hy' : (y == 0) = false := by simpa using hy
        have HK2 : Hid (tln l f = j + 1) := by show _ = _; rw [HK.out, HT.out, if_neg hy]
        obtain ⟨N, hN1, hN2⟩ : ∃ N, N ≤ j + 1 ∧ j + 1 ≤ N := ⟨j + 1, Nat.le_refl _, Nat.le_refl _⟩
        have HNN : Hid (N = max (tln l f) f) := by show _ = _; rw [HK2.out]; omega
        have HTC : Hid (tln l f < f → tln l f = l.length) := fun q => by have := HK2.out; omega
        have HTR := hide (trm_cut (l := l) (f := f) (N := N) HNN.out HTC.out)
        have HLN : Hid ((trm l f).length = N) := by show _ = _; rw [trm_len]; exact HNN.out.symm
        obtain ⟨cs, HCS⟩ : ∃ cs, Hid (cs = (l.take N).map (Value.int .i64)) := ⟨_, rfl⟩
        have C1 : Hid (cs.length = Nat.min l.length N) := by show _ = _; rw [HCS.out, List.length_map, List.length_take]; exact Nat.min_comm _ _
        go_wp2_with (at_make; refine wpList_mkI rfl _ _ rfl _ _ _ _ N N rfl rfl (by omega) (by omega) (Nat.le_refl _) (by omega) ?_)
        intro w2 hg2 hb2
        have HG2 := hide hg2
        have HB2 := hide hb2
        have C2 : Hid (0 < cs.length → (some (⟨wr.heap.size, 0, none⟩ : Addr)) = some ⟨wr.heap.size, 0, none⟩ ∧ ∃ ad, (some (⟨b, o, none⟩ : Addr)) = some ad ∧ ∀ j v, cs[j]? = some v → w2.cell? (ad.add j) = some v) := by
          intro hp
          refine ⟨rfl, ?_⟩
          rw [C1.out] at hp
          obtain ⟨ao', cap', he, _, _, hnil, hcell⟩ := HS.out
          simp only [Value.slice.injEq] at he
          obtain ⟨rfl, -, rfl⟩ := he
          cases hq : (some (⟨b, o, none⟩ : Addr)) with
          | none => exact absurd (hnil hq) (by have : Nat.min l.length N ≤ l.length := Nat.min_le_left _ _; omega)
          | some x =>
            refine ⟨x, rfl, fun j u hj => ?_⟩
            rw [HCS.out] at hj
            obtain ⟨hjl, rfl⟩ := List.getElem?_eq_some_iff.1 hj
            have hjl' : j < l.length := by simp at hjl; omega
            have hc := hcell x hq j hjl'
            rw [HB2.out.cell (World.block_lt_of_cell? _ _ hc), hc]
            simp [hjl']
        have C3 : Hid (0 + cs.length ≤ (List.replicate N (Value.int .i64 0)).length) := by show _ ≤ _; rw [C1.out, List.length_replicate, Nat.zero_add]; exact Nat.min_le_right _ _
        have C4 : Hid (∀ v ∈ cs, v.oneCell' = true) := by rw [HCS.out]; intro u hu; obtain ⟨n, _, rfl⟩ := List.mem_map.1 hu; rfl
        clear hg2 hb2
        go_wp2_with (refine wpList_copy_splice rfl _ _ 22 22 rfl 3 Tryd.underlying22 sizeInt _ _ _ _ _ _ rfl rfl wr.heap.size 0 (List.replicate N (Value.int .i64 0)) 3 HG2.out cs C1.out C2.out C3.out C4.out wr.heap.size wr HB2.out (Nat.le_refl _) ?_)
        intro w3 HG3 hb3
        have HF : Hid (OI w3 wr.heap.size (.slice (some ⟨wr.heap.size, 0, none⟩) N N) (trm l f)) := by
          have e : splice (List.replicate N (Value.int .i64 0)) 0 cs = (trm l f).map (Value.int .i64) := by
            have hc1 := C1.out
            rw [HTR.out, List.map_append, List.map_replicate, ← HCS.out]
            simp only [splice, List.take_zero, List.nil_append, Nat.zero_add, List.drop_replicate]
            rw [hc1]
            congr 2
            have : Nat.min l.length N = min N l.length := Nat.min_comm _ _
            omega
          have h := HG3.out
          rw [e] at h
          have := OI.of_full h (Nat.le_refl _) (by rw [HLN.out]; unfold maxLen; omega)
          rwa [HLN.out] at this
        have HB3 := hide hb3
        clear hb3 HG3
        go_wp2
        go_ret
        rw [HLN.out]
        exact ⟨_, rfl, HF.out, HB3.out⟩
    · have hlt' : ¬ (f : Int) < (k : Int) := by omega
      have hd : decide ((f : Int) < (k : Int)) = false := decide_eq_false hlt'
      have HK2 : Hid (tln l f = k) := by show _ = _; rw [HK.out, tl_low l f k (by omega)]
      obtain ⟨N, hN1, hN2⟩ : ∃ N, N ≤ f ∧ f ≤ N := ⟨f, Nat.le_refl _, Nat.le_refl _⟩
      have HNN : Hid (N = max (tln l f) f) := by show _ = _; rw [HK2.out]; omega
      have HTC : Hid (tln l f < f → tln l f = l.length) := fun q => by have := HK2.out; omega
      by_cases kf : k < f
      · have kf' : (k : Int) < (f : Int) := by omega
        have kf2 : (k : Int) ≤ (f : Int) := by omega
        have HTR := hide (trm_cut (l := l) (f := f) (N := N) HNN.out HTC.out)
        have HLN : Hid ((trm l f).length = N) := by show _ = _; rw [trm_len]; exact HNN.out.symm
        obtain ⟨cs, HCS⟩ : ∃ cs, Hid (cs = (l.take N).map (Value.int .i64)) := ⟨_, rfl⟩
        have C1 : Hid (cs.length = Nat.min l.length N) := by show _ = _; rw [HCS.out, List.length_map, List.length_take]; exact Nat.min_comm _ _
        go_wp2_with (at_make; refine wpList_mkI rfl _ _ rfl _ _ _ _ N N rfl rfl (by omega) (by omega) (Nat.le_refl _) (by omega) ?_)
        intro w2 hg2 hb2
        have HG2 := hide hg2
        have HB2 := hide hb2
        have C2 : Hid (0 < cs.length → (some (⟨wr.heap.size, 0, none⟩ : Addr)) = some ⟨wr.heap.size, 0, none⟩ ∧ ∃ ad, ao = some ad ∧ ∀ j v, cs[j]? = some v → w2.cell? (ad.add j) = some v) := by
          intro hp
          refine ⟨rfl, ?_⟩
          rw [C1.out] at hp
          obtain ⟨ao', cap', he, _, _, hnil, hcell⟩ := HS.out
          simp only [Value.slice.injEq] at he
          obtain ⟨rfl, -, rfl⟩ := he
          cases hq : ao with
          | none => exact absurd (hnil hq) (by have : Nat.min l.length N ≤ l.length := Nat.min_le_left _ _; omega)
          | some x =>
            refine ⟨x, rfl, fun j u hj => ?_⟩
            rw [HCS.out] at hj
            obtain ⟨hjl, rfl⟩ := List.getElem?_eq_some_iff.1 hj
            have hjl' : j < l.length := by simp at hjl; omega
            have hc := hcell x hq j hjl'
            rw [HB2.out.cell (World.block_lt_of_cell? _ _ hc), hc]
            simp [hjl']
        have C3 : Hid (0 + cs.length ≤ (List.replicate N (Value.int .i64 0)).length) := by show _ ≤ _; rw [C1.out, List.length_replicate, Nat.zero_add]; exact Nat.min_le_right _ _
        have C4 : Hid (∀ v ∈ cs, v.oneCell' = true) := by rw [HCS.out]; intro u hu; obtain ⟨n, _, rfl⟩ := List.mem_map.1 hu; rfl
        clear hg2 hb2
        go_wp2_with (refine wpList_copy_splice rfl _ _ 22 22 rfl 3 Tryd.underlying22 sizeInt _ _ _ _ _ _ rfl rfl wr.heap.size 0 (List.replicate N (Value.int .i64 0)) 3 HG2.out cs C1.out C2.out C3.out C4.out wr.heap.size wr HB2.out (Nat.le_refl _) ?_)
        intro w3 HG3 hb3
        have HF : Hid (OI w3 wr.heap.size (.slice (some ⟨wr.heap.size, 0, none⟩) N N) (trm l f)) := by
          have e : splice (List.replicate N (Value.int .i64 0)) 0 cs = (trm l f).map (Value.int .i64) := by
            have hc1 := C1.out
            rw [HTR.out, List.map_append, List.map_replicate, ← HCS.out]
            simp only [splice, List.take_zero, List.nil_append, Nat.zero_add, List.drop_replicate]
            rw [hc1]
            congr 2
            have : Nat.min l.length N = min N l.length := Nat.min_comm _ _
            omega
          have h := HG3.out
          rw [e] at h
          have := OI.of_full h (Nat.le_refl _) (by rw [HLN.out]; unfold maxLen; omega)
          rwa [HLN.out] at this
        have HB3 := hide hb3
        clear hb3 HG3
        go_wp2
        go_ret
        rw [HLN.out]
        exact ⟨_, rfl, HF.out, HB3.out⟩
      · obtain rfl : k = f := by omega
        have HTR := hide (trm_cut (l := l) (f := k) (N := N) HNN.out HTC.out)
        have HLN : Hid ((trm l k).length = N) := by show _ = _; rw [trm_len]; exact HNN.out.symm
        obtain ⟨cs, HCS⟩ : ∃ cs, Hid (cs = (l.take N).map (Value.int .i64)) := ⟨_, rfl⟩
        have C1 : Hid (cs.length = Nat.min l.length N) := by show _ = _; rw [HCS.out, List.length_map, List.length_take]; exact Nat.min_comm _ _
        go_wp2_with (at_make; refine wpList_mkI rfl _ _ rfl _ _ _ _ N N rfl rfl (by omega) (by omega) (Nat.le_refl _) (by omega) ?_)
        intro w2 hg2 hb2
        have HG2 := hide hg2
        have HB2 := hide hb2
        have C2 : Hid (0 < cs.length → (some (⟨wr.heap.size, 0, none⟩ : Addr)) = some ⟨wr.heap.size, 0, none⟩ ∧ ∃ ad, ao = some ad ∧ ∀ j v, cs[j]? = some v → w2.cell? (ad.add j) = some v) := by
          intro hp
          refine ⟨rfl, ?_⟩
          rw [C1.out] at hp
          obtain ⟨ao', cap', he, _, _, hnil, hcell⟩ := HS.out
          simp only [Value.slice.injEq] at he
          obtain ⟨rfl, -, rfl⟩ := he
          cases hq : ao with
          | none => exact absurd (hnil hq) (by have : Nat.min l.length N ≤ l.length := Nat.min_le_left _ _; omega)
          | some x =>
            refine ⟨x, rfl, fun j u hj => ?_⟩
            rw [HCS.out] at hj
            obtain ⟨hjl, rfl⟩ := List.getElem?_eq_some_iff.1 hj
            have hjl' : j < l.length := by simp at hjl; omega
            have hc := hcell x hq j hjl'
            rw [HB2.out.cell (World.block_lt_of_cell? _ _ hc), hc]
            simp [hjl']
        have C3 : Hid (0 + cs.length ≤ (List.replicate N (Value.int .i64 0)).length) := by show _ ≤ _; rw [C1.out, List.length_replicate, Nat.zero_add]; exact Nat.min_le_right _ _
        have C4 : Hid (∀ v ∈ cs, v.oneCell' = true) := by rw [HCS.out]; intro u hu; obtain ⟨n, _, rfl⟩ := List.mem_map.1 hu; rfl
        clear hg2 hb2
        go_wp2_with (refine wpList_copy_splice rfl _ _ 22 22 rfl 3 Tryd.underlying22 sizeInt _ _ _ _ _ _ rfl rfl wr.heap.size 0 (List.replicate N (Value.int .i64 0)) 3 HG2.out cs C1.out C2.out C3.out C4.out wr.heap.size wr HB2.out (Nat.le_refl _) ?_)
        intro w3 HG3 hb3
        have HF : Hid (OI w3 wr.heap.size (.slice (some ⟨wr.heap.size, 0, none⟩) N N) (trm l k)) := by
          have e : splice (List.replicate N (Value.int .i64 0)) 0 cs = (trm l k).map (Value.int .i64) := by
            have hc1 := C1.out
            rw [HTR.out, List.map_append, List.map_replicate, ← HCS.out]
            simp only [splice, List.take_zero, List.nil_append, Nat.zero_add, List.drop_replicate]
            rw [hc1]
            congr 2
            have : Nat.min l.length N = min N l.length := Nat.min_comm _ _
            omega
          have h := HG3.out
          rw [e] at h
          have := OI.of_full h (Nat.le_refl _) (by rw [HLN.out]; unfold maxLen; omega)
          rwa [HLN.out] at this
        have HB3 := hide hb3
        clear hb3 HG3
        go_wp2
        go_ret
        rw [HLN.out]
        exact ⟨_, rfl, HF.out, HB3.out⟩
end Go.Proofs.YtiabhmdefaabgabDoor

