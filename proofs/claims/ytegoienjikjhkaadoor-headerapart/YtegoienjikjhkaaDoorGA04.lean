import Derived.Test.YtegoienjikjhkaaDoorGA03
import Derived.Test.YtegoienjikjhkaaDoorGA02
import Derived.Laws.StructEq
namespace Go.Proofs.YtegoienjikjhkaaDoor
open Go.RowKit Go.Maps
set_option maxRecDepth 20000
set_option linter.unusedVariables false

theorem zeroCells_int (n : Nat) : (Builtin.zeroCells #[Value.int .i64 0] n) = (List.replicate n (Value.int .i64 0)).toArray := by
  have e : ∀ k : Nat, [Value.int IntKind.i64 0][k % 1]?.getD default = Value.int .i64 0 := fun k => by simp [Nat.mod_one]
  apply Array.ext'
  simp [Builtin.zeroCells, e, List.map_const']

set_option linter.unusedSimpArgs false in
/-- append of zeros onto nothing: a new block. -/
theorem run_zerosI (w : World) (ty : TypeId) (m : Nat) (hm : 0 < m) (hb : m ≤ 1048576) :
    ∃ C w', (Builtin.append_ #[22, 3] ty #[.slice none 0 0, .int .i64 m]).run Tryd.prog w = .ok (.slice (some ⟨w.heap.size, 0, none⟩) m C) w' ∧ m ≤ C ∧ C ≤ maxLen ∧ (∃ zs : List Value, w'.heap[w.heap.size]? = some (.cells zs.toArray 3 (0, 0)) ∧ zs.length = C) ∧ Below w.heap.size w w' := by
  obtain ⟨i, hi, hz, hsize, hby⟩ := info_parts infoInt
  have ht := Tryd.underlying22
  have hti := Tryd.underlying3
  have hwr : IntKind.i64.wrap (m : Int) = m := by rw [IntKind.wrap_i64]; omega
  have hneg : ¬ ((m : Int) < 0) := by omega
  have hbig : ¬ (281474976710656 < (m : Int)) := by omega
  have hm0 : m ≠ 0 := by omega
  have hge := grownCap_ge w m 0 3
  have hcm := grownCap_le_maxLen w m 0 3 (by unfold maxLen; omega)
  have has : ∀ W : World, (asInt (Value.int .i64 m)).run Tryd.prog W = .ok (m : Int) W := fun _ => rfl
  have hcl : (Value.int .i64 0).cells = #[Value.int .i64 0] := rfl
  have h48 : ¬ (281474976710656 < Builtin.nextslicecap m 0 * 8) := by have := growslice_fits (need := m) (old := 0) (bytes := 8) (by omega) (by omega); omega
  refine ⟨grownCap w m 0 3, w.drew.alloc (.cells ((List.replicate m (Value.int .i64 0)).toArray ++ (List.replicate (grownCap w m 0 3 - m) (Value.int .i64 0)).toArray) 3), ?_, hge, hcm, ⟨List.replicate m (Value.int .i64 0) ++ List.replicate (grownCap w m 0 3 - m) (Value.int .i64 0), ?_, by simp; omega⟩, (Below.refl _ _).drew.alloc (Nat.le_refl _) _⟩
  · have hle : ¬ ((m : Int) ≤ 0) := by omega
    have hsm : ¬ (281474976710656 < (m : Int) * 8) := by omega
    simp [Builtin.append_, run_underlying ht, run_underlying hti, has, hcl, hle, hsm, sizeOf, typeInfo, zeroValue, hi, hz, hsize, hby, hwr, hneg, hbig, hm0, h48, zeroCells_int, Question.forced, run_firstCells_none, newRow, grownCap]
    try (intro h; omega)
  · refine (heap_alloc_new w.drew _).trans ?_
    simp

theorem wpList_zerosI {w : World} {ops : Array Oper} {rest : List Oper} {o : Oper} {a : Act} {Q : Exit → Act → World → Prop} (hgd : o.guard = none) (s x : Operand)
    (ho : o.op = .call { callee := .builtin .append, args := #[s, x], argTypes := #[22, 3] }) (hs : a.eval s = .slice none 0 0) (m : Nat) (M : Int) (hx : a.eval x = .int .i64 M) (hM : M = m) (hm : 0 < m) (hb : m ≤ 1048576)
    (h : ∀ C w', m ≤ C → C ≤ maxLen → (∃ zs : List Value, w'.heap[w.heap.size]? = some (.cells zs.toArray 3 (0, 0)) ∧ zs.length = C) → Below w.heap.size w w' → wpList Tryd.prog ops Q rest (a.put o.dst (.slice (some ⟨w.heap.size, 0, none⟩) m C)) w') :
    wpList Tryd.prog ops Q (o :: rest) a w := by
  refine wpList_plain hgd fun K hK => ?_
  subst hM
  obtain ⟨C, w', hr, h1, h2, h3, h4⟩ := run_zerosI w o.type m hm hb
  unfold Oper.wp
  simp [execOp, ho, resolve, invoke, builtin, hs, hx, hr, Result.andThen]
  exact hK _ _ (h C w' h1 h2 h3 h4)

theorem growI_any (n : Nat) (w : World) (h1 : 1 ≤ n) (hn : n ≤ 1048576) :
    Calls Tryd.prog 41 #[.slice none 0 0, .int .i64 n] w fun e w' => ∃ c, e = .returned (.slice (some ⟨w.heap.size, 0, none⟩) 0 c) ∧ OI w' w.heap.size (.slice (some ⟨w.heap.size, 0, none⟩) 0 c) [] ∧ Below w.heap.size w w' := by
  have hnp : (0 : Int) < n := by omega
  go_enter Tryd.func41, Tryd.ntmps41
  go_wp2_with (at_builtin; refine wpList_zerosI rfl _ _ rfl rfl n _ rfl (by first | rfl | (simp; done)) (by omega) (by omega) ?_)
  intro C w1 h1 h2 zs h3 h5 h4
  have HO : Hid (OI w1 w.heap.size (.slice (some ⟨w.heap.size, 0, none⟩) 0 C) []) := ⟨by simp, .inr ⟨w.heap.size, C, _, rfl, Nat.le_refl _, h3, Nat.zero_le _, h2, by simp at h5 ⊢; omega, by simp⟩⟩
  have HB := hide h4
  unfold maxLen at h2
  clear h3 h4 h5
  go_wp2
  go_ret
  exact ⟨_, rfl, HO.out, HB.out⟩

set_option maxHeartbeats 1000000 in
theorem concat_any (g : Nat) (v1 v2 : Value) (l1 l2 : List Int) (w : World) (hg : w.heap[g]? = some (.cells #[v1, v2] 22 (0, 0))) (s1 : SI w v1 l1) (s2 : SI w v2 l2) (h1 : 1 ≤ l1.length) (hn : l1.length + l2.length ≤ 100000) :
    Calls Tryd.prog 26 #[.slice (some ⟨g, 0, none⟩) 2 2] w fun e w' => ∃ a c, e = .returned (.slice a (l1 ++ l2).length c) ∧ OI w' w.heap.size (.slice a (l1 ++ l2).length c) (l1 ++ l2) ∧ Below w.heap.size w w' := by
  have H1 := hide s1
  have H2 := hide s2
  have hgl : g < w.heap.size := by
    rcases Nat.lt_or_ge g w.heap.size with h | h
    · exact h
    · rw [Array.getElem?_eq_none h] at hg; cases hg
  obtain ⟨a1, c1, rfl, hc1, hd1⟩ := s1.open
  obtain ⟨a2, c2, rfl, hc2, hd2⟩ := s2.open
  have e0 : w.cell? ⟨g, 0, none⟩ = some (.slice a1 l1.length c1) := by unfold World.cell?; rw [hg]; rfl
  have e1 : w.cell? ⟨g, 1, none⟩ = some (.slice a2 l2.length c2) := by unfold World.cell?; rw [hg]; rfl
  clear s1 s2
  go_enter Tryd.func26, Tryd.ntmps26
  go_wp2
  refine wp_loop_rounds 3 ?_
  rw [rounds_succ]
  go_wp2
  rw [rounds_succ]
  go_wp2
  rw [rounds_succ]
  go_wp2_with fail
  have HGR := hide (growI_any (l1.length + l2.length) w (by omega) (by omega))
  rw [Int.natCast_add] at HGR
  refine HGR.out.mono ?_
  rintro e w1 ⟨c3, rfl, o3, b3⟩
  have HO3 := hide o3
  have HB3 := hide b3
  have f0 : w1.cell? ⟨g, 0, none⟩ = some (.slice a1 l1.length c1) := (b3.cell hgl).trans e0
  have HS1 := hide (H1.out.below b3).src
  have hb3 := b3.size
  clear HGR o3 b3
  go_wp2
  refine wp_loop_rounds 3 ?_
  rw [rounds_succ]
  go_wp2_with (at_builtin; refine wpList_appI rfl _ _ 22 rfl w.heap.size (.slice (some ⟨w.heap.size, 0, none⟩) 0 c3) _ [] l1 rfl HO3.out rfl HS1.out (by simp; omega) (by omega) ?_)
  intro v4 w4 ho4 hg4
  have HB4 := hide (HB3.out.grown hg4.by hb3 (fun j hj => (HO3.out.lt j hj).1))
  have HO4 : Hid (OI w4 w.heap.size v4 l1) := ho4
  have f1 : w4.cell? ⟨g, 1, none⟩ = some (.slice a2 l2.length c2) := (HB4.out.cell hgl).trans e1
  have HS2 := hide (H2.out.below HB4.out).src
  have hb4 := HB4.out.size
  obtain ⟨a4, c4, hv4⟩ := HO4.out.shape
  subst hv4
  clear ho4 hg4
  go_wp2
  rw [rounds_succ]
  go_wp2_with (at_builtin; refine wpList_appI rfl _ _ 22 rfl w.heap.size (.slice a4 l1.length c4) _ l1 l2 rfl HO4.out rfl HS2.out (by omega) (by omega) ?_)
  intro v5 w5 ho5 hg5
  have HB5 := hide (HB4.out.grown hg5.by hb4 (fun j hj => (HO4.out.lt j hj).1))
  have HO5 := hide ho5
  obtain ⟨a5, c5, hv5⟩ := ho5.shape
  subst hv5
  clear ho5 hg5
  go_wp2
  rw [rounds_succ]
  go_wp2
  go_ret
  exact ⟨_, _, rfl, HO5.out, HB5.out⟩

/-- A list without the zeros at its end, but with at least f lengths. -/
def tlk (l : List Int) (f : Nat) : Nat → Nat
  | 0 => 0
  | n + 1 => if f < n + 1 ∧ l.getD n 0 = 0 then tlk l f n else n + 1
def tln (l : List Int) (f : Nat) : Nat := tlk l f l.length
def trm (l : List Int) (f : Nat) : List Int := l.take (tln l f) ++ List.replicate (f - tln l f) 0

theorem tl_le (l : List Int) (f : Nat) : ∀ n, tlk l f n ≤ n
  | 0 => Nat.le_refl _
  | n + 1 => by simp only [tlk]; split
                · have := tl_le l f n; omega
                · exact Nat.le_refl _
theorem tl_ge (l : List Int) (f : Nat) : ∀ n, f ≤ n → f ≤ tlk l f n
  | 0, h => h
  | n + 1, h => by simp only [tlk]; split
                   · rename_i q; exact tl_ge l f n (by omega)
                   · exact h
theorem tl_low (l : List Int) (f n : Nat) (h : n ≤ f) : tlk l f n = n := by
  cases n with
  | zero => rfl
  | succ n => simp only [tlk]; rw [if_neg (by omega)]
theorem tl_zero (l : List Int) (f : Nat) : ∀ n j, tlk l f n ≤ j → j < n → l.getD j 0 = 0
  | 0, _, _, h => by omega
  | n + 1, j, h1, h2 => by
    simp only [tlk] at h1
    split at h1
    · rename_i q
      by_cases e : j = n
      · rw [e]; exact q.2
      · exact tl_zero l f n j h1 (by omega)
    · omega

theorem tln_le (l : List Int) (f : Nat) : tln l f ≤ l.length := tl_le l f _
theorem trm_len (l : List Int) (f : Nat) : (trm l f).length = max (tln l f) f := by
  unfold trm
  rw [List.length_append, List.length_take, List.length_replicate]
  have := tln_le l f
  omega

theorem trm_all (l : List Int) (f : Nat) (h : ∀ x ∈ l, 0 ≤ x ∧ x ≤ 15) : ∀ x ∈ trm l f, 0 ≤ x ∧ x ≤ 15 := by
  intro x hx
  unfold trm at hx
  rcases List.mem_append.1 hx with e | e
  · exact h x (List.mem_of_mem_take e)
  · rw [List.mem_replicate] at e; omega

/-- What is read beyond the end is a zero: so the lists begin alike. -/
theorem trm_getD (l : List Int) (f j : Nat) : (trm l f).getD j 0 = l.getD j 0 := by
  unfold trm
  simp only [List.getD_eq_getElem?_getD]
  have hle := tln_le l f
  by_cases h : j < tln l f
  · rw [List.getElem?_append_left (by rw [List.length_take]; omega), List.getElem?_take, if_pos h]
  · rw [List.getElem?_append_right (by rw [List.length_take]; omega)]
    have z : (l[j]?).getD 0 = 0 := by
      by_cases q : j < l.length
      · have := tl_zero l f l.length j (by unfold tln at h; omega) q
        rwa [List.getD_eq_getElem?_getD] at this
      · rw [List.getElem?_eq_none (by omega)]; rfl
    rw [z, List.getElem?_replicate]
    split <;> rfl

theorem trm_cut {l : List Int} {f N : Nat} (hN : N = max (tln l f) f) (ht : tln l f < f → tln l f = l.length) : trm l f = l.take N ++ List.replicate (N - min N l.length) 0 := by
  have hle := tln_le l f
  unfold trm
  by_cases h : tln l f < f
  · have e := ht h
    have eN : N = f := by omega
    rw [eN, e, List.take_of_length_le (Nat.le_refl _), List.take_of_length_le (by omega), show f - min f l.length = f - l.length by omega]
  · have eN : N = tln l f := by omega
    rw [eN, show f - tln l f = 0 by omega, show tln l f - min (tln l f) l.length = 0 by omega]

set_option maxHeartbeats 2000000 in
theorem trimmed_any (v : Value) (l : List Int) (f : Nat) (w : World) (h : SI w v l) (hf : f ≤ 257) (hn : l.length ≤ 286) :
    Calls Tryd.prog 23 #[v, .int .i64 f] w fun e w' => ∃ g, e = .returned (.slice (some ⟨g, 0, none⟩) (trm l f).length (trm l f).length) ∧ OI w' w.heap.size (.slice (some ⟨g, 0, none⟩) (trm l f).length (trm l f).length) (trm l f) ∧ Below w.heap.size w w' := by
  have HS := hide h
  obtain ⟨ao, cap, rfl, hlc, hcm⟩ := h.open
  clear h
  go_enter Tryd.func23, Tryd.ntmps23
  go_wp2
  go_loopw [5] (fun i wr => ∃ k : Nat, k ≤ l.length ∧ i = .int .i64 k ∧ wr = w ∧ Hid (tln l f = tlk l f k) ∧ (k < f → k = l.length)) (fun i _ => (intOf i).toNat)
  case atStart => exact ⟨l.length, Nat.le_refl _, rfl, rfl, rfl, fun _ => rfl⟩
  case round =>
    obtain ⟨k, hk, rfl, hw, HK, hkf⟩ := hrel
    subst hw
    have EXITS : Hid (tln l f = k → ∀ Z : Prop, Z → Z) := fun _ _ z => z
    by_cases hlt : f < k
    · have hlt' : (f : Int) < (k : Int) := by omega
      obtain ⟨j, rfl⟩ : ∃ j, k = j + 1 := ⟨k - 1, by omega⟩
      obtain ⟨b, o, rfl, hc⟩ := HS.out.get (Below.refl _ _) (k := j) (by omega)
      have HT : Hid (tlk l f (j + 1) = if l.getD j 0 = 0 then tlk l f j else j + 1) := by
        show _ = _
        simp only [tlk]
        by_cases q : l.getD j 0 = 0
        · rw [if_pos ⟨hlt, q⟩, if_pos q]
        · rw [if_neg (fun z => q z.2), if_neg q]
      obtain ⟨y, HY⟩ : ∃ y, Hid (y = l.getD j 0) := ⟨_, rfl⟩
      rw [← HY.out] at hc HT
      have ej : ((j : Int) + 1 - 1) = (j : Int) := by omega
      by_cases hy : y = 0
      · subst hy
        have HK2 : Hid (tln l f = tlk l f j) := by show _ = _; rw [HK.out, HT.out, if_pos rfl]
        go_wp2
        go_roundw
        case rel => exact ⟨j, by omega, by go_num, trivial, HK2, by omega⟩
        case measure => simp [intOf]
      · have hy' : (y == 0) = false := by simpa using hy
        have HK2 : Hid (tln l f = j + 1) := by show _ = _; rw [HK.out, HT.out, if_neg hy]
        obtain ⟨N, hN1, hN2⟩ : ∃ N, N ≤ j + 1 ∧ j + 1 ≤ N := ⟨j + 1, Nat.le_refl _, Nat.le_refl _⟩
        have HNN : Hid (N = max (tln l f) f) := by show _ = _; rw [HK2.out]; omega
        have HTC : Hid (tln l f < f → tln l f = l.length) := fun q => by have := HK2.out; omega
        have HTR := hide (trm_cut (l := l) (f := f) (N := N) HNN.out HTC.out)
        have HLN : Hid ((trm l f).length = N) := by show _ = _; rw [trm_len]; exact HNN.out.symm
        obtain ⟨cs, HCS⟩ : ∃ cs, Hid (cs = (l.take N).map (Value.int .i64)) := ⟨_, rfl⟩
        have C1 : Hid (cs.length = Nat.min l.length N) := by show _ = _; rw [HCS.out, List.length_map, List.length_take]; exact Nat.min_comm _ _
        go_wp2_with (at_make; refine wpList_mkI rfl _ _ rfl _ _ _ _ N N rfl rfl (by omega) (by omega) (Nat.le_refl _) (by omega) ?_)
        intro w2 hg2 hb2
        have HG2 := hide hg2
        have HB2 := hide hb2
        have C2 : Hid (0 < cs.length → (some (⟨wr.heap.size, 0, none⟩ : Addr)) = some ⟨wr.heap.size, 0, none⟩ ∧ ∃ ad, (some (⟨b, o, none⟩ : Addr)) = some ad ∧ ∀ j v, cs[j]? = some v → w2.cell? (ad.add j) = some v) := by
          intro hp
          refine ⟨rfl, ?_⟩
          rw [C1.out] at hp
          obtain ⟨ao', cap', he, _, _, hnil, hcell⟩ := HS.out
          simp only [Value.slice.injEq] at he
          obtain ⟨rfl, -, rfl⟩ := he
          cases hq : (some (⟨b, o, none⟩ : Addr)) with
          | none => exact absurd (hnil hq) (by have : Nat.min l.length N ≤ l.length := Nat.min_le_left _ _; omega)
          | some x =>
            refine ⟨x, rfl, fun j u hj => ?_⟩
            rw [HCS.out] at hj
            obtain ⟨hjl, rfl⟩ := List.getElem?_eq_some_iff.1 hj
            have hjl' : j < l.length := by simp at hjl; omega
            have hc := hcell x hq j hjl'
            rw [HB2.out.cell (World.block_lt_of_cell? _ _ hc), hc]
            simp [hjl']
        have C3 : Hid (0 + cs.length ≤ (List.replicate N (Value.int .i64 0)).length) := by show _ ≤ _; rw [C1.out, List.length_replicate, Nat.zero_add]; exact Nat.min_le_right _ _
        have C4 : Hid (∀ v ∈ cs, v.oneCell' = true) := by rw [HCS.out]; intro u hu; obtain ⟨n, _, rfl⟩ := List.mem_map.1 hu; rfl
        clear hg2 hb2
        go_wp2_with (refine wpList_copy_splice rfl _ _ 22 22 rfl 3 Tryd.underlying22 sizeInt _ _ _ _ _ _ rfl rfl wr.heap.size 0 (List.replicate N (Value.int .i64 0)) 3 HG2.out cs C1.out C2.out C3.out C4.out wr.heap.size wr HB2.out (Nat.le_refl _) ?_)
        intro w3 HG3 hb3
        have HF : Hid (OI w3 wr.heap.size (.slice (some ⟨wr.heap.size, 0, none⟩) N N) (trm l f)) := by
          have e : splice (List.replicate N (Value.int .i64 0)) 0 cs = (trm l f).map (Value.int .i64) := by
            have hc1 := C1.out
            rw [HTR.out, List.map_append, List.map_replicate, ← HCS.out]
            simp only [splice, List.take_zero, List.nil_append, Nat.zero_add, List.drop_replicate]
            rw [hc1]
            congr 2
            have : Nat.min l.length N = min N l.length := Nat.min_comm _ _
            omega
          have h := HG3.out
          rw [e] at h
          have := OI.of_full h (Nat.le_refl _) (by rw [HLN.out]; unfold maxLen; omega)
          rwa [HLN.out] at this
        have HB3 := hide hb3
        clear hb3 HG3
        go_wp2
        go_ret
        rw [HLN.out]
        exact ⟨_, rfl, HF.out, HB3.out⟩
    · have hlt' : ¬ (f : Int) < (k : Int) := by omega
      have hd : decide ((f : Int) < (k : Int)) = false := decide_eq_false hlt'
      have HK2 : Hid (tln l f = k) := by show _ = _; rw [HK.out, tl_low l f k (by omega)]
      obtain ⟨N, hN1, hN2⟩ : ∃ N, N ≤ f ∧ f ≤ N := ⟨f, Nat.le_refl _, Nat.le_refl _⟩
      have HNN : Hid (N = max (tln l f) f) := by show _ = _; rw [HK2.out]; omega
      have HTC : Hid (tln l f < f → tln l f = l.length) := fun q => by have := HK2.out; omega
      by_cases kf : k < f
      · have kf' : (k : Int) < (f : Int) := by omega
        have kf2 : (k : Int) ≤ (f : Int) := by omega
        have HTR := hide (trm_cut (l := l) (f := f) (N := N) HNN.out HTC.out)
        have HLN : Hid ((trm l f).length = N) := by show _ = _; rw [trm_len]; exact HNN.out.symm
        obtain ⟨cs, HCS⟩ : ∃ cs, Hid (cs = (l.take N).map (Value.int .i64)) := ⟨_, rfl⟩
        have C1 : Hid (cs.length = Nat.min l.length N) := by show _ = _; rw [HCS.out, List.length_map, List.length_take]; exact Nat.min_comm _ _
        go_wp2_with (at_make; refine wpList_mkI rfl _ _ rfl _ _ _ _ N N rfl rfl (by omega) (by omega) (Nat.le_refl _) (by omega) ?_)
        intro w2 hg2 hb2
        have HG2 := hide hg2
        have HB2 := hide hb2
        have C2 : Hid (0 < cs.length → (some (⟨wr.heap.size, 0, none⟩ : Addr)) = some ⟨wr.heap.size, 0, none⟩ ∧ ∃ ad, ao = some ad ∧ ∀ j v, cs[j]? = some v → w2.cell? (ad.add j) = some v) := by
          intro hp
          refine ⟨rfl, ?_⟩
          rw [C1.out] at hp
          obtain ⟨ao', cap', he, _, _, hnil, hcell⟩ := HS.out
          simp only [Value.slice.injEq] at he
          obtain ⟨rfl, -, rfl⟩ := he
          cases hq : ao with
          | none => exact absurd (hnil hq) (by have : Nat.min l.length N ≤ l.length := Nat.min_le_left _ _; omega)
          | some x =>
            refine ⟨x, rfl, fun j u hj => ?_⟩
            rw [HCS.out] at hj
            obtain ⟨hjl, rfl⟩ := List.getElem?_eq_some_iff.1 hj
            have hjl' : j < l.length := by simp at hjl; omega
            have hc := hcell x hq j hjl'
            rw [HB2.out.cell (World.block_lt_of_cell? _ _ hc), hc]
            simp [hjl']
        have C3 : Hid (0 + cs.length ≤ (List.replicate N (Value.int .i64 0)).length) := by show _ ≤ _; rw [C1.out, List.length_replicate, Nat.zero_add]; exact Nat.min_le_right _ _
        have C4 : Hid (∀ v ∈ cs, v.oneCell' = true) := by rw [HCS.out]; intro u hu; obtain ⟨n, _, rfl⟩ := List.mem_map.1 hu; rfl
        clear hg2 hb2
        go_wp2_with (refine wpList_copy_splice rfl _ _ 22 22 rfl 3 Tryd.underlying22 sizeInt _ _ _ _ _ _ rfl rfl wr.heap.size 0 (List.replicate N (Value.int .i64 0)) 3 HG2.out cs C1.out C2.out C3.out C4.out wr.heap.size wr HB2.out (Nat.le_refl _) ?_)
        intro w3 HG3 hb3
        have HF : Hid (OI w3 wr.heap.size (.slice (some ⟨wr.heap.size, 0, none⟩) N N) (trm l f)) := by
          have e : splice (List.replicate N (Value.int .i64 0)) 0 cs = (trm l f).map (Value.int .i64) := by
            have hc1 := C1.out
            rw [HTR.out, List.map_append, List.map_replicate, ← HCS.out]
            simp only [splice, List.take_zero, List.nil_append, Nat.zero_add, List.drop_replicate]
            rw [hc1]
            congr 2
            have : Nat.min l.length N = min N l.length := Nat.min_comm _ _
            omega
          have h := HG3.out
          rw [e] at h
          have := OI.of_full h (Nat.le_refl _) (by rw [HLN.out]; unfold maxLen; omega)
          rwa [HLN.out] at this
        have HB3 := hide hb3
        clear hb3 HG3
        go_wp2
        go_ret
        rw [HLN.out]
        exact ⟨_, rfl, HF.out, HB3.out⟩
      · obtain rfl : k = f := by omega
        have HTR := hide (trm_cut (l := l) (f := k) (N := N) HNN.out HTC.out)
        have HLN : Hid ((trm l k).length = N) := by show _ = _; rw [trm_len]; exact HNN.out.symm
        obtain ⟨cs, HCS⟩ : ∃ cs, Hid (cs = (l.take N).map (Value.int .i64)) := ⟨_, rfl⟩
        have C1 : Hid (cs.length = Nat.min l.length N) := by show _ = _; rw [HCS.out, List.length_map, List.length_take]; exact Nat.min_comm _ _
        go_wp2_with (at_make; refine wpList_mkI rfl _ _ rfl _ _ _ _ N N rfl rfl (by omega) (by omega) (Nat.le_refl _) (by omega) ?_)
        intro w2 hg2 hb2
        have HG2 := hide hg2
        have HB2 := hide hb2
        have C2 : Hid (0 < cs.length → (some (⟨wr.heap.size, 0, none⟩ : Addr)) = some ⟨wr.heap.size, 0, none⟩ ∧ ∃ ad, ao = some ad ∧ ∀ j v, cs[j]? = some v → w2.cell? (ad.add j) = some v) := by
          intro hp
          refine ⟨rfl, ?_⟩
          rw [C1.out] at hp
          obtain ⟨ao', cap', he, _, _, hnil, hcell⟩ := HS.out
          simp only [Value.slice.injEq] at he
          obtain ⟨rfl, -, rfl⟩ := he
          cases hq : ao with
          | none => exact absurd (hnil hq) (by have : Nat.min l.length N ≤ l.length := Nat.min_le_left _ _; omega)
          | some x =>
            refine ⟨x, rfl, fun j u hj => ?_⟩
            rw [HCS.out] at hj
            obtain ⟨hjl, rfl⟩ := List.getElem?_eq_some_iff.1 hj
            have hjl' : j < l.length := by simp at hjl; omega
            have hc := hcell x hq j hjl'
            rw [HB2.out.cell (World.block_lt_of_cell? _ _ hc), hc]
            simp [hjl']
        have C3 : Hid (0 + cs.length ≤ (List.replicate N (Value.int .i64 0)).length) := by show _ ≤ _; rw [C1.out, List.length_replicate, Nat.zero_add]; exact Nat.min_le_right _ _
        have C4 : Hid (∀ v ∈ cs, v.oneCell' = true) := by rw [HCS.out]; intro u hu; obtain ⟨n, _, rfl⟩ := List.mem_map.1 hu; rfl
        clear hg2 hb2
        go_wp2_with (refine wpList_copy_splice rfl _ _ 22 22 rfl 3 Tryd.underlying22 sizeInt _ _ _ _ _ _ rfl rfl wr.heap.size 0 (List.replicate N (Value.int .i64 0)) 3 HG2.out cs C1.out C2.out C3.out C4.out wr.heap.size wr HB2.out (Nat.le_refl _) ?_)
        intro w3 HG3 hb3
        have HF : Hid (OI w3 wr.heap.size (.slice (some ⟨wr.heap.size, 0, none⟩) N N) (trm l k)) := by
          have e : splice (List.replicate N (Value.int .i64 0)) 0 cs = (trm l k).map (Value.int .i64) := by
            have hc1 := C1.out
            rw [HTR.out, List.map_append, List.map_replicate, ← HCS.out]
            simp only [splice, List.take_zero, List.nil_append, Nat.zero_add, List.drop_replicate]
            rw [hc1]
            congr 2
            have : Nat.min l.length N = min N l.length := Nat.min_comm _ _
            omega
          have h := HG3.out
          rw [e] at h
          have := OI.of_full h (Nat.le_refl _) (by rw [HLN.out]; unfold maxLen; omega)
          rwa [HLN.out] at this
        have HB3 := hide hb3
        clear hb3 HG3
        go_wp2
        go_ret
        rw [HLN.out]
        exact ⟨_, rfl, HF.out, HB3.out⟩
end Go.Proofs.YtegoienjikjhkaaDoor

namespace Go.Proofs.YtegoienjikjhkaaDoor
open Go.RowKit Go.Maps
set_option maxRecDepth 20000
set_option linter.unusedVariables false

theorem tab_cases (s : Nat) (h : s < 19) : (lst s = 1 ∧ frt s = 0 ∧ mst s = 1) ∨ (lst s = 3 ∧ frt s = 2 ∧ mst s = 6) ∨ (lst s = 3 ∧ frt s = 3 ∧ mst s = 10) ∨ (lst s = 11 ∧ frt s = 7 ∧ mst s = 138) := by
  unfold lst frt mst
  by_cases h1 : (s : Int) < 16
  · left; rw [if_pos h1, if_pos h1, if_pos h1]; exact ⟨rfl, rfl, rfl⟩
  · by_cases h2 : (s : Int) = 16
    · right; left; rw [h2]; exact ⟨rfl, rfl, rfl⟩
    · by_cases h3 : (s : Int) = 17
      · right; right; left; rw [h3]; exact ⟨rfl, rfl, rfl⟩
      · right; right; right; rw [show (s : Int) = 18 by omega]; exact ⟨rfl, rfl, rfl⟩

theorem most_any (s : Nat) (w : World) (hs : s < 19) (T : Tab w) : Calls Tryd.prog 32 #[.int .i64 s] w fun e w' => e = .returned (.int .i64 (mst s)) ∧ ∃ q, w' = w.drewN q := by
  have c1 := T.least s hs
  have c2 := T.further s hs
  have hs' : (s : Int) < 19 := by omega
  have C := tab_cases s hs
  clear T
  rcases C with ⟨a, b, c⟩ | ⟨a, b, c⟩ | ⟨a, b, c⟩ | ⟨a, b, c⟩ <;>
  · rw [a] at c1
    rw [b] at c2
    rw [c]
    clear a b c
    go_enter Tryd.func32, Tryd.ntmps32
    go_wp2
    go_quiet (fail)
    go_wp2
    go_ret
    exact ⟨rfl, _, rfl⟩

theorem all_snoc {l : List Int} {k : Nat} (hk : k < l.length) (h : ∀ x ∈ l.take k, 0 ≤ x ∧ x ≤ 15) (h1 : 0 ≤ l.getD k 0 ∧ l.getD k 0 ≤ 15) : ∀ x ∈ l.take (k + 1), 0 ≤ x ∧ x ≤ 15 := by
  intro x hx
  rw [List.take_succ_eq_append_getElem hk] at hx
  rcases List.mem_append.1 hx with e | e
  · exact h x e
  · rw [List.mem_singleton.1 e]
    have : l.getD k 0 = l[k] := by simp [hk]
    rw [← this]; exact h1

theorem wth_bad {l : List Int} {k : Nat} (hk : k < l.length) (h : ¬ (0 ≤ l.getD k 0 ∧ l.getD k 0 ≤ 15)) : wthb l = false := by
  rw [Bool.eq_false_iff]
  intro e
  exact h (wth_iff.1 e _ (by rw [show l.getD k 0 = l[k] by simp [hk]]; exact List.getElem_mem hk))

theorem codeLengths_any (v : Value) (l : List Int) (w : World) (h : SI w v l) :
    Calls Tryd.prog 22 #[v] w fun e w' => e = .returned (.bool (wthb l)) ∧ w' = w := by
  have HS := hide h
  obtain ⟨ao, cap, rfl, hlc, hcm⟩ := h.open
  clear h
  go_enter Tryd.func22, Tryd.ntmps22
  go_wp2
  go_loopw [7] (fun i wr => ∃ k : Nat, k ≤ l.length ∧ i = .int .i64 k ∧ wr = w ∧ Hid (∀ x ∈ l.take k, 0 ≤ x ∧ x ≤ 15)) (fun i _ => l.length - (intOf i).toNat)
  case atStart => exact ⟨0, Nat.zero_le _, rfl, rfl, fun x hx => by simp at hx⟩
  case round =>
    obtain ⟨k, hk, rfl, hw, HA⟩ := hrel
    subst hw
    by_cases hlt : k < l.length
    · have hlt' : (k : Int) < (l.length : Int) := by omega
      obtain ⟨b, o, rfl, hc⟩ := HS.out.get (Below.refl _ _) hlt
      have HN := hide (fun q => all_snoc hlt HA.out q)
      have HB := hide (fun q => wth_bad hlt q)
      obtain ⟨y, HY⟩ : ∃ y, Hid (y = l.getD k 0) := ⟨_, rfl⟩
      rw [← HY.out] at hc HN HB
      by_cases h0 : y < 0
      · have HF : Hid (wthb l = false) := HB.out (by omega)
        go_wp2
        go_ret
        rw [HF.out]
        exact ⟨rfl, rfl⟩
      · by_cases h15 : 15 < y
        · have HF : Hid (wthb l = false) := HB.out (by omega)
          go_wp2
          go_ret
          rw [HF.out]
          exact ⟨rfl, rfl⟩
        · have HN2 := hide (HN.out ⟨by omega, by omega⟩)
          go_wp2
          go_roundw
          case rel => exact ⟨k + 1, by omega, by go_num, trivial, HN2⟩
          case measure => simp [intOf]; omega
    · obtain rfl : k = l.length := by omega
      have hlt' : ¬ (l.length : Int) < (l.length : Int) := by omega
      have HF : Hid (wthb l = true) := wth_iff.2 (by have := HA.out; rwa [List.take_of_length_le (Nat.le_refl _)] at this)
      go_wp2
      go_ret
      rw [HF.out]
      exact ⟨rfl, rfl⟩

theorem meant_any (s : Int) (v : Value) (l : List Int) (w : World) (h : SI w v l) (h16 : s = 16 → 0 < l.length) :
    Calls Tryd.prog 57 #[.int .i64 s, v] w fun e w' => e = .returned (.int .i64 (mnt s l)) ∧ w' = w := by
  have HS := hide h
  obtain ⟨ao, cap, rfl, hlc, hcm⟩ := h.open
  clear h
  by_cases c1 : s < 16
  · have HM : Hid (mnt s l = s) := by show _ = _; unfold mnt; rw [if_pos c1]
    clear h16
    go_enter Tryd.func57, Tryd.ntmps57
    go_wp2
    go_ret
    rw [HM.out]
    exact ⟨rfl, rfl⟩
  · by_cases c2 : s = 16
    · subst c2
      have hl := h16 rfl
      obtain ⟨b, o, rfl, hc⟩ := HS.out.get (Below.refl _ _) (k := l.length - 1) (by omega)
      have HM : Hid (mnt 16 l = l.getD (l.length - 1) 0) := rfl
      obtain ⟨y, HY⟩ : ∃ y, Hid (y = l.getD (l.length - 1) 0) := ⟨_, rfl⟩
      rw [← HY.out] at hc HM
      obtain ⟨n, hn⟩ : ∃ n, l.length = n + 1 := ⟨l.length - 1, by omega⟩
      rw [hn] at hc hlc ⊢
      rw [Nat.add_sub_cancel] at hc
      clear HS hl hn h16 c1
      go_enter Tryd.func57, Tryd.ntmps57
      go_wp2
      go_ret
      rw [HM.out]
      exact ⟨rfl, rfl⟩
    · have HM : Hid (mnt s l = 0) := by show _ = _; unfold mnt; rw [if_neg c1, if_neg c2]
      have c3 : (s == 16) = false := by simpa using c2
      clear h16
      go_enter Tryd.func57, Tryd.ntmps57
      go_wp2
      go_ret
      rw [HM.out]
      exact ⟨rfl, rfl⟩
end Go.Proofs.YtegoienjikjhkaaDoor

namespace Go.Proofs.YtegoienjikjhkaaDoor
open Go.RowKit Go.Maps
set_option maxRecDepth 20000

theorem run_part (f : Nat → Int) {k : Nat} (h : k < 16) (w : World) : (part 3 (av f) k).run Tryd.prog w = .ok (.int .i64 (f k)) w := by
  simp [part, isAgg, run_underlying Tryd.underlying3, av_get f h]

theorem run_index (f : Nat → Int) {k : Nat} (h : k < 16) (w : World) : (Instr.index 106 (.agg (av f)) (.int .i64 k)).run Tryd.prog w = .ok (.int .i64 (f k)) w := by
  obtain ⟨i0, hi, hz0, hz1, hz2⟩ := info_parts infoInt
  simp [Instr.index, asIntOf, run_underlying Tryd.underlying106, sizeOf, typeInfo, hi, hz1, run_part f h]
  omega

def eq16 (f g : Nat → Int) : Bool := (List.range' 0 16).all fun i => f i == g i

theorem eq16_iff (f g : Nat → Int) : eq16 f g = true ↔ ∀ i, i < 16 → f i = g i := by
  unfold eq16
  rw [List.all_eq_true]
  constructor
  · intro h i hi
    have := h i (by simp [List.mem_range']; omega)
    simpa using this
  · intro h i hi
    simp [List.mem_range'] at hi
    have := h i (by omega)
    simpa using this

theorem forIn_eq {P : Program} (f g : Nat → Int) (body : Nat → Option Bool × Unit → Sem (ForInStep (Option Bool × Unit))) (hb : ∀ i w, i < 16 → (body i (none, ())).run P w = .ok (if f i = g i then .yield (none, ()) else .done (some false, ())) w) :
    ∀ n k w, k + n ≤ 16 → (forIn (List.range' k n) (none, ()) body).run P w = .ok (if ((List.range' k n).all fun i => f i == g i) then (none, ()) else (some false, ())) w := by
  intro n
  induction n with
  | zero => intro k w _; simp
  | succ n ih =>
    intro k w h
    simp only [List.range'_succ, List.forIn_cons, Sem.run_bind, hb k w (by omega)]
    by_cases e : f k = g k
    · have e2 : (f k == g k) = true := by simp [e]
      simp only [List.all_cons, e2, Bool.true_and]
      simp [e, ih (k + 1) w (by omega)]
    · have e2 : (f k == g k) = false := by simp [e]
      simp only [List.all_cons, e2, Bool.false_and]
      simp [e]

theorem run_equal_per (d : Nat) (f g : Nat → Int) (w : World) (H : ∀ a b w, (Op.equalIn d 3 (.int .i64 a) (.int .i64 b)).run Tryd.prog w = .ok (a == b) w) : (Op.equalIn (d+1) 106 (.agg (av f)) (.agg (av g))).run Tryd.prog w = .ok (eq16 f g) w := by
  obtain ⟨i0, hi, hz0, hz1, hz2⟩ := info_parts infoInt
  simp only [Op.equalIn, Sem.run_bind, run_underlying Tryd.underlying106, Result.andThen_ok]
  simp [sizeOf, typeInfo, hi, hz1]
  rw [forIn_eq f g _ _ 16 0 w (by omega)]
  · by_cases e : eq16 f g = true
    · have e2 := e
      unfold eq16 at e2
      simp [e2, e]
    · have e3 : eq16 f g = false := by simpa using e
      have e2 := e3
      unfold eq16 at e2
      simp [e2, e3]
  · intro i w hi
    simp [run_part f hi, run_part g hi, H]
    by_cases e : f i = g i
    · simp [e]
    · simp [e]

theorem run_eql_per (f g : Nat → Int) (w : World) : (binOp .eql 106 (.agg (av f)) (.agg (av g))).run Tryd.prog w = .ok (.bool (eq16 f g)) w := by
  rw [run_eql_struct, run_equal_per 9999 f g w (fun a b w => run_equalIn_int w 9998 3 .i64 .i64 a b Tryd.underlying3)]
  rfl

theorem rows_shr {k : Nat} (h : k ≤ 15) : (32768 : Int) / 2 ^ k = ((2 ^ (15 - k) : Nat) : Int) := by
  have e : (32768 : Int) = ((2 ^ (15 - k) : Nat) : Int) * 2 ^ k := by
    have : (2 : Nat) ^ (15 - k) * 2 ^ k = 2 ^ 15 := by rw [← Nat.pow_add]; congr 1; omega
    have h2 : ((2 ^ (15 - k) * 2 ^ k : Nat) : Int) = 32768 := by rw [this]; rfl
    rw [← h2]; push_cast; rfl
  conv => lhs; rw [e]
  exact Int.mul_ediv_cancel _ (by have := pow_pos k; omega)

theorem used_any (l : List Int) (w : World) (hl : Lens l) :
    Calls Tryd.prog 79 #[.agg (av fun n => (cn l n : Int))] w fun e w' => e = .returned (.int .i64 (us l 16)) ∧ Below w.heap.size w w' := by
  have HL := hide hl
  clear hl
  obtain ⟨A, HA⟩ : ∃ A, Hid (A = av fun n => (cn l n : Int)) := ⟨_, rfl⟩
  rw [← HA.out]
  have HG : Hid ((w.alloc (.cells A 106)).heap[w.heap.size]? = some (.cells (av fun n => (cn l n : Int)) 106 (0, 0))) := by rw [← HA.out]; exact heap_alloc_new w _
  have HB : Hid (Below w.heap.size w (w.alloc (.cells A 106))) := (Below.refl _ _).alloc (Nat.le_refl _) _
  obtain ⟨W, HW⟩ : ∃ W, Hid (W = w.alloc (.cells A 106)) := ⟨_, rfl⟩
  rw [← HW.out] at HG HB
  go_enter Tryd.func79, Tryd.ntmps79
  go_wp2_with (first | ((with_reducible refine wpList_loadP w.heap.size _ ?hx (show (w.alloc (.cells A 106)).heap[w.heap.size]? = some (.cells (av fun n => (cn l n : Int)) 106 (0, 0)) from by rw [← HW.out]; exact HG.out) ?_); case hx => rfl))
  rw [← HW.out]
  go_loopw [3, 7] (fun u i wr => ∃ k : Nat, k ≤ 16 ∧ i = .int .i64 k ∧ u = .int .i64 (us l k) ∧ wr = W) (fun _ i _ => 16 - (intOf i).toNat)
  case atStart => exact ⟨0, Nat.zero_le _, rfl, rfl, rfl⟩
  case round =>
    obtain ⟨k, hk, rfl, rfl, rfl⟩ := hrel
    by_cases hlt : k < 16
    · have hlt' : (k : Int) < 16 := by omega
      have hg := fun W => run_index (fun n => (cn l n : Int)) hlt W
      have b2 : cn l k ≤ 288 := by have := cn_le l k; have := HL.out.1; omega
      have b3 : us l k ≤ 288 * 16384 := Nat.le_trans (us_mono l (by omega)) (us_bound HL.out)
      have b4 : 2 ^ (15 - k) ≤ 32768 := Nat.pow_le_pow_right (n := 2) (by decide) (show 15 - k ≤ 15 by omega)
      have hs := rows_shr (k := k) (by omega)
      have HS : Hid (us l (k + 1) = us l k + cn l k * 2 ^ (15 - k)) := rfl
      obtain ⟨c, HC⟩ : ∃ c : Nat, Hid (c = cn l k) := ⟨_, rfl⟩
      obtain ⟨p, HP⟩ : ∃ p : Nat, Hid (p = 2 ^ (15 - k)) := ⟨_, rfl⟩
      obtain ⟨u, HU⟩ : ∃ u : Nat, Hid (u = us l k) := ⟨_, rfl⟩
      rw [← HC.out] at b2 hg HS
      rw [← HP.out] at b4 hs HS
      rw [← HU.out] at b3 HS ⊢
      have hcp : c * p ≤ 288 * 32768 := Nat.mul_le_mul b2 b4
      have hcp' : (c : Int) * p = ((c * p : Nat) : Int) := by push_cast; rfl
      obtain ⟨m, HM⟩ : ∃ m : Nat, Hid (m = c * p) := ⟨_, rfl⟩
      rw [← HM.out] at hcp hcp' HS
      go_wp2
      go_roundw
      case rel => exact ⟨k + 1, by omega, by go_num, by rw [HS.out]; push_cast; rfl, by trivial⟩
      case measure => simp [intOf]; omega
    · obtain rfl : k = 16 := by omega
      have hlt' : ¬ ((16 : Nat) : Int) < 16 := by omega
      go_wp2
      go_ret
      exact ⟨rfl, HB.out⟩

theorem shape_any (l : List Int) (w : World) (hl : Lens l) :
    Calls Tryd.prog 61 #[.agg (av fun n => (cn l n : Int))] w fun e w' => e = .returned (.int .i64 (shp l)) ∧ Below w.heap.size w w' := by
  have HL := hide hl
  have HU := hide (us_sum hl.2)
  have hz : eq16 (fun n => (cn l n : Int)) (fun _ => 0) = decide (tsum l = 0) := by
    rw [Bool.eq_iff_iff, eq16_iff, decide_eq_true_iff, tsum_zero hl]
    exact ⟨fun h n hn => by have := h n hn; omega, fun h n hn => by rw [h n hn]; rfl⟩
  have ho : eq16 (fun n => (cn l n : Int)) (fun n => if n = 1 then 1 else 0) = decide (tsum l = 1 ∧ usum l = 16384) := by
    rw [Bool.eq_iff_iff, eq16_iff, decide_eq_true_iff, single_iff hl]
    exact ⟨fun h n hn => by have := h n hn; by_cases e : n = 1 <;> simp [e] at this ⊢ <;> omega, fun h n hn => by rw [h n hn]; by_cases e : n = 1 <;> simp [e]⟩
  have hb := us_bound hl
  rw [HU.out] at hb
  clear hl
  have q1 := fun W => run_eql_per (fun n => (cn l n : Int)) (fun _ => 0) W
  have q2 := fun W => run_eql_per (fun n => (cn l n : Int)) (fun n => if n = 1 then 1 else 0) W
  rw [av_zero, hz] at q1
  have e1 : av (fun n => if n = 1 then 1 else 0) = #[.int .i64 0, .int .i64 1, .int .i64 0, .int .i64 0, .int .i64 0, .int .i64 0, .int .i64 0, .int .i64 0, .int .i64 0, .int .i64 0, .int .i64 0, .int .i64 0, .int .i64 0, .int .i64 0, .int .i64 0, .int .i64 0] := rfl
  rw [e1, ho] at q2
  clear hz ho e1
  have HG : Hid ((w.alloc (.cells (av fun n => (cn l n : Int)) 106)).heap[w.heap.size]? = some (.cells (av fun n => (cn l n : Int)) 106 (0, 0))) := heap_alloc_new w _
  have HB : Hid (Below w.heap.size w (w.alloc (.cells (av fun n => (cn l n : Int)) 106))) := (Below.refl _ _).alloc (Nat.le_refl _) _
  obtain ⟨U, HUU⟩ : ∃ U : Nat, Hid (U = usum l) := ⟨_, rfl⟩
  have HSH : Hid (shp l = if tsum l = 0 then 0 else if tsum l = 1 ∧ usum l = 16384 then 1 else if 32768 < usum l then 3 else if usum l = 32768 then 4 else 2) := rfl
  rw [← HUU.out] at hb HSH q2
  go_enter Tryd.func61, Tryd.ntmps61
  go_wp2_with ((with_reducible refine wpList_loadP w.heap.size _ ?hx HG.out ?_); (case hx => rfl))
  refine (used_any l _ HL.out).mono ?_
  rintro e w2 ⟨rfl, hb2⟩
  rw [HU.out, ← HUU.out]
  have HG2 : Hid (w2.heap[w.heap.size]? = some (.cells (av fun n => (cn l n : Int)) 106 (0, 0))) := (hb2.block _ (by simp)).trans HG.out
  have HB2 : Hid (Below w.heap.size w w2) := HB.out.trans (hb2.mono (by simp))
  clear hb2 HG HB
  by_cases c1 : tsum l = 0
  · have d1 : decide (tsum l = 0) = true := decide_eq_true c1
    rw [d1] at q1
    have HX : Hid (shp l = 0) := by show _ = _; rw [HSH.out, if_pos c1]
    clear c1 d1 HSH q2
    go_wp2_with ((with_reducible refine wpList_loadP w.heap.size _ ?hx HG2.out ?_); (case hx => rfl))
    go_ret
    rw [HX.out]
    exact ⟨rfl, HB2.out⟩
  have d1 : decide (tsum l = 0) = false := decide_eq_false c1
  rw [d1] at q1
  by_cases c2 : tsum l = 1 ∧ U = 16384
  · have d2 : decide (tsum l = 1 ∧ U = 16384) = true := decide_eq_true c2
    rw [d2] at q2
    have HX : Hid (shp l = 1) := by show _ = _; rw [HSH.out, if_neg c1, if_pos c2]
    clear c1 d1 c2 d2 HSH
    go_wp2_with ((with_reducible refine wpList_loadP w.heap.size _ ?hx HG2.out ?_); (case hx => rfl))
    go_ret
    rw [HX.out]
    exact ⟨rfl, HB2.out⟩
  have d2 : decide (tsum l = 1 ∧ U = 16384) = false := decide_eq_false c2
  rw [d2] at q2
  have HX : Hid (shp l = if 32768 < U then 3 else if U = 32768 then 4 else 2) := by show _ = _; rw [HSH.out, if_neg c1, if_neg c2]
  clear c1 d1 c2 d2 HSH
  by_cases c3 : 32768 < U
  · have HY : Hid (shp l = 3) := by show _ = _; rw [HX.out, if_pos c3]
    clear HX
    go_wp2_with ((with_reducible refine wpList_loadP w.heap.size _ ?hx HG2.out ?_); (case hx => rfl))
    go_ret
    rw [HY.out]
    exact ⟨rfl, HB2.out⟩
  by_cases c4 : U = 32768
  · have HY : Hid (shp l = 4) := by show _ = _; rw [HX.out, if_neg c3, if_pos c4]
    clear HX HUU
    subst c4
    go_wp2_with ((with_reducible refine wpList_loadP w.heap.size _ ?hx HG2.out ?_); (case hx => rfl))
    go_ret
    rw [HY.out]
    exact ⟨rfl, HB2.out⟩
  · have HY : Hid (shp l = 2) := by show _ = _; rw [HX.out, if_neg c3, if_neg c4]
    clear HX
    go_wp2_with ((with_reducible refine wpList_loadP w.heap.size _ ?hx HG2.out ?_); (case hx => rfl))
    go_ret
    rw [HY.out]
    exact ⟨rfl, HB2.out⟩
end Go.Proofs.YtegoienjikjhkaaDoor

