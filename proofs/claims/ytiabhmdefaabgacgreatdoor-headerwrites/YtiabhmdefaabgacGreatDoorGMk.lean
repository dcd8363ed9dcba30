import Derived.Test.YtiabhmdefaabgacGreatDoorGRn0
import Derived.Test.YtiabhmdefaabgacGreatDoorG5b
namespace Go.Proofs.YtiabhmdefaabgacGreatDoor
open Go.RowKit Go.Maps
set_option maxRecDepth 20000
set_option linter.unusedVariables false

theorem zeroCells_int (n : Nat) : (Builtin.zeroCells #[Value.int .i64 0] n) = (List.replicate n (Value.int .i64 0)).toArray := by
  have e : ∀ k : Nat, [Value.int IntKind.i64 0][k % 1]?.getD default = Value.int .i64 0 := fun k => by simp [Nat.mod_one]
  apply Array.ext'
  simp [Builtin.zeroCells, e, List.map_const']

set_option linter.unusedSimpArgs false in
/-- append of zeros onto nothing: a new block. -/
theorem run_zerosI (w : World) (ty : TypeId) (m : Nat) (hm : 0 < m) (hb : m ≤ 1048576) :
    ∃ C w', (Builtin.append_ #[23, 3] ty #[.slice none 0 0, .int .i64 m]).run Tryz.prog w = .ok (.slice (some ⟨w.heap.size, 0, none⟩) m C) w' ∧ m ≤ C ∧ C ≤ maxLen ∧ (∃ zs : List Value, w'.heap[w.heap.size]? = some (.cells zs.toArray 3 (0, 0)) ∧ zs.length = C) ∧ Below w.heap.size w w' := by
  obtain ⟨i, hi, hz, hsize, hby⟩ := info_parts infoInt
  have ht := Tryz.underlying23
  have hti := Tryz.underlying3
  have hwr : IntKind.i64.wrap (m : Int) = m := by rw [IntKind.wrap_i64]; omega
  have hneg : ¬ ((m : Int) < 0) := by omega
  have hbig : ¬ (281474976710656 < (m : Int)) := by omega
  have hm0 : m ≠ 0 := by omega
  have hge := grownCap_ge w m 0 3
  have hcm := grownCap_le_maxLen w m 0 3 (by unfold maxLen; omega)
  have has : ∀ W : World, (asInt (Value.int .i64 m)).run Tryz.prog W = .ok (m : Int) W := fun _ => rfl
  have hcl : (Value.int .i64 0).cells = #[Value.int .i64 0] := rfl
  have h48 : ¬ (281474976710656 < Builtin.nextslicecap m 0 * 8) := by have := growslice_fits (need := m) (old := 0) (bytes := 8) (by omega) (by omega); omega
  refine ⟨grownCap w m 0 3, w.drew.alloc (.cells ((List.replicate m (Value.int .i64 0)).toArray ++ (List.replicate (grownCap w m 0 3 - m) (Value.int .i64 0)).toArray) 3), ?_, hge, hcm, ⟨List.replicate m (Value.int .i64 0) ++ List.replicate (grownCap w m 0 3 - m) (Value.int .i64 0), ?_, by simp; omega⟩, (Below.refl _ _).drew.alloc (Nat.le_refl _) _⟩
  · have hle : ¬ ((m : Int) ≤ 0) := by omega
    have hsm : ¬ (281474976710656 < (m : Int) * 8) := by omega
    simp [Builtin.append_, run_underlying ht, run_underlying hti, has, hcl, hle, hsm, sizeOf, typeInfo, zeroValue, hi, hz, hsize, hby, hwr, hneg, hbig, hm0, h48, zeroCells_int, Question.forced, run_firstCells_none, newRow, grownCap]
    try (intro h; omega)
  · refine (heap_alloc_new w.drew _).trans ?_
    simp

theorem wpList_zerosI {w : World} {ops : Array Oper} {rest : List Oper} {o : Oper} {a : Act} {Q : Exit → Act → World → Prop} (hgd : o.guard = none) (s x : Operand)
    (ho : o.op = .call { callee := .builtin .append, args := #[s, x], argTypes := #[23, 3] }) (hs : a.eval s = .slice none 0 0) (m : Nat) (M : Int) (hx : a.eval x = .int .i64 M) (hM : M = m) (hm : 0 < m) (hb : m ≤ 1048576)
    (h : ∀ C w', m ≤ C → C ≤ maxLen → (∃ zs : List Value, w'.heap[w.heap.size]? = some (.cells zs.toArray 3 (0, 0)) ∧ zs.length = C) → Below w.heap.size w w' → wpList Tryz.prog ops Q rest (a.put o.dst (.slice (some ⟨w.heap.size, 0, none⟩) m C)) w') :
    wpList Tryz.prog ops Q (o :: rest) a w := by
  refine wpList_plain hgd fun K hK => ?_
  subst hM
  obtain ⟨C, w', hr, h1, h2, h3, h4⟩ := run_zerosI w o.type m hm hb
  unfold Oper.wp
  simp [execOp, ho, resolve, invoke, builtin, hs, hx, hr, Result.andThen]
  exact hK _ _ (h C w' h1 h2 h3 h4)

theorem growI_any (n : Nat) (w : World) (h1 : 1 ≤ n) (hn : n ≤ 1048576) :
    Calls Tryz.prog 54 #[.slice none 0 0, .int .i64 n] w fun e w' => ∃ c, e = .returned (.slice (some ⟨w.heap.size, 0, none⟩) 0 c) ∧ OI w' w.heap.size (.slice (some ⟨w.heap.size, 0, none⟩) 0 c) [] ∧ Below w.heap.size w w' := by
  have hnp : (0 : Int) < n := by omega
  go_enter Tryz.func54, Tryz.ntmps54
  go_wp2_with (at_builtin; refine wpList_zerosI rfl _ _ rfl rfl n _ rfl (by first | rfl | (simp; done)) (by omega) (by omega) ?_)
  intro C w1 h1 h2 zs h3 h5 h4
  have HO : Hid (OI w1 w.heap.size (.slice (some ⟨w.heap.size, 0, none⟩) 0 C) []) := ⟨by simp, .inr ⟨w.heap.size, C, _, rfl, Nat.le_refl _, h3, Nat.zero_le _, h2, by simp at h5 ⊢; omega, by simp⟩⟩
  have HB := hide h4
  unfold maxLen at h2
  clear h3 h4 h5
  go_wp2
  go_ret
  exact ⟨_, rfl, HO.out, HB.out⟩

set_option maxHeartbeats 1000000 in
theorem concat_any (g : Nat) (v1 v2 : Value) (l1 l2 : List Int) (w : World) (hg : w.heap[g]? = some (.cells #[v1, v2] 23 (0, 0))) (s1 : SI w v1 l1) (s2 : SI w v2 l2) (h1 : 1 ≤ l1.length) (hn : l1.length + l2.length ≤ 100000) :
    Calls Tryz.prog 34 #[.slice (some ⟨g, 0, none⟩) 2 2] w fun e w' => ∃ a c, e = .returned (.slice a (l1 ++ l2).length c) ∧ OI w' w.heap.size (.slice a (l1 ++ l2).length c) (l1 ++ l2) ∧ Below w.heap.size w w' := by
  have H1 := hide s1
  have H2 := hide s2
  have hgl : g < w.heap.size := by
    rcases Nat.lt_or_ge g w.heap.size with h | h
    · exact h
    · rw [Array.getElem?_eq_none h] at hg; cases hg
  obtain ⟨a1, c1, rfl, hc1, hd1⟩ := s1.open
  obtain ⟨a2, c2, rfl, hc2, hd2⟩ := s2.open
  have e0 : w.cell? ⟨g, 0, none⟩ = some (.slice a1 l1.length c1) := by unfold World.cell?; rw [hg]; rfl
  have e1 : w.cell? ⟨g, 1, none⟩ = some (.slice a2 l2.length c2) := by unfold World.cell?; rw [hg]; rfl
  clear s1 s2
  go_enter Tryz.func34, Tryz.ntmps34
  go_wp2
  refine wp_loop_rounds 3 ?_
  rw [rounds_succ]
  go_wp2
  rw [rounds_succ]
  go_wp2
  rw [rounds_succ]
  go_wp2_with fail
  have HGR := hide (growI_any (l1.length + l2.length) w (by omega) (by omega))
  rw [Int.natCast_add] at HGR
  refine HGR.out.mono ?_
  rintro e w1 ⟨c3, rfl, o3, b3⟩
  have HO3 := hide o3
  have HB3 := hide b3
  have f0 : w1.cell? ⟨g, 0, none⟩ = some (.slice a1 l1.length c1) := (b3.cell hgl).trans e0
  have HS1 := hide (H1.out.below b3).src
  have hb3 := b3.size
  clear HGR o3 b3
  go_wp2
  refine wp_loop_rounds 3 ?_
  rw [rounds_succ]
  go_wp2_with (at_builtin; refine wpList_appI rfl _ _ 23 rfl w.heap.size (.slice (some ⟨w.heap.size, 0, none⟩) 0 c3) _ [] l1 rfl HO3.out rfl HS1.out (by simp; omega) (by omega) ?_)
  intro v4 w4 ho4 hg4
  have HB4 := hide (HB3.out.grown hg4.by hb3 (fun j hj => (HO3.out.lt j hj).1))
  have HO4 : Hid (OI w4 w.heap.size v4 l1) := ho4
  have f1 : w4.cell? ⟨g, 1, none⟩ = some (.slice a2 l2.length c2) := (HB4.out.cell hgl).trans e1
  have HS2 := hide (H2.out.below HB4.out).src
  have hb4 := HB4.out.size
  obtain ⟨a4, c4, hv4⟩ := HO4.out.shape
  subst hv4
  clear ho4 hg4
  go_wp2
  rw [rounds_succ]
  go_wp2_with (at_builtin; refine wpList_appI rfl _ _ 23 rfl w.heap.size (.slice a4 l1.length c4) _ l1 l2 rfl HO4.out rfl HS2.out (by omega) (by omega) ?_)
  intro v5 w5 ho5 hg5
  have HB5 := hide (HB4.out.grown hg5.by hb4 (fun j hj => (HO4.out.lt j hj).1))
  have HO5 := hide ho5
  obtain ⟨a5, c5, hv5⟩ := ho5.shape
  subst hv5
  clear ho5 hg5
  go_wp2
  rw [rounds_succ]
  go_wp2
  go_ret
  exact ⟨_, _, rfl, HO5.out, HB5.out⟩

/-- A list without the zeros at its end, but with at least f lengths. -/
def tlk (l : List Int) (f : Nat) : Nat → Nat
  | 0 => 0
  | n + 1 => if f < n + 1 ∧ l.getD n 0 = 0 then tlk l f n else n + 1
def tln (l : List Int) (f : Nat) : Nat := tlk l f l.length
def trm (l : List Int) (f : Nat) : List Int := l.take (tln l f) ++ List.replicate (f - tln l f) 0

theorem tl_le (l : List Int) (f : Nat) : ∀ n, tlk l f n ≤ n
  | 0 => Nat.le_refl _
  | n + 1 => by simp only [tlk]; split
                · have := tl_le l f n; omega
                · exact Nat.le_refl _
theorem tl_ge (l : List Int) (f : Nat) : ∀ n, f ≤ n → f ≤ tlk l f n
  | 0, h => h
  | n + 1, h => by simp only [tlk]; split
                   · rename_i q; exact tl_ge l f n (by omega)
                   · exact h
theorem tl_low (l : List Int) (f n : Nat) (h : n ≤ f) : tlk l f n = n := by
  cases n with
  | zero => rfl
  | succ n => simp only [tlk]; rw [if_neg (by omega)]
theorem tl_zero (l : List Int) (f : Nat) : ∀ n j, tlk l f n ≤ j → j < n → l.getD j 0 = 0
  | 0, _, _, h => by omega
  | n + 1, j, h1, h2 => by
    simp only [tlk] at h1
    split at h1
    · rename_i q
      by_cases e : j = n
      · rw [e]; exact q.2
      · exact tl_zero l f n j h1 (by omega)
    · omega

theorem tln_le (l : List Int) (f : Nat) : tln l f ≤ l.length := tl_le l f _
theorem trm_len (l : List Int) (f : Nat) : (trm l f).length = max (tln l f) f := by
  unfold trm
  rw [List.length_append, List.length_take, List.length_replicate]
  have := tln_le l f
  omega

theorem trm_all (l : List Int) (f : Nat) (h : ∀ x ∈ l, 0 ≤ x ∧ x ≤ 15) : ∀ x ∈ trm l f, 0 ≤ x ∧ x ≤ 15 := by
  intro x hx
  unfold trm at hx
  rcases List.mem_append.1 hx with e | e
  · exact h x (List.mem_of_mem_take e)
  · rw [List.mem_replicate] at e; omega

/-- What is read beyond the end is a zero: so the lists begin alike. -/
theorem trm_getD (l : List Int) (f j : Nat) : (trm l f).getD j 0 = l.getD j 0 := by
  unfold trm
  simp only [List.getD_eq_getElem?_getD]
  have hle := tln_le l f
  by_cases h : j < tln l f
  · rw [List.getElem?_append_left (by rw [List.length_take]; omega), List.getElem?_take, if_pos h]
  · rw [List.getElem?_append_right (by rw [List.length_take]; omega)]
    have z : (l[j]?).getD 0 = 0 := by
      by_cases q : j < l.length
      · have := tl_zero l f l.length j (by unfold tln at h; omega) q
        rwa [List.getD_eq_getElem?_getD] at this
      · rw [List.getElem?_eq_none (by omega)]; rfl
    rw [z, List.getElem?_replicate]
    split <;> rfl

theorem trm_cut {l : List Int} {f N : Nat} (hN : N = max (tln l f) f) (ht : tln l f < f → tln l f = l.length) : trm l f = l.take N ++ List.replicate (N - min N l.length) 0 := by
  have hle := tln_le l f
  unfold trm
  by_cases h : tln l f < f
  · have e := ht h
    have eN : N = f := by omega
    rw [eN, e, List.take_of_length_le (Nat.le_refl _), List.take_of_length_le (by omega), show f - min f l.length = f - l.length by omega]
  · have eN : N = tln l f := by omega
    rw [eN, show f - tln l f = 0 by omega, show tln l f - min (tln l f) l.length = 0 by omega]

set_option maxHeartbeats 2000000 in
theorem trimmed_any (v : Value) (l : List Int) (f : Nat) (w : World) (h : SI w v l) (hf : f ≤ 257) (hn : l.length ≤ 286) :
    Calls Tryz.prog 31 #[v, .int .i64 f] w fun e w' => ∃ g, e = .returned (.slice (some ⟨g, 0, none⟩) (trm l f).length (trm l f).length) ∧ OI w' w.heap.size (.slice (some ⟨g, 0, none⟩) (trm l f).length (trm l f).length) (trm l f) ∧ Below w.heap.size w w' := by
  have HS := hide h
  obtain ⟨ao, cap, rfl, hlc, hcm⟩ := h.open
  clear h
  go_enter Tryz.func31, Tryz.ntmps31
  go_wp2
  go_loopw [5] (fun i wr => ∃ k : Nat, k ≤ l.length ∧ i = .int .i64 k ∧ wr = w ∧ Hid (tln l f = tlk l f k) ∧ (k < f → k = l.length)) (fun i _ => (intOf i).toNat)
  case atStart => exact ⟨l.length, Nat.le_refl _, rfl, rfl, rfl, fun _ => rfl⟩
  case round =>
    obtain ⟨k, hk, rfl, hw, HK, hkf⟩ := hrel
    subst hw
    have EXITS : Hid (tln l f = k → ∀ Z : Prop, Z → Z) := fun _ _ z => z
    by_cases hlt : f < k
    · have hlt' : (f : Int) < (k : Int) := by omega
      obtain ⟨j, rfl⟩ : ∃ j, k = j + 1 := ⟨k - 1, by omega⟩
      obtain ⟨b, o, rfl, hc⟩ := HS.out.get (Below.refl _ _) (k := j) (by omega)
      have HT : Hid (tlk l f (j + 1) = if l.getD j 0 = 0 then tlk l f j else j + 1) := by
        show _ = _
        simp only [tlk]
        by_cases q : l.getD j 0 = 0
        · rw [if_pos ⟨hlt, q⟩, if_pos q]
        · rw [if_neg (fun z => q z.2), if_neg q]
      obtain ⟨y, HY⟩ : ∃ y, Hid (y = l.getD j 0) := ⟨_, rfl⟩
      rw [← HY.out] at hc HT
      have ej : ((j : Int) + 1 - 1) = (j : Int) := by omega
      by_cases hy : y = 0
      · subst hy
        have HK2 : Hid (tln l f = tlk l f j) := by show _ = _; rw [HK.out, HT.out, if_pos rfl]
        go_wp2
        go_roundw
        case rel => exact ⟨j, by omega, by go_num, trivial, HK2, by omega⟩
        case measure => simp [intOf]
      · have hy' : (y == 0) = false := by simpa using hy
        have HK2 : Hid (tln l f = j + 1) := by show _ = _; rw [HK.out, HT.out, if_neg hy]
        obtain ⟨N, hN1, hN2⟩ : ∃ N, N ≤ j + 1 ∧ j + 1 ≤ N := ⟨j + 1, Nat.le_refl _, Nat.le_refl _⟩
        have HNN : Hid (N = max (tln l f) f) := by show _ = _; rw [HK2.out]; omega
        have HTC : Hid (tln l f < f → tln l f = l.length) := fun q => by have := HK2.out; omega
        have HTR := hide (trm_cut (l := l) (f := f) (N := N) HNN.out HTC.out)
        have HLN : Hid ((trm l f).length = N) := by show _ = _; rw [trm_len]; exact HNN.out.symm
        obtain ⟨cs, HCS⟩ : ∃ cs, Hid (cs = (l.take N).map (Value.int .i64)) := ⟨_, rfl⟩
        have C1 : Hid (cs.length = Nat.min l.length N) := by show _ = _; rw [HCS.out, List.length_map, List.length_take]; exact Nat.min_comm _ _
        go_wp2_with (at_make; refine wpList_mkI rfl _ _ rfl _ _ _ _ N N rfl rfl (by omega) (by omega) (Nat.le_refl _) (by omega) ?_)
        intro w2 hg2 hb2
        have HG2 := hide hg2
        have HB2 := hide hb2
        have C2 : Hid (0 < cs.length → (some (⟨wr.heap.size, 0, none⟩ : Addr)) = some ⟨wr.heap.size, 0, none⟩ ∧ ∃ ad, (some (⟨b, o, none⟩ : Addr)) = some ad ∧ ∀ j v, cs[j]? = some v → w2.cell? (ad.add j) = some v) := by
          intro hp
          refine ⟨rfl, ?_⟩
          rw [C1.out] at hp
          obtain ⟨ao', cap', he, _, _, hnil, hcell⟩ := HS.out
          simp only [Value.slice.injEq] at he
          obtain ⟨rfl, -, rfl⟩ := he
          cases hq : (some (⟨b, o, none⟩ : Addr)) with
          | none => exact absurd (hnil hq) (by have : Nat.min l.length N ≤ l.length := Nat.min_le_left _ _; omega)
          | some x =>
            refine ⟨x, rfl, fun j u hj => ?_⟩
            rw [HCS.out] at hj
            obtain ⟨hjl, rfl⟩ := List.getElem?_eq_some_iff.1 hj
            have hjl' : j < l.length := by simp at hjl; omega
            have hc := hcell x hq j hjl'
            rw [HB2.out.cell (World.block_lt_of_cell? _ _ hc), hc]
            simp [hjl']
        have C3 : Hid (0 + cs.length ≤ (List.replicate N (Value.int .i64 0)).length) := by show _ ≤ _; rw [C1.out, List.length_replicate, Nat.zero_add]; exact Nat.min_le_right _ _
        have C4 : Hid (∀ v ∈ cs, v.oneCell' = true) := by rw [HCS.out]; intro u hu; obtain ⟨n, _, rfl⟩ := List.mem_map.1 hu; rfl
        clear hg2 hb2
        go_wp2_with (refine wpList_copy_splice rfl _ _ 23 23 rfl 3 Tryz.underlying23 sizeInt _ _ _ _ _ _ rfl rfl wr.heap.size 0 (List.replicate N (Value.int .i64 0)) 3 HG2.out cs C1.out C2.out C3.out C4.out wr.heap.size wr HB2.out (Nat.le_refl _) ?_)
        intro w3 HG3 hb3
        have HF : Hid (OI w3 wr.heap.size (.slice (some ⟨wr.heap.size, 0, none⟩) N N) (trm l f)) := by
          have e : splice (List.replicate N (Value.int .i64 0)) 0 cs = (trm l f).map (Value.int .i64) := by
            have hc1 := C1.out
            rw [HTR.out, List.map_append, List.map_replicate, ← HCS.out]
            simp only [splice, List.take_zero, List.nil_append, Nat.zero_add, List.drop_replicate]
            rw [hc1]
            congr 2
            have : Nat.min l.length N = min N l.length := Nat.min_comm _ _
            omega
          have h := HG3.out
          rw [e] at h
          have := OI.of_full h (Nat.le_refl _) (by rw [HLN.out]; unfold maxLen; omega)
          rwa [HLN.out] at this
        have HB3 := hide hb3
        clear hb3 HG3
        go_wp2
        go_ret
        rw [HLN.out]
        exact ⟨_, rfl, HF.out, HB3.out⟩
    · have hlt' : ¬ (f : Int) < (k : Int) := by omega
      have hd : decide ((f : Int) < (k : Int)) = false := decide_eq_false hlt'
      have HK2 : Hid (tln l f = k) := by show _ = _; rw [HK.out, tl_low l f k (by omega)]
      obtain ⟨N, hN1, hN2⟩ : ∃ N, N ≤ f ∧ f ≤ N := ⟨f, Nat.le_refl _, Nat.le_refl _⟩
      have HNN : Hid (N = max (tln l f) f) := by show _ = _; rw [HK2.out]; omega
      have HTC : Hid (tln l f < f → tln l f = l.length) := fun q => by have := HK2.out; omega
      by_cases kf : k < f
      · have kf' : (k : Int) < (f : Int) := by omega
        have kf2 : (k : Int) ≤ (f : Int) := by omega
        have HTR := hide (trm_cut (l := l) (f := f) (N := N) HNN.out HTC.out)
        have HLN : Hid ((trm l f).length = N) := by show _ = _; rw [trm_len]; exact HNN.out.symm
        obtain ⟨cs, HCS⟩ : ∃ cs, Hid (cs = (l.take N).map (Value.int .i64)) := ⟨_, rfl⟩
        have C1 : Hid (cs.length = Nat.min l.length N) := by show _ = _; rw [HCS.out, List.length_map, List.length_take]; exact Nat.min_comm _ _
        go_wp2_with (at_make; refine wpList_mkI rfl _ _ rfl _ _ _ _ N N rfl rfl (by omega) (by omega) (Nat.le_refl _) (by omega) ?_)
        intro w2 hg2 hb2
        have HG2 := hide hg2
        have HB2 := hide hb2
        have C2 : Hid (0 < cs.length → (some (⟨wr.heap.size, 0, none⟩ : Addr)) = some ⟨wr.heap.size, 0, none⟩ ∧ ∃ ad, ao = some ad ∧ ∀ j v, cs[j]? = some v → w2.cell? (ad.add j) = some v) := by
          intro hp
          refine ⟨rfl, ?_⟩
          rw [C1.out] at hp
          obtain ⟨ao', cap', he, _, _, hnil, hcell⟩ := HS.out
          simp only [Value.slice.injEq] at he
          obtain ⟨rfl, -, rfl⟩ := he
          cases hq : ao with
          | none => exact absurd (hnil hq) (by have : Nat.min l.length N ≤ l.length := Nat.min_le_left _ _; omega)
          | some x =>
            refine ⟨x, rfl, fun j u hj => ?_⟩
            rw [HCS.out] at hj
            obtain ⟨hjl, rfl⟩ := List.getElem?_eq_some_iff.1 hj
            have hjl' : j < l.length := by simp at hjl; omega
            have hc := hcell x hq j hjl'
            rw [HB2.out.cell (World.block_lt_of_cell? _ _ hc), hc]
            simp [hjl']
        have C3 : Hid (0 + cs.length ≤ (List.replicate N (Value.int .i64 0)).length) := by show _ ≤ _; rw [C1.out, List.length_replicate, Nat.zero_add]; exact Nat.min_le_right _ _
        have C4 : Hid (∀ v ∈ cs, v.oneCell' = true) := by rw [HCS.out]; intro u hu; obtain ⟨n, _, rfl⟩ := List.mem_map.1 hu; rfl
        clear hg2 hb2
        go_wp2_with (refine wpList_copy_splice rfl _ _ 23 23 rfl 3 Tryz.underlying23 sizeInt _ _ _ _ _ _ rfl rfl wr.heap.size 0 (List.replicate N (Value.int .i64 0)) 3 HG2.out cs C1.out C2.out C3.out C4.out wr.heap.size wr HB2.out (Nat.le_refl _) ?_)
        intro w3 HG3 hb3
        have HF : Hid (OI w3 wr.heap.size (.slice (some ⟨wr.heap.size, 0, none⟩) N N) (trm l f)) := by
          have e : splice (List.replicate N (Value.int .i64 0)) 0 cs = (trm l f).map (Value.int .i64) := by
            have hc1 := C1.out
            rw [HTR.out, List.map_append, List.map_replicate, ← HCS.out]
            simp only [splice, List.take_zero, List.nil_append, Nat.zero_add, List.drop_replicate]
            rw [hc1]
            congr 2
            have : Nat.min l.length N = min N l.length := Nat.min_comm _ _
            omega
          have h := HG3.out
          rw [e] at h
          have := OI.of_full h (Nat.le_refl _) (by rw [HLN.out]; unfold maxLen; omega)
          rwa [HLN.out] at this
        have HB3 := hide hb3
        clear hb3 HG3
        go_wp2
        go_ret
        rw [HLN.out]
        exact ⟨_, rfl, HF.out, HB3.out⟩
      · obtain rfl : k = f := by omega
        have HTR := hide (trm_cut (l := l) (f := k) (N := N) HNN.out HTC.out)
        have HLN : Hid ((trm l k).length = N) := by show _ = _; rw [trm_len]; exact HNN.out.symm
        obtain ⟨cs, HCS⟩ : ∃ cs, Hid (cs = (l.take N).map (Value.int .i64)) := ⟨_, rfl⟩
        have C1 : Hid (cs.length = Nat.min l.length N) := by show _ = _; rw [HCS.out, List.length_map, List.length_take]; exact Nat.min_comm _ _
        go_wp2_with (at_make; refine wpList_mkI rfl _ _ rfl _ _ _ _ N N rfl rfl (by omega) (by omega) (Nat.le_refl _) (by omega) ?_)
        intro w2 hg2 hb2
        have HG2 := hide hg2
        have HB2 := hide hb2
        have C2 : Hid (0 < cs.length → (some (⟨wr.heap.size, 0, none⟩ : Addr)) = some ⟨wr.heap.size, 0, none⟩ ∧ ∃ ad, ao = some ad ∧ ∀ j v, cs[j]? = some v → w2.cell? (ad.add j) = some v) := by
          intro hp
          refine ⟨rfl, ?_⟩
          rw [C1.out] at hp
          obtain ⟨ao', cap', he, _, _, hnil, hcell⟩ := HS.out
          simp only [Value.slice.injEq] at he
          obtain ⟨rfl, -, rfl⟩ := he
          cases hq : ao with
          | none => exact absurd (hnil hq) (by have : Nat.min l.length N ≤ l.length := Nat.min_le_left _ _; omega)
          | some x =>
            refine ⟨x, rfl, fun j u hj => ?_⟩
            rw [HCS.out] at hj
            obtain ⟨hjl, rfl⟩ := List.getElem?_eq_some_iff.1 hj
            have hjl' : j < l.length := by simp at hjl; omega
            have hc := hcell x hq j hjl'
            rw [HB2.out.cell (World.block_lt_of_cell? _ _ hc), hc]
            simp [hjl']
        have C3 : Hid (0 + cs.length ≤ (List.replicate N (Value.int .i64 0)).length) := by show _ ≤ _; rw [C1.out, List.length_replicate, Nat.zero_add]; exact Nat.min_le_right _ _
        have C4 : Hid (∀ v ∈ cs, v.oneCell' = true) := by rw [HCS.out]; intro u hu; obtain ⟨n, _, rfl⟩ := List.mem_map.1 hu; rfl
        clear hg2 hb2
        go_wp2_with (refine wpList_copy_splice rfl _ _ 23 23 rfl 3 Tryz.underlying23 sizeInt _ _ _ _ _ _ rfl rfl wr.heap.size 0 (List.replicate N (Value.int .i64 0)) 3 HG2.out cs C1.out C2.out C3.out C4.out wr.heap.size wr HB2.out (Nat.le_refl _) ?_)
        intro w3 HG3 hb3
        have HF : Hid (OI w3 wr.heap.size (.slice (some ⟨wr.heap.size, 0, none⟩) N N) (trm l k)) := by
          have e : splice (List.replicate N (Value.int .i64 0)) 0 cs = (trm l k).map (Value.int .i64) := by
            have hc1 := C1.out
            rw [HTR.out, List.map_append, List.map_replicate, ← HCS.out]
            simp only [splice, List.take_zero, List.nil_append, Nat.zero_add, List.drop_replicate]
            rw [hc1]
            congr 2
            have : Nat.min l.length N = min N l.length := Nat.min_comm _ _
            omega
          have h := HG3.out
          rw [e] at h
          have := OI.of_full h (Nat.le_refl _) (by rw [HLN.out]; unfold maxLen; omega)
          rwa [HLN.out] at this
        have HB3 := hide hb3
        clear hb3 HG3
        go_wp2
        go_ret
        rw [HLN.out]
        exact ⟨_, rfl, HF.out, HB3.out⟩
end Go.Proofs.YtiabhmdefaabgacGreatDoor

namespace Go.Proofs.YtiabhmdefaabgacGreatDoor
open Go.RowKit Go.Maps
set_option maxRecDepth 20000
set_option linter.unusedVariables false

/-- The order of the small code's lengths. -/
def zor : List Int := [16, 17, 18, 0, 8, 7, 9, 6, 10, 5, 11, 4, 12, 3, 13, 2, 14, 1, 15]
theorem zor_at : ∀ n : Nat, n < 19 → 0 ≤ zor.getD n 0 ∧ zor.getD n 0 < 19 := by decide

structure Odr (w : World) : Prop where
  get : ∀ i : Nat, i < 19 → w.cell? ⟨0, i, none⟩ = some (.int .i64 (zor.getD i 0))

theorem Odr.mono {w w' : World} (h : Odr w) (hb : Below w.heap.size w w') : Odr w' := ⟨fun i hi => (hb.cell (World.block_lt_of_cell? w _ (h.get i hi))).trans (h.get i hi)⟩

/-- May a block have these two codes? -/
def hck (l d : List Int) : Int := if l.getD 256 0 = 0 ∨ (chkS l ≠ 4 ∧ chkS l ≠ 1) then 75 else if chkS d ≠ 4 ∧ chkS d ≠ 1 ∧ chkS d ≠ 0 then 76 else 0

set_option maxHeartbeats 1000000 in
theorem hcheck_any (v1 v2 : Value) (l1 l2 : List Int) (w : World) (s1 : SI w v1 l1) (s2 : SI w v2 l2) (hl : 257 ≤ l1.length) :
    Calls Tryz.prog 32 #[v1, v2] w fun e w' => e = .returned (.int .i64 (hck l1 l2)) ∧ Below w.heap.size w w' := by
  have H1 := hide s1
  have H2 := hide s2
  obtain ⟨a1, c1, rfl, hc1, hd1⟩ := s1.open
  obtain ⟨a2, c2, rfl, hc2, hd2⟩ := s2.open
  clear s1 s2
  have hl' : (256 : Int) < (l1.length : Int) := by omega
  go_enter Tryz.func32, Tryz.ntmps32
  go_wp2_with fail
  refine (check_any _ l1 w H1.out).mono ?_
  rintro e w1 ⟨rfl, b1⟩
  obtain ⟨b, o, rfl, hc⟩ := H1.out.get b1 (k := 256) (by omega)
  have HB1 := hide b1
  have H21 := hide (H2.out.below b1)
  have HK : Hid (hck l1 l2 = if l1.getD 256 0 = 0 ∨ (chkS l1 ≠ 4 ∧ chkS l1 ≠ 1) then 75 else if chkS l2 ≠ 4 ∧ chkS l2 ≠ 1 ∧ chkS l2 ≠ 0 then 76 else 0) := rfl
  obtain ⟨y, HY⟩ : ∃ y, Hid (y = l1.getD 256 0) := ⟨_, rfl⟩
  obtain ⟨S, HSS⟩ : ∃ S, Hid (S = chkS l1) := ⟨_, rfl⟩
  rw [← HY.out] at hc HK
  rw [← HSS.out] at HK ⊢
  clear b1
  by_cases y0 : y = 0
  · have HR : Hid (hck l1 l2 = 75) := by show _ = _; rw [HK.out, if_pos (.inl y0)]
    subst y0
    go_wp2
    go_ret
    rw [HR.out]
    exact ⟨rfl, HB1.out⟩
  · have y0' : (y == 0) = false := by simpa using y0
    by_cases sok : S = 4 ∨ S = 1
    · have HK2 : Hid (hck l1 l2 = if chkS l2 ≠ 4 ∧ chkS l2 ≠ 1 ∧ chkS l2 ≠ 0 then 76 else 0) := by show _ = _; rw [HK.out, if_neg (by omega)]
      have HCK := hide (check_any _ l2 w1 H21.out)
      obtain ⟨U, HU⟩ : ∃ U, Hid (U = chkS l2) := ⟨_, rfl⟩
      rw [← HU.out] at HK2 HCK
      have tail : ∀ (Z : Prop), Z → Z := fun _ z => z
      rcases sok with rfl | rfl
      all_goals
        go_wp2_with fail
        refine HCK.out.mono ?_
        rintro e w2 ⟨rfl, b2⟩
        have HB2 := hide (HB1.out.trans (b2.mono HB1.out.size))
        clear b2
        by_cases u4 : U = 4
        · have HR : Hid (hck l1 l2 = 0) := by show _ = _; rw [HK2.out, if_neg (by omega)]
          subst u4
          go_wp2
          go_ret
          rw [HR.out]
          exact ⟨rfl, HB2.out⟩
        · have u4' : (U != 4) = true := by simpa using u4
          by_cases u1 : U = 1
          · have HR : Hid (hck l1 l2 = 0) := by show _ = _; rw [HK2.out, if_neg (by omega)]
            subst u1
            go_wp2
            go_ret
            rw [HR.out]
            exact ⟨rfl, HB2.out⟩
          · have u1' : (U != 1) = true := by simpa using u1
            by_cases u0 : U = 0
            · have HR : Hid (hck l1 l2 = 0) := by show _ = _; rw [HK2.out, if_neg (by omega)]
              subst u0
              go_wp2
              go_ret
              rw [HR.out]
              exact ⟨rfl, HB2.out⟩
            · have u0' : (U != 0) = true := by simpa using u0
              have HR : Hid (hck l1 l2 = 76) := by show _ = _; rw [HK2.out, if_pos ⟨u4, u1, u0⟩]
              go_wp2
              go_ret
              rw [HR.out]
              exact ⟨rfl, HB2.out⟩
    · have s4 : (S != 4) = true := by simp; omega
      have s1 : (S != 1) = true := by simp; omega
      have HR : Hid (hck l1 l2 = 75) := by show _ = _; rw [HK.out, if_pos (.inr (by omega))]
      go_wp2
      go_ret
      rw [HR.out]
      exact ⟨rfl, HB1.out⟩

/-- How often each symbol of the small code is the Sym of a run. -/
def usg (R : List Rn) : List Int := (List.range 19).map fun (s : Nat) => (((R.map (·.1)).count (s : Int) : Nat) : Int)
theorem usg_len (R : List Rn) : (usg R).length = 19 := by simp [usg]
theorem usg_at (R : List Rn) {s : Nat} (h : s < 19) : (usg R).getD s 0 = (((R.map (·.1)).count (s : Int) : Nat) : Int) := by
  simp only [usg, List.getD_eq_getElem?_getD, List.getElem?_map, List.getElem?_range h]
  rfl
theorem usg_nil : usg [] = List.replicate 19 0 := by decide
theorem usg_snoc (R : List Rn) (s : Nat) (c : Int) (h : s < 19) : usg (R ++ [((s : Int), c)]) = (usg R).set s ((usg R).getD s 0 + 1) := by
  apply List.ext_getElem?
  intro i
  rw [List.getElem?_set, usg_len]
  by_cases hi : i < 19
  · have e1 : (usg (R ++ [((s : Int), c)]))[i]? = some ((usg (R ++ [((s : Int), c)])).getD i 0) := by
      rw [List.getD_eq_getElem?_getD, List.getElem?_eq_getElem (by rw [usg_len]; exact hi)]; rfl
    have e2 : (usg R)[i]? = some ((usg R).getD i 0) := by
      rw [List.getD_eq_getElem?_getD, List.getElem?_eq_getElem (by rw [usg_len]; exact hi)]; rfl
    rw [e1, usg_at _ hi, List.map_append, List.count_append]
    by_cases q : s = i
    · subst q
      rw [if_pos rfl, if_pos h, usg_at _ h]
      simp
    · rw [if_neg q, e2, usg_at _ hi]
      have : List.count (i : Int) [(s : Int)] = 0 := by rw [List.count_eq_zero]; simp; omega
      simp only [List.map_cons, List.map_nil, this]
      simp
  · rw [List.getElem?_eq_none (by rw [usg_len]; omega)]
    by_cases q : s = i
    · rw [if_pos q, if_neg (by omega)]
    · rw [if_neg q, List.getElem?_eq_none (by rw [usg_len]; omega)]

theorem usg_le (R : List Rn) (s : Nat) (h : s < 19) : 0 ≤ (usg R).getD s 0 ∧ (usg R).getD s 0 ≤ R.length := by
  rw [usg_at R h]
  have := List.count_le_length (a := (s : Int)) (l := R.map (·.1))
  rw [List.length_map] at this
  omega

set_option maxHeartbeats 1000000 in
theorem huses_any (v : Value) (R : List Rn) (w : World) (h : SR w v R) (hok : ∀ r ∈ R, Okr r) (hn : R.length ≤ 1048576) :
    Calls Tryz.prog 36 #[v] w fun e w' => ∃ g, e = .returned (.slice (some ⟨g, 0, none⟩) 19 19) ∧ OI w' w.heap.size (.slice (some ⟨g, 0, none⟩) 19 19) (usg R) ∧ Below w.heap.size w w' := by
  have HS := hide h
  have HOK := hide hok
  obtain ⟨ao, cap, rfl, hlc, hcm⟩ := h.open
  clear h hok
  go_enter Tryz.func36, Tryz.ntmps36
  go_wp2_with (at_make; refine wpList_mkI rfl _ _ rfl _ _ _ _ 19 19 rfl rfl rfl rfl (Nat.le_refl _) (by omega) ?_)
  intro w1 hg1 hb1
  have HO1 : Hid (OI w1 w.heap.size (.slice (some ⟨w.heap.size, 0, none⟩) 19 19) (usg [])) := by
    rw [usg_nil]
    exact hide (OI.of_full (l := List.replicate 19 0) (by rw [hg1]; rfl) (Nat.le_refl _) (by unfold maxLen; simp))
  have HB1 := hide hb1
  clear hg1 hb1
  go_wp2
  go_loopw [9] (fun i wr => ∃ k : Nat, k ≤ R.length ∧ i = .int .i64 k ∧ Hid (OI wr w.heap.size (.slice (some ⟨w.heap.size, 0, none⟩) 19 19) (usg (R.take k))) ∧ Hid (Below w.heap.size w wr)) (fun i _ => R.length - (intOf i).toNat)
  case atStart => exact ⟨0, Nat.zero_le _, rfl, HO1.out, HB1.out⟩
  case round =>
    obtain ⟨k, hk, rfl, HO, HB⟩ := hrel
    by_cases hlt : k < R.length
    · have hlt' : (k : Int) < (R.length : Int) := by omega
      obtain ⟨b, o, rfl, c1, c2⟩ := HS.out.get HB.out hlt
      have ok : Okr (R.getD k rn0) := HOK.out _ (by rw [show R.getD k rn0 = R[k] by simp [hlt]]; exact List.getElem_mem hlt)
      have h1 := ok.1
      have h2 := ok.2.1
      have HSN : Hid (R.take (k + 1) = R.take k ++ [R.getD k rn0]) := by show _ = _; rw [List.take_succ_eq_append_getElem hlt]; simp [hlt]
      obtain ⟨r, hr⟩ : ∃ r, r = R.getD k rn0 := ⟨_, rfl⟩
      rw [← hr] at c1 c2 h1 h2 HSN
      obtain ⟨s', c⟩ := r
      simp only at c1 c2 h1 h2
      obtain ⟨s, rfl⟩ := Int.eq_ofNat_of_zero_le h1
      have hs : s < 19 := by omega
      have hs' : (s : Int) < 19 := by omega
      clear hr ok h1 h2
      obtain ⟨wx, hwx⟩ : ∃ wx, wr.alloc (.cells #[.int .i64 s, .int .i64 c] 79) = wx := ⟨_, rfl⟩
      have HBX : Hid (Below w.heap.size w wx) := by rw [← hwx]; exact hide (HB.out.alloc HB.out.size _)
      have HOX : Hid (OI wx w.heap.size (.slice (some ⟨w.heap.size, 0, none⟩) 19 19) (usg (R.take k))) := by rw [← hwx]; exact hide (HO.out.alloc _)
      have z0 : wx.cell? ⟨wr.heap.size, 0, none⟩ = some (.int .i64 s) := by rw [← hwx]; unfold World.cell?; simp only [heap_alloc_new]; rfl
      have y0 := HOX.out.get (b := w.heap.size) rfl (i := s) (by rw [usg_len]; exact hs)
      have hbd := usg_le (R.take k) s hs
      obtain ⟨g, cc, hv, _, hfz, hput⟩ := HOX.out.put (k := s) (by rw [usg_len]; exact hs) ((usg (R.take k)).getD s 0 + 1)
      simp only [Value.slice.injEq, Option.some.injEq, Addr.mk.injEq, and_true] at hv
      obtain ⟨rfl, -, -⟩ := hv
      rw [← usg_snoc (R.take k) s c hs, ← HSN.out] at hput
      have HP := hide hput
      have hRl : (R.take k).length ≤ 1048576 := by rw [List.length_take]; omega
      obtain ⟨Y, hY⟩ : ∃ Y, Y = (usg (R.take k)).getD s 0 := ⟨_, rfl⟩
      rw [← hY] at y0 hbd HP
      have hY1 : 0 ≤ Y := hbd.1
      have hY2 : Y ≤ 1048576 := by omega
      have HBN : Hid (Below w.heap.size w (wx.setCell ⟨w.heap.size, s, none⟩ (.int .i64 (Y + 1)))) := HBX.out.setCell (p := ⟨w.heap.size, s, none⟩) (Nat.le_refl _) _
      clear hput hY hbd
      go_wp2
      go_roundw
      case rel => exact ⟨k + 1, by omega, by go_num, HP, HBN⟩
      case measure => simp [intOf]; omega
    · obtain rfl : k = R.length := by omega
      have hlt' : ¬ (R.length : Int) < (R.length : Int) := by omega
      have HF : Hid (OI wr w.heap.size (.slice (some ⟨w.heap.size, 0, none⟩) 19 19) (usg R)) := by have := HO.out; rwa [List.take_of_length_le (Nat.le_refl _)] at this
      go_wp2
      go_ret
      exact ⟨_, rfl, HF.out, HB.out⟩
end Go.Proofs.YtiabhmdefaabgacGreatDoor

namespace Go.Proofs.YtiabhmdefaabgacGreatDoor
open Go.RowKit Go.Maps
set_option maxRecDepth 20000
set_option linter.unusedVariables false

/-- How many lengths of the small code have to be written. -/
def wrn (c : List Int) : Nat → Nat
  | 0 => 0
  | n + 1 => if 4 < n + 1 ∧ c.getD (zor.getD n 0).toNat 0 = 0 then wrn c n else n + 1
def wrt (c : List Int) : Nat := wrn c 19

theorem wrn_le (c : List Int) : ∀ n, wrn c n ≤ n
  | 0 => Nat.le_refl _
  | n + 1 => by simp only [wrn]; split
                · have := wrn_le c n; omega
                · exact Nat.le_refl _
theorem wrt_le (c : List Int) : wrt c ≤ 19 := wrn_le c 19
theorem wrn_ge (c : List Int) : ∀ n, 4 ≤ n → 4 ≤ wrn c n
  | 0, h => h
  | n + 1, h => by simp only [wrn]; split
                   · rename_i q; exact wrn_ge c n (by omega)
                   · exact h
theorem wrt_ge (c : List Int) : 4 ≤ wrt c := wrn_ge c 19 (by omega)

set_option maxHeartbeats 1000000 in
theorem written_any (v : Value) (c : List Int) (w : World) (h : SI w v c) (O : Odr w) (hc : c.length = 19) :
    Calls Tryz.prog 39 #[v] w fun e w' => e = .returned (.int .i64 (wrt c : Nat)) ∧ w' = w := by
  have HS := hide h
  have HO := hide O
  obtain ⟨ao, cap, rfl, hlc, hcm⟩ := h.open
  clear h O
  go_enter Tryz.func39, Tryz.ntmps39
  go_wp2
  go_loopw [3] (fun i wr => ∃ k : Nat, k ≤ 19 ∧ 4 ≤ k ∧ i = .int .i64 k ∧ wr = w ∧ Hid (wrt c = wrn c k)) (fun i _ => (intOf i).toNat)
  case atStart => exact ⟨19, Nat.le_refl _, by omega, rfl, rfl, rfl⟩
  case round =>
    obtain ⟨k, hk, hk4, rfl, hw, HK⟩ := hrel
    subst hw
    by_cases hlt : 4 < k
    · have hlt' : (4 : Int) < (k : Int) := by omega
      obtain ⟨j, rfl⟩ : ∃ j, k = j + 1 := ⟨k - 1, by omega⟩
      have hj19 : (j : Int) < 19 := by omega
      have o1 := HO.out.get j (by omega)
      have o2 := zor_at j (by omega)
      have HT : Hid (wrn c (j + 1) = if c.getD (zor.getD j 0).toNat 0 = 0 then wrn c j else j + 1) := by
        show _ = _
        simp only [wrn]
        by_cases q : c.getD (zor.getD j 0).toNat 0 = 0
        · rw [if_pos ⟨hlt, q⟩, if_pos q]
        · rw [if_neg (fun z => q z.2), if_neg q]
      obtain ⟨z', hz⟩ : ∃ z', z' = zor.getD j 0 := ⟨_, rfl⟩
      rw [← hz] at o1 o2 HT
      obtain ⟨z, rfl⟩ := Int.eq_ofNat_of_zero_le o2.1
      rw [Int.toNat_natCast] at HT
      have hzl : (z : Int) < (c.length : Int) := by rw [hc]; exact o2.2
      obtain ⟨b, o, rfl, hcz⟩ := HS.out.get (Below.refl _ _) (k := z) (by omega)
      obtain ⟨y, HY⟩ : ∃ y, Hid (y = c.getD z 0) := ⟨_, rfl⟩
      rw [← HY.out] at hcz HT
      have ej : ((j : Int) + 1 - 1) = (j : Int) := by omega
      clear hz o2
      by_cases hy : y = 0
      · subst hy
        have HK2 : Hid (wrt c = wrn c j) := by show _ = _; rw [HK.out, HT.out, if_pos rfl]
        go_wp2
        go_roundw
        case rel => exact ⟨j, by omega, by omega, rfl, HK2⟩
        case measure => simp [intOf]; omega
      · have hy' : (y == 0) = false := by simpa using hy
        have HK2 : Hid (wrt c = j + 1) := by show _ = _; rw [HK.out, HT.out, if_neg hy]
        go_wp2
        go_ret
        rw [HK2.out]
        exact ⟨by go_num, rfl⟩
    · obtain rfl : k = 4 := by omega
      have HK2 : Hid (wrt c = 4) := by
        show _ = _
        have h1 := wrt_ge c
        have h2 := wrn_le c 4
        have h3 := HK.out
        omega
      go_wp2
      go_ret
      rw [HK2.out]
      exact ⟨rfl, rfl⟩

/-- How many bits the runs have. -/
def rsz (C : List Int) : List Rn → Int
  | [] => 0
  | r :: R => C.getD r.1.toNat 0 + (frt r.1 : Nat) + rsz C R
def hsz (C : List Int) (R : List Rn) : Int := 14 + 3 * (wrt C : Int) + rsz C R

theorem rsz_snoc (C : List Int) (R : List Rn) (r : Rn) : rsz C (R ++ [r]) = rsz C R + (C.getD r.1.toNat 0 + (frt r.1 : Nat)) := by
  induction R with
  | nil => simp [rsz]
  | cons a R ih => simp only [List.cons_append, rsz, ih]; omega

theorem frt_le (s : Int) : frt s ≤ 7 := by unfold frt; split; omega; split; omega; split <;> omega

theorem rsz_bound {C : List Int} (hC : ∀ s, 0 ≤ C.getD s 0 ∧ C.getD s 0 ≤ 15) (R : List Rn) : 0 ≤ rsz C R ∧ rsz C R ≤ 22 * R.length := by
  induction R with
  | nil => simp [rsz]
  | cons r R ih =>
    have := hC r.1.toNat
    have := frt_le r.1
    simp only [rsz, List.length_cons]
    omega

set_option maxHeartbeats 2000000 in
theorem hsize_any (vL vD vC vR : Value) (C : List Int) (R : List Rn) (w : World) (hvl : vL.oneCell' = true) (hvd : vD.oneCell' = true) (hC : SI w vC C) (hR : SR w vR R) (T : Tab w) (O : Odr w) (h19 : C.length = 19) (hb : ∀ s, 0 ≤ C.getD s 0 ∧ C.getD s 0 ≤ 15) (hok : ∀ r ∈ R, Okr r) (hn : R.length ≤ 1048576) :
    Calls Tryz.prog 37 #[.agg #[vL, vD, vC, vR, .int .i64 0]] w fun e w' => e = .returned (.int .i64 (hsz C R)) ∧ Below w.heap.size w w' := by
  have HC := hide hC
  have HR := hide hR
  have HT := hide T
  have HO := hide O
  have HOK := hide hok
  have HBD := hide hb
  obtain ⟨aC, cC, rfl, hc1, hc2⟩ := hC.open
  obtain ⟨aR, cR, rfl, hr1, hr2⟩ := hR.open
  clear hC hR T O hok hb
  have H19 := hide h19
  have HC0 : Hid (∀ W, Below w.heap.size w W → ∀ k, k < 19 → ∃ b o, aC = some ⟨b, o, none⟩ ∧ W.cell? ⟨b, o + k, none⟩ = some (.int .i64 (C.getD k 0))) := fun W hW k hk => HC.out.get hW (by rw [H19.out]; exact hk)
  have HW0 : Hid (∀ W, Below w.heap.size w W → Calls Tryz.prog 39 #[.slice aC 19 cC] W fun e w' => e = .returned (.int .i64 (wrt C : Nat)) ∧ w' = W) := fun W hW => by
    have := written_any _ C W (HC.out.below hW) (HO.out.mono hW) H19.out
    rwa [H19.out] at this
  rw [h19] at hc1 ⊢
  clear h19 HC
  obtain ⟨wb, hwb⟩ : ∃ wb, w.alloc (.cells #[vL, vD, .slice aC 19 cC, .slice aR R.length cR, .int .i64 0] 45) = wb := ⟨_, rfl⟩
  have hb0 : Below w.heap.size w wb := by rw [← hwb]; exact (Below.refl _ _).alloc (Nat.le_refl _) _
  have hg0 : wb.heap[w.heap.size]? = some (.cells #[vL, vD, .slice aC 19 cC, .slice aR R.length cR, .int .i64 0] 45 (0, 0)) := by rw [← hwb]; exact heap_alloc_new w _
  have d2 : wb.cell? ⟨w.heap.size, 2, none⟩ = some (.slice aC 19 cC) := by unfold World.cell?; rw [hg0]; rfl
  have d3 : wb.cell? ⟨w.heap.size, 3, none⟩ = some (.slice aR R.length cR) := by unfold World.cell?; rw [hg0]; rfl
  have HG0 := hide hg0
  have hsl : w.heap.size < wb.heap.size := by rw [← hwb]; simp
  have HSL := hide hsl
  have HB0 := hide hb0
  have hw19 := wrt_le C
  have HWB := hide hwb
  clear hb0 hg0 hwb hsl
  go_enter Tryz.func37, Tryz.ntmps37
  go_wp2_with fail
  rw [HWB.out]
  refine (HW0.out wb HB0.out).mono ?_
  rintro e w1 ⟨rfl, hw1⟩
  subst hw1
  obtain ⟨W, HW⟩ : ∃ W, Hid (W = wrt C) := ⟨_, rfl⟩
  have HZ : Hid (hsz C R = 14 + 3 * (W : Int) + rsz C R) := by show _ = _; rw [HW.out]; rfl
  rw [← HW.out] at hw19 ⊢
  have HRB := hide (fun k => rsz_bound HBD.out (R.take k))
  go_wp2
  go_loopw [3, 14] (fun t i wr => ∃ k : Nat, k ≤ R.length ∧ i = .int .i64 k ∧ t = .int .i64 (14 + 3 * (W : Int) + rsz C (R.take k)) ∧ Hid (wr.heap[w.heap.size]? = some (.cells #[vL, vD, .slice aC 19 cC, .slice aR R.length cR, .int .i64 0] 45 (0, 0))) ∧ Hid (Below w.heap.size w wr)) (fun _ i _ => R.length - (intOf i).toNat)
  case atStart => exact ⟨0, Nat.zero_le _, rfl, by simp [rsz], HG0.out, HB0.out⟩
  case round =>
    obtain ⟨k, hk, rfl, rfl, HG, HB⟩ := hrel
    by_cases hlt : k < R.length
    · have hlt' : (k : Int) < (R.length : Int) := by omega
      obtain ⟨b, o, rfl, c1, c2⟩ := HR.out.get HB.out hlt
      have ok : Okr (R.getD k rn0) := HOK.out _ (by rw [show R.getD k rn0 = R[k] by simp [hlt]]; exact List.getElem_mem hlt)
      have hk1 := ok.1
      have hk2 := ok.2.1
      have HSN : Hid (R.take (k + 1) = R.take k ++ [R.getD k rn0]) := by show _ = _; rw [List.take_succ_eq_append_getElem hlt]; simp [hlt]
      obtain ⟨r, hr⟩ : ∃ r, r = R.getD k rn0 := ⟨_, rfl⟩
      rw [← hr] at c1 c2 hk1 hk2 HSN
      obtain ⟨s', c⟩ := r
      simp only at c1 c2 hk1 hk2
      obtain ⟨s, rfl⟩ := Int.eq_ofNat_of_zero_le hk1
      have hs : s < 19 := by omega
      have hs' : (s : Int) < 19 := by omega
      have HRN : Hid (rsz C (R.take (k + 1)) = rsz C (R.take k) + (C.getD s 0 + (frt s : Nat))) := by show _ = _; rw [HSN.out, rsz_snoc]; rfl
      have hrb := HRB.out k
      have hrl : (R.take k).length ≤ 1048576 := by rw [List.length_take]; omega
      obtain ⟨wx, hwx⟩ : ∃ wx, wr.alloc (.cells #[.int .i64 s, .int .i64 c] 79) = wx := ⟨_, rfl⟩
      have HBX : Hid (Below w.heap.size w wx) := by rw [← hwx]; exact hide (HB.out.alloc HB.out.size _)
      have hgx : wx.heap[w.heap.size]? = some (.cells #[vL, vD, .slice aC 19 cC, .slice (some ⟨b, o, none⟩) R.length cR, .int .i64 0] 45 (0, 0)) := by
        rw [← hwx, Below.heap_alloc wr _ _ (by
          rcases Nat.lt_or_ge w.heap.size wr.heap.size with h | h
          · exact h
          · have := HG.out; rw [Array.getElem?_eq_none h] at this; cases this)]
        exact HG.out
      have x2 : wx.cell? ⟨w.heap.size, 2, none⟩ = some (.slice aC 19 cC) := by unfold World.cell?; rw [hgx]; rfl
      have z0 : wx.cell? ⟨wr.heap.size, 0, none⟩ = some (.int .i64 s) := by rw [← hwx]; unfold World.cell?; simp only [heap_alloc_new]; rfl
      obtain ⟨bC, oC, hbC, y0⟩ := HC0.out wx HBX.out s hs
      subst hbC
      have f0 := (HT.out.mono HBX.out).further s hs
      have hcb := HBD.out s
      have hfb := frt_le s
      have HGX : Hid (∀ q, (wx.drewN q).heap[w.heap.size]? = some (.cells #[vL, vD, .slice (some ⟨bC, oC, none⟩) 19 cC, .slice (some ⟨b, o, none⟩) R.length cR, .int .i64 0] 45 (0, 0))) := fun q => hgx
      have HBD2 : Hid (∀ q, Below w.heap.size w (wx.drewN q)) := fun q => below_drewN HBX.out q
      obtain ⟨Y, HY⟩ : ∃ Y, Hid (Y = C.getD s 0) := ⟨_, rfl⟩
      obtain ⟨F, HF⟩ : ∃ F, Hid (F = frt s) := ⟨_, rfl⟩
      obtain ⟨Z, HZZ⟩ : ∃ Z, Hid (Z = rsz C (R.take k)) := ⟨_, rfl⟩
      rw [← HY.out] at y0 hcb HRN
      rw [← HF.out] at f0 hfb HRN
      rw [← HZZ.out] at HRN hrb ⊢
      have hz1 : 0 ≤ Z := hrb.1
      have hz2 : Z ≤ 23068672 := by omega
      have hy1 : 0 ≤ Y := hcb.1
      have hy2 : Y ≤ 15 := hcb.2
      clear hr ok hk1 hk2 hgx hcb hrb HSN
      go_wp2
      go_quiet (fail)
      go_wp2
      go_roundw
      case rel => exact ⟨k + 1, by omega, by go_num, by rw [HRN.out]; go_num, HGX.out _, HBD2.out _⟩
      case measure => simp [intOf]; omega
    · obtain rfl : k = R.length := by omega
      have hlt' : ¬ (R.length : Int) < (R.length : Int) := by omega
      have HF : Hid (14 + 3 * (W : Int) + rsz C (R.take R.length) = hsz C R) := by show _ = _; rw [List.take_of_length_le (Nat.le_refl _)]; exact HZ.out.symm
      rw [HF.out]
      go_wp2
      go_ret
      exact ⟨rfl, HB.out⟩
end Go.Proofs.YtiabhmdefaabgacGreatDoor

