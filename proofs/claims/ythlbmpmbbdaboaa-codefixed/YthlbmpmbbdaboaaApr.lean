import Derived.Test.YthlbmpmbbdaboaaSpo
namespace Go.Proofs.Ythlbmpmbbdaboaa
open Go.RowKit Go.Maps
set_option maxRecDepth 20000

/-- A list, and what was appended to it. -/
def tii (v : Value) (l : List Int) (u : Value) (r : List Int) : Thing :=
  ⟨fun w K => (OI w 0 v l ∧ OI w 0 u r) ∧ ((∀ k, v.ownBlock = some k → K k ≠ 0) ∧ ∀ k, u.ownBlock = some k → K k ≠ 0) ∧ ∀ k, K k ≠ 0 → k < w.heap.size,
   fun h a b => ⟨⟨h.1.1.move fun k hk => b k (h.2.1.1 k hk), h.1.2.move fun k hk => b k (h.2.1.2 k hk)⟩, h.2.1, fun k hk => Nat.lt_of_lt_of_le (h.2.2 k hk) a⟩, fun h => h.2.2⟩

theorem Herd.grow2 {W w w' : World} {xs : List ((Nat → Nat) × Thing)} (H : Herd W w xs) (i : Nat) {K : Nat → Nat} {v v' : Value} {l l' : List Int} (hi : xs[i]? = some (K, ti v l)) {o : Obj} (ho : OI w' 0 v' l') (hk0 : OI w' 0 v l) (hg : Grew (w.alloc o) w' v v') : ∃ K', Herd W w' (xs.set i (K', tii v l v' l')) := by
  have hp : (ti v l).P w K := H.rep i _ hi
  have hs : w.heap.size ≤ w'.heap.size := by have := hg.by.size; rw [size_alloc'] at this; omega
  refine ⟨fun k => if k < w.heap.size then K k else if v'.ownBlock = some k then 1 else 0, H.op i hi (x' := tii v l v' l') ⟨⟨hk0, ho⟩, ⟨fun k hk => ?_, fun k hk => ?_⟩, fun k hk => ?_⟩ ⟨hg.by.os, hg.by.tape, hg.by.output, hs, fun k hk h0 => ?_, fun k hk => by simp [hk]⟩⟩
  · have c : k < w.heap.size := (hp.1.lt k hk).2
    simp only [c, if_true]
    exact hp.2.1 k hk
  · by_cases c : k < w.heap.size
    · simp only [c, if_true]
      rcases hg.at with e | e
      · rw [e, size_alloc'] at hk
        simp at hk
        omega
      · exact hp.2.1 k (by rw [← e]; exact hk)
    · simp [c, hk]
  · by_cases c : k < w.heap.size
    · omega
    · simp only [c, if_false] at hk
      by_cases e : v'.ownBlock = some k
      · exact (ho.lt k e).2
      · simp [e] at hk
  · have hne : some k ≠ v.ownBlock := fun e => hp.2.1 k e.symm h0
    rw [hg.by.block k (by rw [size_alloc']; omega) hne]
    exact Below.heap_alloc w o k hk

theorem Herd.weak {W w : World} {xs : List ((Nat → Nat) × Thing)} (H : Herd W w xs) (i : Nat) {K : Nat → Nat} {v u : Value} {l r : List Int} (hi : xs[i]? = some (K, tii v l u r)) : Herd W w (xs.set i (K, ti v l)) := by
  have hp : (tii v l u r).P w K := H.rep i _ hi
  exact H.op i hi (x' := ti v l) ⟨hp.1.1, hp.2.1.1, hp.2.2⟩ (Fr.refl _ _)

theorem set_get {α : Type} (xs : List α) {i : Nat} (a : α) (h : i < xs.length) : (xs.set i a)[i]? = some a := by rw [List.getElem?_set, if_pos rfl, if_pos h]

theorem set_get_ne {α : Type} (xs : List α) {i j : Nat} (a : α) (h : i ≠ j) : (xs.set i a)[j]? = xs[j]? := by rw [List.getElem?_set, if_neg h]

theorem rep_get (n : Nat) (m : Int) {k : Nat} (h : k < n) : (List.replicate n m).getD k 0 = m := by simp [List.getD, h]

theorem rep_last (n : Nat) (m x : Int) : (List.replicate n m ++ [x]).getD n 0 = x := by simp [List.getD]

theorem OI.capc {w : World} {base : Nat} {a : Option Addr} {n c : Nat} {l : List Int} (h : OI w base (.slice a n c) l) : n = l.length ∧ l.length ≤ c ∧ c ≤ 9223372036854775807 := by
  obtain ⟨_, _, e1, e2, e3⟩ := h.sb.open
  simp only [Value.slice.injEq] at e1
  obtain ⟨-, e4, rfl⟩ := e1
  exact ⟨e4, e2, e3⟩

set_option maxHeartbeats 4000000 in
theorem apart_herd {W w : World} {xs : List ((Nat → Nat) × Thing)} (H : Herd W w xs) (i j : Nat) {Ka Kb : Nat → Nat} {va vb : Value} {la lb : List Int} (hi : xs[i]? = some (Ka, ti va la)) (hj : xs[j]? = some (Kb, ti vb lb)) (hij : i ≠ j) (hla : la.length ≤ 1000) (hlb : lb.length ≤ 1000) :
    Calls Try.prog 15 #[va, vb] w fun e w' => e = .returned (.bool true) ∧ ∃ Ka' Kb', Herd W w' ((xs.set i (Ka', ti va (List.replicate la.length 9))).set j (Kb', ti vb (List.replicate lb.length 8))) := by
  have hil := (List.getElem?_eq_some_iff.1 hi).1
  have hjl := (List.getElem?_eq_some_iff.1 hj).1
  obtain ⟨aa, ca, hva⟩ := (H.ioi i hi).shape
  obtain ⟨ab, cb, hvb⟩ := (H.ioi j hj).shape
  subst hva hvb
  obtain ⟨-, ha1, ha2⟩ := (H.ioi i hi).capc
  obtain ⟨-, hb1, hb2⟩ := (H.ioi j hj).capc
  have HH : Hid (Herd W w (xs.set i (Ka, ti (.slice aa la.length ca) (List.replicate 0 9 ++ la.drop 0)))) := by
    have e : xs.set i (Ka, ti (.slice aa la.length ca) (List.replicate 0 9 ++ la.drop 0)) = xs := by
      apply List.ext_getElem?
      intro m
      rw [List.getElem?_set]
      by_cases c : i = m
      · subst c
        rw [if_pos rfl, hi, if_pos (List.getElem?_eq_some_iff.1 hi).1]
        simp
      · rw [if_neg c]
    rw [e]; exact H
  have HJ := hide hj
  have HIL := hide hil
  have HJL := hide hjl
  have HIJ := hide hij
  clear H hi hj hil hjl hij
  go_enter Try.func15, Try.ntmps15
  go_wp2
  go_loopw [5] (fun q wr => ∃ k : Nat, k ≤ la.length ∧ q = .int .i64 k ∧ Hid (Herd W wr (xs.set i (Ka, ti (.slice aa la.length ca) (List.replicate k 9 ++ la.drop k))))) (fun q _ => la.length - (intOf q).toNat)
  case atStart => exact ⟨0, Nat.zero_le _, rfl, HH⟩
  case round =>
    clear HH
    obtain ⟨k, hk, rfl, HT⟩ := hrel
    by_cases hlt : k < la.length
    · have hlt' : (k : Int) < (la.length : Int) := by omega
      obtain ⟨g', c2, hv', ⟨u, hu⟩, hf, h2⟩ := HT.out.iput i (set_get xs _ HIL.out) (k := k) (by rw [len_rep _ _ (by omega)]; omega) 9
      simp only [Value.slice.injEq] at hv'
      obtain ⟨rfl, -, -⟩ := hv'
      rw [set_rep _ _ _ (by omega)] at h2
      have H2 := hide h2.setset
      clear h2 HT
      go_wp2
      go_roundw
      case rel => exact ⟨k + 1, by omega, by go_num, H2⟩
      case measure => simp [intOf]; omega
    · obtain rfl : k = la.length := by omega
      have hlt' : ¬ (la.length : Int) < (la.length : Int) := by omega
      obtain ⟨L9, HL9⟩ : ∃ L, Hid (L = List.replicate la.length (9 : Int)) := ⟨_, rfl⟩
      have hL9 : L9.length = la.length := by rw [HL9.out]; simp
      have HH2 : Hid (Herd W wr ((xs.set i (Ka, ti (.slice aa la.length ca) L9)).set j (Kb, ti (.slice ab lb.length cb) (List.replicate 0 8 ++ lb.drop 0)))) := by
        have h := HT.out
        rw [List.drop_of_length_le (Nat.le_refl _), List.append_nil, ← HL9.out] at h
        have e : (xs.set i (Ka, ti (.slice aa la.length ca) L9)).set j (Kb, ti (.slice ab lb.length cb) (List.replicate 0 8 ++ lb.drop 0)) = xs.set i (Ka, ti (.slice aa la.length ca) L9) := by
          apply List.ext_getElem?
          intro m
          rw [List.getElem?_set]
          by_cases c : j = m
          · subst c
            rw [if_pos rfl, set_get_ne _ _ HIJ.out, HJ.out, if_pos (by rw [List.length_set]; exact HJL.out)]
            simp
          · rw [if_neg c]
        rw [e]; exact h
      clear HT
      go_wp2
      go_loopw [6] (fun q wr => ∃ k : Nat, k ≤ lb.length ∧ q = .int .i64 k ∧ Hid (Herd W wr ((xs.set i (Ka, ti (.slice aa la.length ca) L9)).set j (Kb, ti (.slice ab lb.length cb) (List.replicate k 8 ++ lb.drop k))))) (fun q _ => lb.length - (intOf q).toNat)
      case atStart => exact ⟨0, Nat.zero_le _, rfl, HH2⟩
      case round =>
        clear HH2
        obtain ⟨k, hk2, rfl, HT⟩ := hrel
        by_cases hlt2 : k < lb.length
        · have hlt2' : (k : Int) < (lb.length : Int) := by omega
          obtain ⟨g', c2, hv', ⟨u, hu⟩, hf, h2⟩ := HT.out.iput j (set_get _ _ (by rw [List.length_set]; exact HJL.out)) (k := k) (by rw [len_rep _ _ (by omega)]; omega) 8
          simp only [Value.slice.injEq] at hv'
          obtain ⟨rfl, -, -⟩ := hv'
          rw [set_rep _ _ _ (by omega)] at h2
          have H2 := hide h2.setset
          clear h2 HT
          go_wp2
          go_roundw
          case rel => exact ⟨k + 1, by omega, by go_num, H2⟩
          case measure => simp [intOf]; omega
        · obtain rfl : k = lb.length := by omega
          have hlt2' : ¬ (lb.length : Int) < (lb.length : Int) := by omega
          obtain ⟨L8, HL8⟩ : ∃ L, Hid (L = List.replicate lb.length (8 : Int)) := ⟨_, rfl⟩
          have hL8 : L8.length = lb.length := by rw [HL8.out]; simp
          have h := HT.out
          rw [List.drop_of_length_le (Nat.le_refl _), List.append_nil, ← HL8.out] at h
          have H1 := hide h
          have gi : ((xs.set i (Ka, ti (.slice aa la.length ca) L9)).set j (Kb, ti (.slice ab lb.length cb) L8))[i]? = some (Ka, ti (.slice aa la.length ca) L9) := by
            rw [set_get_ne _ _ (fun e => HIJ.out e.symm), set_get _ _ HIL.out]
          have HGI := hide gi
          have HOA := hide (h.ioi i gi)
          have HALC : Hid (OI (wr.alloc (.cells #[.int .i64 5] 3)) 0 (.slice aa la.length ca) L9) := HOA.out.alloc _
          have HSR : Hid (Src Try.prog 1 22 (.slice (some ⟨wr.heap.size, 0, none⟩) 1 1) ([5] : List Int).length (([5] : List Int).map (Value.int .i64)) (wr.alloc (.cells #[.int .i64 5] 3))) := built_srcI wr [5]
          clear h HT gi
          go_wp2_with (at_builtin; refine wpList_appK rfl _ _ 22 rfl 0 _ _ L9 [5] rfl HALC.out rfl HSR.out (by simp; omega) (Nat.zero_le _) ?_)
          intro v3 w3 ho3 hgr3 hk3
          obtain ⟨K3, h3⟩ := H1.out.grow2 i HGI.out ho3 hk3 hgr3
          have h3' : Herd W w3 ((xs.set i (K3, tii (.slice aa la.length ca) L9 v3 (L9 ++ [5]))).set j (Kb, ti (.slice ab lb.length cb) L8)) := by
            rw [List.set_comm _ _ HIJ.out, List.set_set] at h3
            rw [List.set_comm _ _ (fun e => HIJ.out e.symm)] at h3
            exact h3
          have H3 := hide h3'
          obtain ⟨a3, c3, hv3⟩ := ho3.shape
          have hl3 : (L9 ++ [5]).length = la.length + 1 := by rw [List.length_append, hL9]; rfl
          rw [hl3] at hv3
          subst hv3
          clear ho3 hgr3 hk3 h3 h3' HALC HSR HOA
          have gj : ((xs.set i (K3, tii (.slice aa la.length ca) L9 (.slice a3 (la.length + 1) c3) (L9 ++ [5]))).set j (Kb, ti (.slice ab lb.length cb) L8))[j]? = some (Kb, ti (.slice ab lb.length cb) L8) := set_get _ _ (by rw [List.length_set]; exact HJL.out)
          have HGJ := hide gj
          have HOB := hide (H3.out.ioi j gj)
          have HALC : Hid (OI (w3.alloc (.cells #[.int .i64 6] 3)) 0 (.slice ab lb.length cb) L8) := HOB.out.alloc _
          have HSR : Hid (Src Try.prog 1 22 (.slice (some ⟨w3.heap.size, 0, none⟩) 1 1) ([6] : List Int).length (([6] : List Int).map (Value.int .i64)) (w3.alloc (.cells #[.int .i64 6] 3))) := built_srcI w3 [6]
          clear gj
          go_wp2_with (at_builtin; refine wpList_appK rfl _ _ 22 rfl 0 _ _ L8 [6] rfl HALC.out rfl HSR.out (by simp; omega) (Nat.zero_le _) ?_)
          intro v4 w4 ho4 hgr4 hk4
          obtain ⟨K4, h4⟩ := H3.out.grow2 j HGJ.out ho4 hk4 hgr4
          rw [List.set_set] at h4
          have H4 := hide h4
          obtain ⟨a4, c4, hv4⟩ := ho4.shape
          have hl4 : (L8 ++ [6]).length = lb.length + 1 := by rw [List.length_append, hL8]; rfl
          rw [hl4] at hv4
          subst hv4
          clear ho4 hgr4 hk4 h4 HALC HSR HOB H1 H3
          have pi : (tii (.slice aa la.length ca) L9 (.slice a3 (la.length + 1) c3) (L9 ++ [5])).P w4 K3 := H4.out.rep i _ (by rw [set_get_ne _ _ (fun e => HIJ.out e.symm), set_get _ _ HIL.out])
          have pj : (tii (.slice ab lb.length cb) L8 (.slice a4 (lb.length + 1) c4) (L8 ++ [6])).P w4 K4 := H4.out.rep j _ (set_get _ _ (by rw [List.length_set]; exact HJL.out))
          have HA := hide pi.1.1
          have HA3 := hide pi.1.2
          have HB := hide pj.1.1
          have HB4 := hide pj.1.2
          have HFIN : Hid (∃ Ka' Kb', Herd W w4 ((xs.set i (Ka', ti (.slice aa la.length ca) (List.replicate la.length 9))).set j (Kb', ti (.slice ab lb.length cb) (List.replicate lb.length 8)))) := by
            have h1 := H4.out.weak j (set_get _ _ (by rw [List.length_set]; exact HJL.out))
            rw [List.set_set] at h1
            have h2 := h1.weak i (by rw [set_get_ne _ _ (fun e => HIJ.out e.symm), set_get _ _ HIL.out])
            rw [List.set_comm _ _ HIJ.out, List.set_set, List.set_comm _ _ (fun e => HIJ.out e.symm)] at h2
            rw [← HL9.out, ← HL8.out]
            exact ⟨_, _, h2⟩
          obtain ⟨g3, _, hg3, _⟩ := HA3.out.form (by rw [hl3]; omega)
          simp only [Value.slice.injEq] at hg3
          obtain ⟨rfl, -, rfl⟩ := hg3
          obtain ⟨g4, _, hg4, _⟩ := HB4.out.form (by rw [hl4]; omega)
          simp only [Value.slice.injEq] at hg4
          obtain ⟨rfl, -, rfl⟩ := hg4
          obtain ⟨-, hc31, hc32⟩ := HA3.out.capc
          obtain ⟨-, hc41, hc42⟩ := HB4.out.capc
          rw [hl3] at hc31
          rw [hl4] at hc41
          have cc5 : w4.cell? ⟨g3, la.length, none⟩ = some (.int .i64 5) := by
            have := HA3.out.get (b := g3) rfl (i := la.length) (by rw [hl3]; omega)
            rwa [HL9.out, rep_last] at this
          have cc6 : w4.cell? ⟨g4, lb.length, none⟩ = some (.int .i64 6) := by
            have := HB4.out.get (b := g4) rfl (i := lb.length) (by rw [hl4]; omega)
            rwa [HL8.out, rep_last] at this
          clear pi pj H4
          go_wp2
          go_loopw [9] (fun q wr => ∃ k : Nat, k ≤ la.length ∧ q = .int .i64 k ∧ wr = w4) (fun q _ => la.length - (intOf q).toNat)
          case atStart => exact ⟨0, Nat.zero_le _, rfl, rfl⟩
          case round =>
            obtain ⟨k, hk3, rfl, rfl⟩ := hrel
            by_cases hlt3 : k < la.length
            · have hlt3' : (k : Int) < (la.length : Int) := by omega
              obtain ⟨ga, _, hga, _⟩ := HA.out.form (by rw [hL9]; omega)
              simp only [Value.slice.injEq] at hga
              obtain ⟨rfl, -, rfl⟩ := hga
              have ck : wr.cell? ⟨ga, k, none⟩ = some (.int .i64 9) := by
                have := HA.out.get (b := ga) rfl (i := k) (by rw [hL9]; exact hlt3)
                rwa [HL9.out, rep_get _ _ hlt3] at this
              go_wp2
              go_roundw
              case rel => exact ⟨k + 1, by omega, by go_num, by trivial⟩
              case measure => simp [intOf]; omega
            · obtain rfl : k = la.length := by omega
              have hlt3' : ¬ (la.length : Int) < (la.length : Int) := by omega
              go_wp2
              go_loopw [10] (fun q wr2 => ∃ k : Nat, k ≤ lb.length ∧ q = .int .i64 k ∧ wr2 = wr) (fun q _ => lb.length - (intOf q).toNat)
              case atStart => exact ⟨0, Nat.zero_le _, rfl, rfl⟩
              case round =>
                obtain ⟨k, hk4, rfl, rfl⟩ := hrel
                by_cases hlt4 : k < lb.length
                · have hlt4' : (k : Int) < (lb.length : Int) := by omega
                  obtain ⟨gb, _, hgb, _⟩ := HB.out.form (by rw [hL8]; omega)
                  simp only [Value.slice.injEq] at hgb
                  obtain ⟨rfl, -, rfl⟩ := hgb
                  have ck : wr.cell? ⟨gb, k, none⟩ = some (.int .i64 8) := by
                    have := HB.out.get (b := gb) rfl (i := k) (by rw [hL8]; exact hlt4)
                    rwa [HL8.out, rep_get _ _ hlt4] at this
                  go_wp2
                  go_roundw
                  case rel => exact ⟨k + 1, by omega, by go_num, by trivial⟩
                  case measure => simp [intOf]; omega
                · obtain rfl : k = lb.length := by omega
                  have hlt4' : ¬ (lb.length : Int) < (lb.length : Int) := by omega
                  go_wp2
                  go_ret
                  exact ⟨rfl, HFIN.out⟩
end Go.Proofs.Ythlbmpmbbdaboaa
