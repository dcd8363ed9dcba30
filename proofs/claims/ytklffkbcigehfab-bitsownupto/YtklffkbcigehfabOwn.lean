import Derived.Test.YtklffkbcigehfabRnd2
namespace Go.Proofs.Ytklffkbcigehfab
open Go.RowKit Go.Maps
set_option maxRecDepth 20000

/-- A list that was handed out, written full of its mark, and the same with one byte more. -/
structure He where
  L : Value
  M : Value
  n : Nat
  m : Int

def He.one (e : He) : List Int := List.replicate e.n e.m
def He.more (e : He) : List Int := List.replicate e.n e.m ++ [IntKind.u8.wrap (e.m + 1)]
def He.cells (e : He) : List Value := [e.L, e.M, .int .u8 e.m]

theorem He.one_len (e : He) : e.one.length = e.n := by simp [He.one]
theorem He.more_len (e : He) : e.more.length = e.n + 1 := by simp [He.more]

structure HeP (w : World) (e : He) : Prop where
  l : SB w e.L e.one
  r : SB w e.M e.more
  lo : 0 ≤ e.m
  hi : e.m < 256
  len : e.n ≤ 1048577

theorem SB.same {w w' : World} {v : Value} {l : List Int} (h : SB w v l) (hk : ∀ k, v.ownBlock = some k → w'.heap[k]? = w.heap[k]?) : SB w' v l :=
  h.move fun a u ha hv => by rw [World.cell?_of_block (w := w) (hk a.block hv)]; exact ha

def th (e : He) : Thing :=
  ⟨fun w K => HeP w e ∧ (∀ k, e.L.ownBlock = some k → K k ≠ 0) ∧ (∀ k, e.M.ownBlock = some k → K k ≠ 0) ∧ ∀ k, K k ≠ 0 → k < w.heap.size,
   fun h a b => ⟨⟨h.1.l.same fun k hk => b k (h.2.1 k hk), h.1.r.same fun k hk => b k (h.2.2.1 k hk), h.1.lo, h.1.hi, h.1.len⟩, h.2.1, h.2.2.1, fun k hk => Nat.lt_of_lt_of_le (h.2.2.2 k hk) a⟩, fun h => h.2.2.2⟩

theorem wrap8_in {m : Int} : 0 ≤ IntKind.u8.wrap m ∧ IntKind.u8.wrap m < 256 := by
  rw [IntKind.wrap_u8]; omega

/-- What is read of the old list behind an append onto it. -/
theorem SB.prefix {w : World} {v M : Value} {l : List Int} {x : Int} {g c1 c2 : Nat} (hv : v = .slice (some ⟨g, 0, none⟩) l.length c1) (hc1 : l.length ≤ c1) (hc2 : c1 ≤ maxLen) (hM : M = .slice (some ⟨g, 0, none⟩) (l.length + 1) c2) (h : SB w M (l ++ [x])) : SB w v l := by
  subst hv
  obtain ⟨ao, cap, e, h1, h2, h3, h4⟩ := h
  rw [hM] at e
  simp only [Value.slice.injEq] at e
  obtain ⟨rfl, -, rfl⟩ := e
  refine ⟨_, _, rfl, hc1, hc2, (fun h => by cases h), fun y hy i hi => ?_⟩
  cases hy
  rw [h4 _ rfl i (by simp; omega)]
  simp only [List.getD, List.getElem?_append_left hi]

/-- A block of three cells written. -/
def three (w : World) (R : Nat) (a b c : Value) : World := ((w.setCell ⟨R, 0, none⟩ a).setCell ⟨R, 1, none⟩ b).setCell ⟨R, 2, none⟩ c

theorem three_at {w : World} {R : Nat} {a b c x y z : Value} {t : TypeId} (h : w.heap[R]? = some (.cells #[x, y, z] t (0, 0))) : (three w R a b c).heap[R]? = some (.cells #[a, b, c] t (0, 0)) := by
  unfold three
  rw [heap_setCell_at _ (heap_setCell_at _ (heap_setCell_at _ h))]
  rfl

theorem three_size (w : World) (R : Nat) (a b c : Value) : (three w R a b c).heap.size = w.heap.size := by unfold three; rw [size_setCell, size_setCell, size_setCell]

theorem three_others (w : World) (R : Nat) (a b c : Value) {k : Nat} (h : k ≠ R) : (three w R a b c).heap[k]? = w.heap[k]? := by
  unfold three
  rw [setCell_others _ _ _ _ k h, setCell_others _ _ _ _ k h, setCell_others _ _ _ _ k h]

theorem three_grown {w w1 : World} {r : Option Nat} {R : Nat} {a b c : Value} (h : w.grownBy w1 r) (hR : w.heap.size ≤ R) : w.grownBy (three w1 R a b c) r := grownBy_new (grownBy_new (grownBy_new h hR) hR) hR

/-- What 'hold' leaves. -/
theorem hold_fin {w wr w1 : World} {v M : Value} {l : List Int} {m x : Int} {R B : Nat} {o : Obj} (hx : IntKind.u8.wrap (m + 1) = x) (hv : v.ownBlock ≠ some R) (hob : OB wr B v (List.replicate l.length m)) (hvl : ∀ k, v.ownBlock = some k → k < w.heap.size) (hR : w.heap.size ≤ R) (hR1 : R < wr.heap.size) (hw : w.grownBy wr v.ownBlock)
    (ho : OB w1 B M (List.replicate l.length m ++ [x])) (hgr : Grew (wr.alloc o) w1 v M) (hm0 : 0 ≤ m) (hm1 : m < 256) (hl : l.length ≤ 1048577) {a b c : Value} :
    HeP (three w1 R a b c) ⟨v, M, l.length, m⟩ ∧ w.grownBy (three w1 R a b c) v.ownBlock ∧ ∀ k, M.ownBlock = some k → k < (three w1 R a b c).heap.size ∧ (v.ownBlock = some k ∨ w.heap.size ≤ k) := by
  have hMR : M.ownBlock ≠ some R := by
    intro e
    rcases hgr.at with h | h
    · rw [e, size_alloc'] at h
      simp at h; omega
    · exact hv (h.symm.trans e)
  have hSM : SB w1 M (List.replicate l.length m ++ [x]) := ho.sb
  have hSv : SB w1 v (List.replicate l.length m) := by
    rcases hgr with ⟨rfl, rfl⟩ | ⟨_, hb⟩ | ⟨he, _, _⟩
    · have h1 := hob.1
      have h2 := ho.1
      obtain ⟨a1, c1, e1⟩ := hob.shape
      obtain ⟨a2, c2, e2⟩ := ho.shape
      rw [e1] at e2
      simp at e2
    · exact (hob.alloc o).sb.below hb
    · obtain ⟨gm, cm, hM, _, _⟩ := World.ownsRow.form ho (by simp)
      rcases hob.2 with ⟨rfl, h0⟩ | ⟨g, cap, cur, e, h1, h2, h3, h4, h5, h6⟩
      · rw [hM] at he
        simp [Value.ownBlock] at he
      · have hge : gm = g := by rw [hM, e] at he; simpa [Value.ownBlock] using he
        subst hge
        have e3 : (List.replicate l.length m ++ [x]).length = (List.replicate l.length m).length + 1 := by simp
        rw [e3] at hM
        exact SB.prefix e h3 h4 hM hSM
  have hw1 : w.grownBy w1 v.ownBlock := (hw.trans (grownBy_alloc' _ _ _)).trans hgr.by
  refine ⟨⟨hSv.same fun k hk => three_others _ _ _ _ _ (fun e => hv (by rw [hk, e])), ?_, hm0, hm1, hl⟩, three_grown hw1 hR, fun k hk => ?_⟩
  · refine SB.same (w := w1) ?_ fun k hk => three_others _ _ _ _ _ (fun e => hMR (by rw [hk, e]))
    show SB w1 M (List.replicate l.length m ++ [IntKind.u8.wrap (m + 1)])
    rw [hx]; exact hSM
  · rw [three_size]
    refine ⟨(ho.lt k hk).2, ?_⟩
    rcases hgr.at with h | h
    · rw [hk, size_alloc'] at h
      simp at h
      right; omega
    · exact .inl (h.symm.trans hk)

set_option maxHeartbeats 1000000 in
theorem hold_any (v : Value) (l : List Int) (m : Int) (B : Nat) (w : World) (h : OB w B v l) (hl : l.length ≤ 1048577) (hB : B ≤ w.heap.size) (hm0 : 0 ≤ m) (hm1 : m < 256) :
    Calls Try.prog 13 #[v, .int .u8 m] w fun e w' => ∃ M, e = .returned (.agg #[v, M, .int .u8 m]) ∧ HeP w' ⟨v, M, l.length, m⟩ ∧ w.grownBy w' v.ownBlock ∧ ∀ k, M.ownBlock = some k → k < w'.heap.size ∧ (v.ownBlock = some k ∨ w.heap.size ≤ k) := by
  have H := hide h
  obtain ⟨x, hx⟩ : ∃ x, IntKind.u8.wrap (m + 1) = x := ⟨_, rfl⟩
  rcases h.2 with ⟨rfl, h0⟩ | ⟨g, cap, cur, rfl, h1, h2, h3, h4, h5, h6⟩
  · have e : l = [] := List.eq_nil_of_length_eq_zero h0
    subst e
    obtain ⟨V, HV⟩ : ∃ V, Hid (V = w.alloc (.cells #[.slice none 0 0, .slice none 0 0, .int .u8 0] 32)) := ⟨_, rfl⟩
    have HVS : Hid (V.heap.size = w.heap.size + 1) := by show _ = _; rw [HV.out]; exact size_alloc' _ _
    have HOB : Hid (OB V B (.slice none 0 0) (List.replicate ([] : List Int).length m)) := World.ownsRow_nil _ _ _ _
    have HVG : Hid (w.grownBy V none) := by rw [HV.out]; exact grownBy_alloc' _ _ _
    have HVR : Hid (V.heap[w.heap.size]? = some (.cells #[.slice none 0 0, .slice none 0 0, .int .u8 0] 32 (0, 0))) := by show _ = _; rw [HV.out]; exact heap_alloc_new _ _
    have HSR : Hid (Src Try.prog 1 25 (.slice (some ⟨w.heap.size + 1, 0, none⟩) 1 1) ([x] : List Int).length (([x] : List Int).map (Value.int .u8)) (V.alloc (.cells #[.int .u8 x] 5))) := by
      have := built_src V [x]
      rw [HVS.out] at this
      exact this
    have HX := hide hx
    clear h
    go_enter Try.func13, Try.ntmps13
    go_wp2
    refine wp_loop_rounds 1 ?_
    rw [rounds_succ]
    go_wp2_with (at_builtin; rw [← HV.out]; refine wpList_app rfl _ _ 25 rfl B _ _ [] [x] rfl (HOB.out.alloc _) rfl HSR.out (by simp) (by rw [size_alloc', HVS.out]; omega) ?_)
    intro M w1 ho hgr
    have HO := hide ho
    have HGR := hide hgr
    have hR1 : w1.heap[w.heap.size]? = some (.cells #[.slice none 0 0, .slice none 0 0, .int .u8 0] 32 (0, 0)) := by
      rw [(hgr.by.block w.heap.size (by rw [size_alloc', HVS.out]; omega) (by simp [Value.ownBlock])), Below.heap_alloc _ _ _ (by rw [HVS.out]; omega)]
      exact HVR.out
    have r0 : w1.cell? ⟨w.heap.size, 0, none⟩ = some (.slice none 0 0) := by simp [World.cell?, hR1]
    have r1 : w1.cell? ⟨w.heap.size, 1, none⟩ = some (.slice none 0 0) := by simp [World.cell?, hR1]
    have r2 : w1.cell? ⟨w.heap.size, 2, none⟩ = some (.int .u8 0) := by simp [World.cell?, hR1]
    have f0 : w1.frozen? ⟨w.heap.size, 0, none⟩ = false := by simp [World.frozen?, hR1]
    have f1 : w1.frozen? ⟨w.heap.size, 1, none⟩ = false := by simp [World.frozen?, hR1]
    have f2 : w1.frozen? ⟨w.heap.size, 2, none⟩ = false := by simp [World.frozen?, hR1]
    have HR1 := hide hR1
    obtain ⟨gm, cm, hM, hgb, hgs⟩ := World.ownsRow.form ho (by simp)
    simp only [List.length_cons, List.length_nil, Nat.zero_add] at hM
    subst hM
    have FIN : Hid (∃ M, M = Value.slice (some ⟨gm, 0, none⟩) 1 cm ∧ HeP (three w1 w.heap.size (.slice none 0 0) (.slice (some ⟨gm, 0, none⟩) 1 cm) (.int .u8 m)) ⟨.slice none 0 0, M, 0, m⟩ ∧ w.grownBy (three w1 w.heap.size (.slice none 0 0) (.slice (some ⟨gm, 0, none⟩) 1 cm) (.int .u8 m)) (Value.slice none 0 0).ownBlock ∧ ∀ k, M.ownBlock = some k → k < (three w1 w.heap.size (.slice none 0 0) (.slice (some ⟨gm, 0, none⟩) 1 cm) (.int .u8 m)).heap.size ∧ ((Value.slice none 0 0).ownBlock = some k ∨ w.heap.size ≤ k)) :=
      ⟨_, rfl, hold_fin (l := []) HX.out (by simp [Value.ownBlock]) HOB.out (fun k hk => by simp [Value.ownBlock] at hk) (Nat.le_refl _) (by rw [HVS.out]; omega) HVG.out ho hgr hm0 hm1 hl⟩
    have R3 := hide (three_at (a := .slice none 0 0) (b := .slice (some ⟨gm, 0, none⟩) 1 cm) (c := .int .u8 m) hR1)
    clear ho hgr hR1
    go_wp2
    (try simp only [Exit.inBlock, Exit.then])
    have z : ∀ j, (three w1 w.heap.size (.slice none 0 0) (.slice (some ⟨gm, 0, none⟩) 1 cm) (.int .u8 m)).cell? ⟨w.heap.size, j, none⟩ = #[Value.slice none 0 0, .slice (some ⟨gm, 0, none⟩) 1 cm, .int .u8 m][j]? := fun j => by simp only [World.cell?, R3.out]; rfl
    have z0 := z 0
    have z1 := z 1
    have z2 := z 2
    change bodyPost _ _ _ _ _ (three w1 w.heap.size (.slice none 0 0) (.slice (some ⟨gm, 0, none⟩) 1 cm) (.int .u8 m))
    refine bodyPost_ret (v := .agg #[.slice none 0 0, .slice (some ⟨gm, 0, none⟩) 1 cm, .int .u8 m]) (by simp [results, Try.results13, go_sem, z0, z1, z2]) rfl ?_
    obtain ⟨M, rfl, h⟩ := FIN.out
    exact ⟨_, rfl, h⟩
  · unfold maxLen at h4
    have H1 := hide h1
    have hgl : g < w.heap.size := (h.lt g rfl).2
    have H5 : Hid (cur.toList.length = cap) := by show _ = _; rw [Array.length_toList]; omega
    have HX := hide hx
    obtain ⟨V, HV⟩ : ∃ V, Hid (V = w.alloc (.cells #[.slice none 0 0, .slice none 0 0, .int .u8 0] 32)) := ⟨_, rfl⟩
    have H2 : Hid (V.heap[g]? = some (.cells cur 5 (0, 0))) := by show _ = _; rw [HV.out, Below.heap_alloc w _ g hgl]; exact h2
    have HVR : Hid (V.heap[w.heap.size]? = some (.cells #[.slice none 0 0, .slice none 0 0, .int .u8 0] 32 (0, 0))) := by show _ = _; rw [HV.out]; exact heap_alloc_new _ _
    have HVG : Hid (w.grownBy V (some g)) := by rw [HV.out]; exact grownBy_alloc' _ _ _
    have HVS : Hid (V.heap.size = w.heap.size + 1) := by show _ = _; rw [HV.out]; exact size_alloc' _ _
    clear h h1 h2 h5 h6
    go_enter Try.func13, Try.ntmps13
    go_wp2
    rw [← HV.out]
    go_loopw [5] (fun i wr => ∃ k : Nat, i = .int .i64 k ∧ k ≤ l.length ∧ Hid (wr.heap[g]? = some (.cells (List.replicate k (Value.int .u8 m) ++ cur.toList.drop k).toArray 5 (0, 0))) ∧ Hid (w.grownBy wr (some g)) ∧ Hid (wr.heap[w.heap.size]? = some (.cells #[.slice none 0 0, .slice none 0 0, .int .u8 0] 32 (0, 0)))) (fun i _ => l.length - (intOf i).toNat)
    case atStart => exact ⟨0, rfl, Nat.zero_le _, by show _ = _; simpa using H2.out, HVG.out, HVR.out⟩
    case round =>
      obtain ⟨k, rfl, hk, HH, HG, HR⟩ := hrel
      by_cases hlt : k < l.length
      · have hlt' : (k : Int) < (l.length : Int) := by omega
        have hc : wr.cell? ⟨g, k, none⟩ = some (cur.toList[k]'(by have := H5.out; omega)) := by
          have := H5.out
          simp [World.cell?, HH.out, List.getElem?_append_right, List.getElem?_drop, show k < cur.size by simpa using (show k < cur.toList.length by omega)]
        have hf : wr.frozen? ⟨g, k, none⟩ = false := by simp [World.frozen?, HH.out]
        go_wp2
        go_roundw
        case rel =>
          refine ⟨k + 1, by go_num, by omega, ?_, HG.out.trans (grownBy_set rfl), ?_⟩
          · show _ = _
            rw [heap_setCell_at _ HH.out, set_front _ _ _ (by have := H5.out; omega)]
          · show _ = _
            rw [setCell_others _ _ _ _ _ (by omega)]
            exact HR.out
        case measure => simp [intOf]; omega
      · have hlt' : ¬ (k : Int) < (l.length : Int) := by omega
        have HOB : Hid (OB wr B (.slice (some ⟨g, 0, none⟩) l.length cap) (List.replicate l.length m)) := by
          have hh := HH.out
          rw [show k = l.length by omega] at hh
          have hcl := H5.out
          exact ⟨by simp, .inr ⟨g, cap, _, by simp, H1.out, hh, by simpa using h3, by unfold maxLen; omega, by simp at hcl ⊢; omega, by simp⟩⟩
        have hBw : B ≤ wr.heap.size + 1 := by have := HG.out.size; omega
        have HLn : Hid (l.length ≤ 1048577) := hl
        have HSR : Hid (Src Try.prog 1 25 (.slice (some ⟨wr.heap.size, 0, none⟩) 1 1) ([x] : List Int).length (([x] : List Int).map (Value.int .u8)) (wr.alloc (.cells #[.int .u8 x] 5))) := built_src wr [x]
        clear HH
        go_wp2_with (at_builtin; refine wpList_app rfl _ _ 25 rfl B _ _ (List.replicate l.length m) [x] rfl (HOB.out.alloc _) rfl HSR.out (by have := HLn.out; simp; omega) (by simp; omega) ?_)
        intro M w1 ho hgr
        have HO := hide ho
        have HGR := hide hgr
        have hR1 : w1.heap[w.heap.size]? = some (.cells #[.slice none 0 0, .slice none 0 0, .int .u8 0] 32 (0, 0)) := by
          rw [(hgr.by.block w.heap.size (by rw [size_alloc']; have := (Array.getElem?_eq_some_iff.1 HR.out).1; omega) (by simp [Value.ownBlock]; omega)), Below.heap_alloc _ _ _ ((Array.getElem?_eq_some_iff.1 HR.out).1)]
          exact HR.out
        have r0 : w1.cell? ⟨w.heap.size, 0, none⟩ = some (.slice none 0 0) := by simp [World.cell?, hR1]
        have r1 : w1.cell? ⟨w.heap.size, 1, none⟩ = some (.slice none 0 0) := by simp [World.cell?, hR1]
        have r2 : w1.cell? ⟨w.heap.size, 2, none⟩ = some (.int .u8 0) := by simp [World.cell?, hR1]
        have f0 : w1.frozen? ⟨w.heap.size, 0, none⟩ = false := by simp [World.frozen?, hR1]
        have f1 : w1.frozen? ⟨w.heap.size, 1, none⟩ = false := by simp [World.frozen?, hR1]
        have f2 : w1.frozen? ⟨w.heap.size, 2, none⟩ = false := by simp [World.frozen?, hR1]
        have HR1 := hide hR1
        obtain ⟨gm, cm, hM, hgb, hgs⟩ := World.ownsRow.form ho (by simp)
        have hnl : (List.replicate l.length m ++ [x]).length = l.length + 1 := by simp
        rw [hnl] at hM
        subst hM
        have FIN : Hid (∃ M, M = Value.slice (some ⟨gm, 0, none⟩) (l.length + 1) cm ∧ HeP (three w1 w.heap.size (.slice (some ⟨g, 0, none⟩) l.length cap) (.slice (some ⟨gm, 0, none⟩) (l.length + 1) cm) (.int .u8 m)) ⟨.slice (some ⟨g, 0, none⟩) l.length cap, M, l.length, m⟩ ∧ w.grownBy (three w1 w.heap.size (.slice (some ⟨g, 0, none⟩) l.length cap) (.slice (some ⟨gm, 0, none⟩) (l.length + 1) cm) (.int .u8 m)) (Value.slice (some ⟨g, 0, none⟩) l.length cap).ownBlock ∧ ∀ k, M.ownBlock = some k → k < (three w1 w.heap.size (.slice (some ⟨g, 0, none⟩) l.length cap) (.slice (some ⟨gm, 0, none⟩) (l.length + 1) cm) (.int .u8 m)).heap.size ∧ ((Value.slice (some ⟨g, 0, none⟩) l.length cap).ownBlock = some k ∨ w.heap.size ≤ k)) :=
          ⟨_, rfl, hold_fin HX.out (by simp [Value.ownBlock]; omega) HOB.out (fun k hk => by simp [Value.ownBlock] at hk; omega) (Nat.le_refl _) ((Array.getElem?_eq_some_iff.1 HR.out).1) HG.out ho hgr hm0 hm1 hl⟩
        have R3 := hide (three_at (a := .slice (some ⟨g, 0, none⟩) l.length cap) (b := .slice (some ⟨gm, 0, none⟩) (l.length + 1) cm) (c := .int .u8 m) hR1)
        clear ho hgr hR1 hnl
        go_wp2
        (try simp only [Exit.inBlock, Exit.then])
        have z : ∀ j, (three w1 w.heap.size (.slice (some ⟨g, 0, none⟩) l.length cap) (.slice (some ⟨gm, 0, none⟩) (l.length + 1) cm) (.int .u8 m)).cell? ⟨w.heap.size, j, none⟩ = #[Value.slice (some ⟨g, 0, none⟩) l.length cap, .slice (some ⟨gm, 0, none⟩) (l.length + 1) cm, .int .u8 m][j]? := fun j => by simp only [World.cell?, R3.out]; rfl
        have z0 := z 0
        have z1 := z 1
        have z2 := z 2
        change bodyPost _ _ _ _ _ (three w1 w.heap.size (.slice (some ⟨g, 0, none⟩) l.length cap) (.slice (some ⟨gm, 0, none⟩) (l.length + 1) cm) (.int .u8 m))
        refine bodyPost_ret (v := .agg #[.slice (some ⟨g, 0, none⟩) l.length cap, .slice (some ⟨gm, 0, none⟩) (l.length + 1) cm, .int .u8 m]) (by simp [results, Try.results13, go_sem, z0, z1, z2]) rfl ?_
        obtain ⟨M, rfl, h⟩ := FIN.out
        exact ⟨_, rfl, h⟩
end Go.Proofs.Ytklffkbcigehfab
