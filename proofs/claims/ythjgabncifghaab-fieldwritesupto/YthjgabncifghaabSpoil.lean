import Derived.Test.YthjgabncifghaabNew
namespace Go.Proofs.Ythjgabncifghaab
open Go.RowKit Go.Maps
set_option maxRecDepth 20000

theorem heap_setCell_at {w : World} {g k : Nat} {cur : Array Value} {t : TypeId} (u : Value) (h : w.heap[g]? = some (.cells cur t (0, 0))) : (w.setCell ⟨g, k, none⟩ u).heap[g]? = some (.cells (cur.setIfInBounds k u) t (0, 0)) := by
  simp [World.setCell, Array.getElem?_modify, h]

theorem set_front (m : Value) (L : List Value) (k : Nat) (h : k < L.length) : ((List.replicate k m ++ L.drop k).toArray.setIfInBounds k m) = (List.replicate (k + 1) m ++ L.drop (k + 1)).toArray := by
  apply Array.ext'
  simp only [Array.toList_setIfInBounds]
  rw [List.set_append_right _ _ (by simp)]
  have e : L.drop k = L[k] :: L.drop (k + 1) := List.drop_eq_getElem_cons h
  have e2 : (L.drop k).set 0 m = m :: L.drop (k + 1) := by rw [e]; rfl
  simp [List.replicate_succ', e2]

theorem grownBy_set {w : World} {g k : Nat} {u : Value} {r : Option Nat} (hr : r = some g) : w.grownBy (w.setCell ⟨g, k, none⟩ u) r :=
  ⟨rfl, rfl, rfl, by rw [size_setCell]; exact Nat.le_refl _, fun i _ hi => setCell_others w g k u i (fun e => hi (by rw [hr, e]))⟩

theorem grownBy_drew {w w' : World} {r : Option Nat} (h : w.grownBy w' r) : w.grownBy w'.drew r := ⟨h.os, h.tape, h.output, h.size, h.block⟩

theorem grownBy_alloc' (w : World) (o : Obj) (r : Option Nat) : w.grownBy (w.alloc o) r :=
  ⟨rfl, rfl, rfl, by simp, fun k hk _ => Below.heap_alloc w o k hk⟩

/-- A block that was not there may be written. -/
theorem grownBy_new {w w' : World} {r : Option Nat} {g o : Nat} {u : Value} (h : w.grownBy w' r) (hg : w.heap.size ≤ g) : w.grownBy (w'.setCell ⟨g, o, none⟩ u) r :=
  ⟨h.os, h.tape, h.output, by rw [size_setCell]; exact h.size, fun k hk hr => (setCell_others w' g o u k (by omega)).trans (h.block k hk hr)⟩

theorem Grew.by {w w' : World} {v v' : Value} (h : Grew w w' v v') : w.grownBy w' v.ownBlock := by
  rcases h with ⟨_, rfl⟩ | ⟨_, hb⟩ | ⟨_, _, hg⟩
  · exact World.grownBy.refl _ _
  · exact ⟨hb.os, hb.tape, hb.output, hb.size, fun k hk _ => hb.block k hk⟩
  · exact hg

theorem Grew.at {w w' : World} {v v' : Value} (h : Grew w w' v v') : v'.ownBlock = some w.heap.size ∨ v'.ownBlock = v.ownBlock := by
  rcases h with ⟨rfl, _⟩ | ⟨h, _⟩ | ⟨h, _⟩
  · exact .inr rfl
  · exact .inl h
  · exact .inr h

theorem built_src (w : World) (cs : List Int) : Src Try.prog 1 28 (.slice (some ⟨w.heap.size, 0, none⟩) cs.length cs.length) cs.length (cs.map (Value.int .u8)) (w.alloc (.cells (cs.map (Value.int .u8)).toArray 5)) := by
  refine Src.ofSlice _ Try.underlying28 _ _ _ _ (by simp) (fun j u hj => ?_) (fun u hu => by obtain ⟨n, _, rfl⟩ := List.mem_map.1 hu; rfl)
  have e := heap_alloc_new w (.cells (cs.map (Value.int .u8)).toArray 5)
  rw [Addr.add_lit]
  unfold World.cell?
  simp only [e, Nat.zero_add]
  simpa using hj

theorem OB.alloc {w : World} {base : Nat} {v : Value} {l : List Int} (h : OB w base v l) (o : Obj) : OB (w.alloc o) base v l := h.move fun k hk => Below.heap_alloc w o k (h.lt k hk).2

theorem spoil_any (v : Value) (l : List Int) (m : Int) (B : Nat) (w : World) (h : OB w B v l) (hl : l.length ≤ 140737488351232) (hB : B ≤ w.heap.size) :
    Calls Try.prog 44 #[v, .int .u8 m] w fun e w' => e = .returned (.tuple #[]) ∧ w.grownBy w' v.ownBlock := by
  have H := hide h
  rcases h.2 with ⟨rfl, h0⟩ | ⟨g, cap, cur, rfl, h1, h2, h3, h4, h5, h6⟩
  · have e : l = [] := List.eq_nil_of_length_eq_zero h0
    subst e
    clear h
    go_enter Try.func44, Try.ntmps44
    go_wp2
    refine wp_loop_rounds 1 ?_
    rw [rounds_succ]
    go_wp2_with (at_builtin; refine wpList_app rfl _ _ 28 rfl B _ _ [] [_, _, _] rfl (H.out.alloc _) rfl (built_src w [_, _, _]) (by simp) (by simp; omega) ?_)
    intro v' w1 ho hgr
    rcases ho.2 with ⟨_, hx⟩ | ⟨g', cap', cur', rfl, k1, k2, k3, k4, k5, k6⟩
    · simp at hx
    have hg : w.heap.size ≤ g' := by
      rcases hgr.at with e | e
      · simp [Value.ownBlock] at e; omega
      · simp [Value.ownBlock] at e
    have HF : Hid (∀ u, w.grownBy (w1.setCell ⟨g', 0, none⟩ u) none) := by
      have h0 : w.grownBy w1 none := (grownBy_alloc' w _ _).trans hgr.by
      exact fun u => grownBy_new h0 hg
    have hc0 : w1.cell? ⟨g', 0, none⟩ = some (cur'[0]'(by simp at k3 k5; omega)) := by simp [World.cell?, k2]
    have hf0 : w1.frozen? ⟨g', 0, none⟩ = false := by simp [World.frozen?, k2]
    simp only [List.length_cons, List.length_nil] at *
    clear hgr ho k2 k6
    go_wp2
    refine bodyPost_end (results_none rfl _ _ _) rfl ?_
    exact ⟨rfl, HF.out _⟩
  · unfold maxLen at h4
    have H1 := hide h1
    have H2 := hide h2
    have H5 : Hid (cur.toList.length = cap) := by show _ = _; rw [Array.length_toList]; omega
    clear h h1 h2 h5 h6
    go_enter Try.func44, Try.ntmps44
    go_wp2
    go_loopw [4] (fun i wr => ∃ k : Nat, i = .int .i64 k ∧ k ≤ l.length ∧ Hid (wr.heap[g]? = some (.cells (List.replicate k (Value.int .u8 m) ++ cur.toList.drop k).toArray 5 (0, 0))) ∧ Hid (w.grownBy wr (some g))) (fun i _ => l.length - (intOf i).toNat)
    case atStart => exact ⟨0, rfl, Nat.zero_le _, by show _ = _; simpa using H2.out, World.grownBy.refl _ _⟩
    case round =>
      obtain ⟨k, rfl, hk, HH, HG⟩ := hrel
      by_cases hlt : k < l.length
      · have hlt' : (k : Int) < (l.length : Int) := by omega
        have hc : wr.cell? ⟨g, k, none⟩ = some (cur.toList[k]'(by have := H5.out; omega)) := by
          have := H5.out
          simp [World.cell?, HH.out, List.getElem?_append_right, List.getElem?_drop, show k < cur.size by simpa using (show k < cur.toList.length by omega)]
        have hf : wr.frozen? ⟨g, k, none⟩ = false := by simp [World.frozen?, HH.out]
        go_wp2
        go_roundw
        case rel =>
          refine ⟨k + 1, by go_num, by omega, ?_, HG.out.trans (grownBy_set rfl)⟩
          show _ = _
          rw [heap_setCell_at _ HH.out, set_front _ _ _ (by have := H5.out; omega)]
        case measure => simp [intOf]; omega
      · have hlt' : ¬ (k : Int) < (l.length : Int) := by omega
        have HOB : Hid (OB wr B (.slice (some ⟨g, 0, none⟩) l.length cap) (List.replicate l.length m)) := by
          have hh := HH.out
          rw [show k = l.length by omega] at hh
          have hcl := H5.out
          exact ⟨by simp, .inr ⟨g, cap, _, by simp, H1.out, hh, by simpa using h3, by unfold maxLen; omega, by simp at hcl ⊢; omega, by simp⟩⟩
        have hBw : B ≤ wr.heap.size + 1 := by have := HG.out.size; omega
        have HLn : Hid (l.length ≤ 140737488351232) := hl
        clear HH
        go_wp2_with (at_builtin; refine wpList_app rfl _ _ 28 rfl B _ _ (List.replicate l.length m) [_, _, _] rfl (HOB.out.alloc _) rfl (built_src wr [_, _, _]) (by have := HLn.out; simp; omega) (by simp; omega) ?_)
        intro v' w1 ho hgr
        rcases ho.2 with ⟨_, hx⟩ | ⟨g', cap', cur', rfl, k1, k2, k3, k4, k5, k6⟩
        · simp at hx
        have hg : g' = g ∨ w.heap.size ≤ g' := by
          have hs := HG.out.size
          rcases hgr.at with e | e
          · simp [Value.ownBlock] at e; omega
          · simp [Value.ownBlock] at e; exact .inl e
        have HF : Hid (∀ u, w.grownBy (w1.setCell ⟨g', 0, none⟩ u) (some g)) := by
          have h0 : w.grownBy w1 (some g) := (HG.out.trans (grownBy_alloc' _ _ _)).trans hgr.by
          intro u
          rcases hg with rfl | hg
          · exact h0.trans (grownBy_set rfl)
          · exact grownBy_new h0 hg
        have hc0 : w1.cell? ⟨g', 0, none⟩ = some (cur'[0]'(by simp at k3 k5; omega)) := by simp [World.cell?, k2]
        have hf0 : w1.frozen? ⟨g', 0, none⟩ = false := by simp [World.frozen?, k2]
        simp only [List.length_append, List.length_replicate, List.length_cons, List.length_nil] at *
        clear hgr ho k2 k6 HG HOB
        go_wp2
        refine bodyPost_end (results_none rfl _ _ _) rfl ?_
        exact ⟨rfl, HF.out _⟩
end Go.Proofs.Ythjgabncifghaab
