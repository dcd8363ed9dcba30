import Derived.Test.YtogplagiheoaiaaG07App
namespace Go.Proofs.Ytogplagiheoaiaa
open Go.RowKit Go.Maps
set_option maxRecDepth 20000
set_option linter.unusedVariables false

theorem SB.cap {W : World} {ao : Option Addr} {cap : Nat} {l : List Int} (h : SB W (.slice ao l.length cap) l) : l.length ≤ cap ∧ cap ≤ 9223372036854775807 := by
  obtain ⟨ao', cap', hue, hc1, hc2, _⟩ := h
  simp only [Value.slice.injEq] at hue
  obtain ⟨-, -, rfl⟩ := hue
  unfold maxLen at hc2
  exact ⟨hc1, hc2⟩

theorem SB.len {w : World} {u : Value} {l : List Int} (h : SB w u l) : ∃ a c, u = .slice a l.length c := by
  obtain ⟨a, c, h, _⟩ := h
  exact ⟨a, c, h⟩

theorem built_sb (w : World) (cs : List Int) (hm : cs.length ≤ maxLen) : SB (w.alloc (.cells (cs.map (Value.int .u8)).toArray 5)) (.slice (some ⟨w.heap.size, 0, none⟩) cs.length cs.length) cs := by
  refine ⟨_, _, rfl, Nat.le_refl _, hm, (fun h => by cases h), fun x hx i hi => ?_⟩
  cases hx
  rw [Addr.add_lit]
  have e := heap_alloc_new w (.cells (cs.map (Value.int .u8)).toArray 5)
  unfold World.cell?
  simp only [e]
  simp [hi]

theorem OB.get {w : World} {base : Nat} {v : Value} {l : List Int} (h : OB w base v l) {b : Nat} (hv : v.ownBlock = Option.some b) {i : Nat} (hi : i < l.length) : w.cell? ⟨b, i, none⟩ = Option.some (.int .u8 (l.getD i 0)) := by
  have hc := @World.ownsRow.cells _ _ _ _ _ _ _ h
  rcases h.2 with ⟨rfl, _⟩ | ⟨g, cap, cur, rfl, _⟩
  · simp [Value.ownBlock] at hv
  · simp [Value.ownBlock] at hv
    subst hv
    have := hc (g := g) rfl i (.int .u8 (l.getD i 0)) (by simp [hi])
    rw [Addr.add_lit] at this
    simpa using this

theorem SB.byte {W w : World} {ao : Option Addr} {cap : Nat} {l : List Int} (h : SB W (.slice ao l.length cap) l) (hb : Below W.heap.size W w) {k : Nat} (hk : k < l.length) : ∃ b o, ao = some ⟨b, o, none⟩ ∧ w.cell? ⟨b, o + k, none⟩ = some (.int .u8 (l.getD k 0)) := by
  obtain ⟨ao', cap', hue, hc1, hc2, hc3, hc4⟩ := h
  simp only [Value.slice.injEq] at hue
  obtain ⟨rfl, -, rfl⟩ := hue
  cases ao with
  | none => have := hc3 rfl; omega
  | some x0 =>
    obtain ⟨b, o, rfl⟩ := addr_lit (hc4 x0 rfl 0 (by omega))
    have hc := hc4 _ rfl k hk
    have hbl := World.block_lt_of_cell? _ _ hc
    rw [Addr.add_lit] at hc hbl
    exact ⟨b, o, rfl, (hb.cell hbl).trans hc⟩

theorem copied_any (v : Value) (l : List Int) (w : World) (h : SB w v l) (hr : l.length ≤ 140737488351232) :
    Calls Try.prog 13 #[v] w fun e w' => ∃ a c, e = .returned (.slice a l.length c) ∧ OB w' w.heap.size (.slice a l.length c) l ∧ Below w.heap.size w w' := by
  have H := hide h
  obtain ⟨ao, cap, rfl, hlc, hcm, hnil, hcell⟩ := h
  unfold maxLen at hcm
  clear hnil hcell
  go_enter Try.func13, Try.ntmps13
  go_wp2
  go_loopw [3, 4] (fun u i wr => ∃ k : Nat, k ≤ l.length ∧ i = .int .i64 k ∧ Hid (OB wr w.heap.size u (l.take k)) ∧ Hid (Below w.heap.size w wr)) (fun _ i _ => l.length - (intOf i).toNat)
  case atStart => exact ⟨0, Nat.zero_le _, rfl, World.ownsRow_nil _ _ _ _, Below.refl _ _⟩
  case round =>
    obtain ⟨k, hk, rfl, HO, HB⟩ := hrel
    by_cases hlt : k < l.length
    · have hlt' : (k : Int) < (l.length : Int) := by omega
      obtain ⟨ao', cap', hue, hc1, hc2, hc3, hc4⟩ := H.out
      simp only [Value.slice.injEq] at hue
      obtain ⟨rfl, -, rfl⟩ := hue
      cases ao with
      | none => have := hc3 rfl; omega
      | some x0 =>
      obtain ⟨b, o, rfl⟩ := addr_lit (hc4 x0 rfl 0 (by omega))
      obtain ⟨q, hq, HQ⟩ : ∃ q, wr.cell? ⟨b, o + k, none⟩ = some (.int .u8 q) ∧ Hid (q = l.getD k 0) := by
        have hc := hc4 _ rfl k hlt
        have hbl := World.block_lt_of_cell? _ _ hc
        rw [Addr.add_lit] at hc hbl
        exact ⟨_, (HB.out.cell hbl).trans hc, rfl⟩
      obtain ⟨a1, p1, hu⟩ := HO.out.shape
      have htl : (l.take k).length = k := by rw [List.length_take]; omega
      rw [htl] at hu
      subst hu
      have HTL := hide htl
      have hBw := HB.out.size
      have HALC : Hid (OB (wr.alloc (.cells #[.int .u8 q] 5)) w.heap.size (.slice a1 k p1) (l.take k)) := HO.out.alloc _
      have HSR : Hid (Src Try.prog 1 22 (.slice (some ⟨wr.heap.size, 0, none⟩) 1 1) ([q] : List Int).length (([q] : List Int).map (Value.int .u8)) (wr.alloc (.cells #[.int .u8 q] 5))) := built_src wr [q]
      clear hc3 hc4 htl
      go_wp2_with (at_builtin; refine wpList_app rfl _ _ 22 rfl w.heap.size _ _ (l.take k) [q] rfl HALC.out rfl HSR.out (by rw [HTL.out]; simp; omega) (by simp; omega) ?_)
      intro v3 w3 ho3 hgr3
      have HN : Hid (OB w3 w.heap.size v3 (l.take (k + 1)) ∧ Below w.heap.size w w3) := by
        refine ⟨?_, (HB.out.alloc hBw _).grown hgr3.by (by simp; omega) (fun j hj => by have := HO.out.lt j hj; omega)⟩
        rw [List.take_succ_eq_append_getElem hlt]
        rw [HQ.out] at ho3
        have e : l.getD k 0 = l[k] := by simp [hlt]
        rw [e] at ho3
        exact ho3
      obtain ⟨a3, p3, rfl⟩ := ho3.shape
      clear ho3 hgr3 hq
      go_wp2
      go_roundw
      case rel => exact ⟨k + 1, by omega, by go_num, by show OB _ _ _ _; simpa using HN.out.1, HN.out.2⟩
      case measure => simp [intOf]; omega
    · obtain rfl : k = l.length := by omega
      have hlt' : ¬ (l.length : Int) < (l.length : Int) := by omega
      have HT : Hid (OB wr w.heap.size u3 l) := by have := HO.out; rwa [List.take_of_length_le (Nat.le_refl _)] at this
      clear HO
      obtain ⟨a1, p1, rfl⟩ := HT.out.shape
      go_wp2
      go_ret
      exact ⟨_, _, rfl, HT.out, HB.out⟩
def marks (n : Nat) : List Int := List.replicate n 165

def Lent (w : World) (base : Nat) (v : Value) (l : List Int) : Prop := ∃ B c, v = .slice (some ⟨B, 0, none⟩) l.length c ∧ OB w base (.slice (some ⟨B, 0, none⟩) (l.length + 8) c) (l ++ marks 8)

theorem Lent.sb {w : World} {base : Nat} {v : Value} {l : List Int} (h : Lent w base v l) : SB w v l := by
  obtain ⟨B, c, rfl, ho⟩ := h
  obtain ⟨q1, q2⟩ := (show SB w (.slice (some ⟨B, 0, none⟩) (l ++ marks 8).length c) (l ++ marks 8) from by
    have := ho.sb
    rw [List.length_append]
    exact this).cap
  rw [List.length_append] at q1
  refine ⟨_, c, rfl, by omega, by unfold maxLen; omega, (fun h => by cases h), fun y hy i hi => ?_⟩
  cases hy
  rw [Addr.add_lit, Nat.zero_add, ho.get rfl (i := i) (by rw [List.length_append]; omega)]
  simp only [List.getD, List.getElem?_append_left hi]

set_option maxHeartbeats 2000000 in
theorem lent_any (v : Value) (l : List Int) (w : World) (h : SB w v l) (hr : l.length ≤ 140737488351232) :
    Calls Try.prog 8 #[v] w fun e w' => ∃ u, e = .returned u ∧ Lent w' w.heap.size u l ∧ Below w.heap.size w w' := by
  have H := hide h
  obtain ⟨ao, cap, hv⟩ := h.len
  subst hv
  clear h
  go_enter Try.func8, Try.ntmps8
  go_wp2_with fail
  refine (copied_any _ l w H.out hr).mono ?_
  rintro e w1 ⟨a1, c1, rfl, ho1, hb1⟩
  have HO1 := hide ho1
  have HB1 := hide hb1
  clear ho1 hb1
  go_wp2
  go_loopw [3, 4] (fun u i wr => ∃ k : Nat, k ≤ 8 ∧ i = .int .i64 k ∧ Hid (OB wr w.heap.size u (l ++ marks k)) ∧ Hid (Below w.heap.size w wr)) (fun _ i _ => 8 - (intOf i).toNat)
  case atStart => exact ⟨0, Nat.zero_le _, rfl, by show OB _ _ _ _; simpa [marks] using HO1.out, HB1.out⟩
  case round =>
    clear HO1 HB1
    obtain ⟨k, hk, rfl, HO, HB⟩ := hrel
    obtain ⟨D, HD⟩ : ∃ D, Hid (D = l ++ marks k) := ⟨_, rfl⟩
    rw [← HD.out] at HO
    have hDl : D.length = l.length + k := by rw [HD.out, List.length_append]; simp [marks]
    have HDl := hide hDl
    have hBw := HB.out.size
    by_cases hlt : k < 8
    · have hlt' : (k : Int) < 8 := by omega
      obtain ⟨a2, p2, hu⟩ := HO.out.shape
      subst hu
      have HALC : Hid (OB (wr.alloc (.cells #[.int .u8 165] 5)) w.heap.size (.slice a2 D.length p2) D) := HO.out.alloc _
      have HSR : Hid (Src Try.prog 1 22 (.slice (some ⟨wr.heap.size, 0, none⟩) 1 1) ([165] : List Int).length (([165] : List Int).map (Value.int .u8)) (wr.alloc (.cells #[.int .u8 165] 5))) := (built_sb wr [165] (by unfold maxLen; simp)).src
      clear hDl
      go_wp2_with (at_builtin; refine wpList_app rfl _ _ 22 rfl w.heap.size _ _ D [165] rfl HALC.out rfl HSR.out (by rw [HDl.out]; simp; omega) (by simp; omega) ?_)
      intro v3 w3 ho3 hgr3
      have HN : Hid (OB w3 w.heap.size v3 (l ++ marks (k + 1)) ∧ Below w.heap.size w w3) := by
        refine ⟨?_, (HB.out.alloc hBw _).grown hgr3.by (by simp; omega) (fun j hj => by have := HO.out.lt j hj; omega)⟩
        have e : l ++ marks (k + 1) = D ++ [165] := by rw [HD.out]; unfold marks; rw [List.replicate_succ', List.append_assoc]
        rw [e]
        exact ho3
      obtain ⟨a3, p3, rfl⟩ := ho3.shape
      clear ho3 hgr3
      go_wp2
      go_roundw
      case rel => exact ⟨k + 1, by omega, by go_num, by show OB _ _ _ _; simpa using HN.out.1, HN.out.2⟩
      case measure => simp [intOf]; omega
    · obtain rfl : k = 8 := by omega
      obtain ⟨B, c3, hu, hgb, hgs⟩ := World.ownsRow.form HO.out (by rw [hDl]; omega)
      rw [hDl] at hu
      subst hu
      have HF : Hid (Lent wr w.heap.size (.slice (some ⟨B, 0, none⟩) l.length c3) l) := ⟨B, c3, rfl, by
        have := HO.out
        rw [HD.out] at this
        exact this⟩
      have hcap : l.length + 8 ≤ c3 ∧ c3 ≤ 9223372036854775807 := by
        have := (show SB wr (.slice (some ⟨B, 0, none⟩) D.length c3) D from by
          have := HO.out.sb
          rw [hDl]
          exact this).cap
        rw [hDl] at this
        exact this
      obtain ⟨hcap1, hcap2⟩ := hcap
      clear hDl
      go_wp2
      go_ret
      exact ⟨_, rfl, HF.out, HB.out⟩

theorem marks_get {l : List Int} {i : Nat} (hi : i < l.length + 8) : (i < l.length → (l ++ marks 8).getD i 0 = l.getD i 0) ∧ (¬ i < l.length → (l ++ marks 8).getD i 0 = 165) := by
  refine ⟨fun h => by simp only [List.getD, List.getElem?_append_left h], fun h => ?_⟩
  simp only [List.getD]
  rw [List.getElem?_append_right (by omega)]
  unfold marks
  rw [List.getElem?_replicate, if_pos (by omega)]
  rfl

set_option maxHeartbeats 1000000 in
theorem still_any (u v : Value) (l : List Int) (w : World) (base : Nat) (h : Lent w base u l) (hs : SB w v l) (hr : l.length ≤ 140737488351232) :
    Calls Try.prog 10 #[u, v] w fun e w' => e = .returned (.bool true) ∧ ∃ n, w' = w.drewN n := by
  obtain ⟨B, c, rfl, ho⟩ := h
  have HS := hide hs
  obtain ⟨ao, cap, hv⟩ := hs.len
  subst hv
  obtain ⟨hc1, hc2⟩ := hs.cap
  have hcap : l.length + 8 ≤ c ∧ c ≤ 9223372036854775807 := by
    have h1 : (l ++ marks 8).length = l.length + 8 := by rw [List.length_append]; simp [marks]
    have := (show SB w (.slice (some ⟨B, 0, none⟩) (l ++ marks 8).length c) (l ++ marks 8) from by
      rw [h1]
      exact ho.sb).cap
    rw [h1] at this
    exact this
  obtain ⟨hcap1, hcap2⟩ := hcap
  have HG : Hid (∀ i, i < l.length + 8 → w.cell? ⟨B, i, none⟩ = some (.int .u8 ((l ++ marks 8).getD i 0))) := fun i hi => ho.get rfl (by rw [List.length_append]; simp [marks]; omega)
  clear ho hs
  go_enter Try.func10, Try.ntmps10
  go_wp2
  go_loopw [6] (fun i wr => ∃ k n : Nat, k ≤ l.length + 8 ∧ i = .int .i64 k ∧ wr = w.drewN n) (fun i _ => l.length + 8 - (intOf i).toNat)
  case atStart => exact ⟨0, 0, Nat.zero_le _, rfl, rfl⟩
  case round =>
    obtain ⟨k, n, hk, rfl, rfl⟩ := hrel
    by_cases hlt : k < l.length + 8
    · have hlt' : (k : Int) < (l.length : Int) + 8 := by omega
      by_cases hin : k < l.length
      · have hin' : (k : Int) < (l.length : Int) := by omega
        have hd1 : decide ((k : Int) < (l.length : Int)) = true := decide_eq_true hin'
        have hd2 : decide ((l.length : Int) ≤ (k : Int)) = false := decide_eq_false (by omega)
        have hd3 : decide (l.length ≤ k) = false := decide_eq_false (by omega)
        obtain ⟨b, o, hab, hcv⟩ := HS.out.byte (w := w.drewN n) (below_drewN (Below.refl _ _) n) hin
        subst hab
        have hcu : (w.drewN n).cell? ⟨B, k, none⟩ = some (.int .u8 (l.getD k 0)) := by
          have := HG.out k hlt
          rw [(marks_get hlt).1 hin] at this
          exact this
        obtain ⟨y, HY⟩ : ∃ y, Hid (y = l.getD k 0) := ⟨_, rfl⟩
        rw [← HY.out] at hcu hcv
        have hcu2 : w.cell? ⟨B, k, none⟩ = some (.int .u8 y) := hcu
        have hcv2 : w.cell? ⟨b, o + k, none⟩ = some (.int .u8 y) := hcv
        go_wp2
        go_quiet (fail)
        go_wp2
        go_roundw
        case rel => exact ⟨k + 1, _, by omega, by go_num, by (try simp only [World.drewN_drewN]); rfl⟩
        case measure => simp [intOf]; omega
      · have hin' : ¬ (k : Int) < (l.length : Int) := by omega
        have hd1 : decide ((k : Int) < (l.length : Int)) = false := decide_eq_false hin'
        have hd2 : decide ((l.length : Int) ≤ (k : Int)) = true := decide_eq_true (by omega)
        have hcu : (w.drewN n).cell? ⟨B, k, none⟩ = some (.int .u8 165) := by
          have := HG.out k hlt
          rw [(marks_get hlt).2 hin] at this
          exact this
        have hcu2 : w.cell? ⟨B, k, none⟩ = some (.int .u8 165) := hcu
        go_wp2
        go_quiet (fail)
        go_wp2
        go_roundw
        case rel => exact ⟨k + 1, _, by omega, by go_num, by (try simp only [World.drewN_drewN]); rfl⟩
        case measure => simp [intOf]; omega
    · have hlt' : ¬ (k : Int) < (l.length : Int) + 8 := by omega
      go_wp2
      go_ret
      exact ⟨rfl, n, rfl⟩
theorem Lent.below12 {w w' : World} {base : Nat} {v : Value} {l : List Int} (h : Lent w base v l) (hb : Below w.heap.size w w') : Lent w' 0 v l := by
  obtain ⟨B, c, rfl, ho⟩ := h
  exact ⟨B, c, rfl, (OB.below ho hb (Nat.le_refl _)).base (Nat.zero_le _)⟩
end Go.Proofs.Ytogplagiheoaiaa

