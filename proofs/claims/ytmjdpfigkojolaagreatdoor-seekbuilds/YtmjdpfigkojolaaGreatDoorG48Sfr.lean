import Derived.Test.YtmjdpfigkojolaaGreatDoorG13Wkq
import Derived.Test.YtmjdpfigkojolaaGreatDoorG08Ifa
import Derived.Lib.SmallJoins
import Derived.Deep.Slices
import Derived.SizedLaws
namespace Go.Proofs.YtmjdpfigkojolaaGreatDoor
open Go.RowKit Go.Maps
set_option maxRecDepth 20000
set_option linter.unusedVariables false
set_option linter.unusedSimpArgs false

/-! framed, whole, backward: made of tpl8's Frm and Bkv. -/

theorem sizeByte8 : (Tryz.prog.info? 5).map (·.size) = some 1 := by kernel_rfl

def marks4 : List Int := [192, 193, 194, 195]

theorem framedB_any (v : Value) (l : List Int) (w : World) (h : SB w v l) (hr : l.length ≤ 140737488351232) :
    Calls Tryz.prog 12 #[v] w fun e w' => ∃ g c, e = .returned (.slice (some ⟨g, 0, none⟩) (l.length + 4) c) ∧ OB w' w.heap.size (.slice (some ⟨g, 0, none⟩) (l.length + 4) c) (l ++ marks4) ∧ Below w.heap.size w w' := by
  obtain ⟨ao, cap, rfl, hlc, hcm, hnil, hcell⟩ := h
  unfold maxLen at hcm
  go_enter Tryz.func12, Tryz.ntmps12
  go_wp2_with (at_make; refine wpList_mk rfl _ _ rfl _ _ _ _ l.length (l.length + 4) rfl rfl rfl (by first | rfl | (simp; done)) (by omega) (by omega) ?_)
  intro w1 hg hb1
  have Hg := hide hg
  clear hg
  have HN : Hid (ao = none → cap = 0) := hnil
  have HC : Hid (∀ x, ao = some x → ∀ i, i < l.length → w.cell? (x.add i) = some (.int .u8 (l.getD i 0))) := hcell
  clear hnil hcell
  obtain ⟨cs, hcs⟩ : ∃ cs, cs = l.map (Value.int .u8) := ⟨_, rfl⟩
  have HS : Hid (cs = l.map (Value.int .u8)) := hcs
  clear hcs
  have C1 : Hid (cs.length = Nat.min l.length l.length) := by show _ = _; rw [HS.out]; simp
  have C2 : Hid (0 < cs.length → (some (⟨w.heap.size, 0, none⟩ : Addr)) = some ⟨w.heap.size, 0, none⟩ ∧ ∃ ad, ao = some ad ∧ ∀ j v, cs[j]? = some v → w1.cell? (ad.add j) = some v) := by
    intro hp
    refine ⟨rfl, ?_⟩
    rw [HS.out, List.length_map] at hp
    cases ao with
    | none => have := HN.out rfl; omega
    | some x =>
      refine ⟨x, rfl, fun j u hj => ?_⟩
      rw [HS.out] at hj
      obtain ⟨hjl, rfl⟩ := List.getElem?_eq_some_iff.1 hj
      have hjl' : j < l.length := by simpa using hjl
      have hc := HC.out x rfl j hjl'
      rw [hb1.cell (by have := World.block_lt_of_cell? _ _ hc; exact this), hc]
      simp [hjl']
  have C3 : Hid (0 + cs.length ≤ (List.replicate (l.length + 4) (Value.int .u8 0)).length) := by show _ ≤ _; rw [HS.out]; simp
  have C4 : Hid (∀ v ∈ cs, v.oneCell' = true) := by rw [HS.out]; intro u hu; obtain ⟨n, _, rfl⟩ := List.mem_map.1 hu; rfl
  go_wp2_with (refine wpList_copy_splice rfl _ _ 22 22 rfl 5 Tryz.underlying22 sizeByte _ _ _ _ _ _ rfl rfl w.heap.size 0 (List.replicate (l.length + 4) (Value.int .u8 0)) 5 Hg.out cs C1.out C2.out C3.out C4.out w.heap.size w hb1 (Nat.le_refl _) ?_)
  intro w2 HG2 hb2
  have HF : Hid (OB w2 w.heap.size (.slice (some ⟨w.heap.size, 0, none⟩) l.length (l.length + 4)) l) := by
    have hg := HG2.out
    rw [splice_front _ _ _ _ (by rw [HS.out]; simp), HS.out] at hg
    exact ⟨by simp, .inr ⟨w.heap.size, l.length + 4, _, rfl, Nat.le_refl _, hg, by omega, by unfold maxLen; omega, by simp, by simp⟩⟩
  have HB2 := hide hb2
  clear C1 C2 C3 C4 HS HN HC Hg HG2 hb1 hb2
  go_wp2_with (at_builtin; refine wpList_app rfl _ _ 22 rfl w.heap.size _ _ l marks4 rfl (HF.out.alloc _) rfl (built_src w2 marks4) (by show _ + 4 ≤ _; omega) (by have := HB2.out.size; simp; omega) ?_)
  intro v' w3 ho hgr
  rcases ho.2 with ⟨_, hx⟩ | ⟨g, c, cur, rfl, k1, k2, k3, k4, k5, k6⟩
  · simp [marks4] at hx
  have e4 : (l ++ marks4).length = l.length + 4 := by simp [marks4]
  rw [e4] at ho
  rw [e4]
  have HO := hide ho
  have HB3 : Hid (Below w.heap.size w w3) := (HB2.out.alloc HB2.out.size _).grown hgr.by (by have := HB2.out.size; simp; omega) (fun k hk => by simp [Value.ownBlock] at hk; omega)
  clear ho hgr k2 k6 k5 k3
  go_wp2
  go_ret
  exact ⟨g, c, rfl, HO.out, HB3.out⟩

theorem SB.cellsAt {w : World} {g o n c : Nat} {l : List Int} (h : SB w (.slice (some ⟨g, o, none⟩) n c) l) : ∀ i, i < l.length → w.cell? ⟨g, o + i, none⟩ = some (.int .u8 (l.getD i 0)) := by
  obtain ⟨ao, cap, he, h1, h2, h3, h4⟩ := h
  simp only [Value.slice.injEq] at he
  intro i hi
  have := h4 ⟨g, o, none⟩ he.1.symm i hi
  rwa [Addr.add_lit] at this

theorem wholeB_any (v2 : Value) (g c : Nat) (l : List Int) (w : World) (h1 : SB w (.slice (some ⟨g, 0, none⟩) (l.length + 4) c) (l ++ marks4)) (h2 : SB w v2 l) (hr : l.length ≤ 140737488351232) :
    Calls Tryz.prog 14 #[.slice (some ⟨g, 0, none⟩) (l.length + 4) c, v2] w fun e w' => e = .returned (.bool true) ∧ ∃ n, w' = w.drewN n := by
  have hcl : ∀ i, i < l.length + 4 → w.cell? ⟨g, i, none⟩ = some (.int .u8 ((l ++ marks4).getD i 0)) := fun i hi => by
    have := h1.cellsAt i (by simp [marks4]; omega)
    rwa [Nat.zero_add] at this
  have m0 : w.cell? ⟨g, l.length, none⟩ = some (.int .u8 192) := by rw [hcl l.length (by omega)]; simp [marks4]
  have m1 : w.cell? ⟨g, l.length + 1, none⟩ = some (.int .u8 193) := by rw [hcl (l.length + 1) (by omega)]; simp [marks4]
  have m2 : w.cell? ⟨g, l.length + 2, none⟩ = some (.int .u8 194) := by rw [hcl (l.length + 2) (by omega)]; simp [marks4]
  have m3 : w.cell? ⟨g, l.length + 3, none⟩ = some (.int .u8 195) := by rw [hcl (l.length + 3) (by omega)]; simp [marks4]
  have HCL : Hid (∀ i, i < l.length → w.cell? ⟨g, i, none⟩ = some (.int .u8 (l.getD i 0))) := fun i hi => by
    rw [hcl i (by omega)]; simp [hi, List.getElem?_append_left]
  have H2 := hide h2
  obtain ⟨ao, cap, rfl, hlc, hcm, _⟩ := h2
  unfold maxLen at hcm
  clear hcl h1
  go_enter Tryz.func14, Tryz.ntmps14
  go_wp2
  go_loopw [6] (fun i wr => ∃ k n : Nat, k ≤ l.length ∧ i = .int .i64 k ∧ wr = w.drewN n) (fun i _ => l.length - (intOf i).toNat)
  case atStart => exact ⟨0, 0, Nat.zero_le _, rfl, rfl⟩
  case round =>
    obtain ⟨k, n, hk, rfl, rfl⟩ := hrel
    by_cases hlt : k < l.length
    · obtain ⟨x, hx, hcell⟩ : ∃ x : Addr, ao = some x ∧ ∀ i, i < l.length → w.cell? (x.add i) = some (.int .u8 (l.getD i 0)) := by
        obtain ⟨ao', cap', he, a1, a2, a3, a4⟩ := H2.out
        simp only [Value.slice.injEq] at he
        obtain ⟨rfl, _, rfl⟩ := he
        cases ao with
        | none => have := a3 rfl; omega
        | some x => exact ⟨x, rfl, a4 x rfl⟩
      subst hx
      obtain ⟨b, o, rfl⟩ := addr_lit (hcell 0 (by omega))
      obtain ⟨y, c1, c2⟩ : ∃ y, w.cell? ⟨g, k, none⟩ = some (.int .u8 y) ∧ w.cell? ⟨b, o + k, none⟩ = some (.int .u8 y) := ⟨_, HCL.out k hlt, by have := hcell k hlt; rwa [Addr.add_lit] at this⟩
      clear hcell
      go_wp2
      go_quiet (fail)
      go_wp2
      go_roundw
      case rel => exact ⟨k + 1, _, by omega, by go_num, rfl⟩
      case measure => simp [intOf]; omega
    · go_wp2
      go_ret
      exact ⟨rfl, _, rfl⟩

theorem byt_rev {l : List Int} (h : Byt l) : Byt l.reverse := by
  have hm : ∀ x ∈ l, 0 ≤ x ∧ x < 256 := fun x hx => by
    obtain ⟨i, hi⟩ := List.getElem?_of_mem hx
    have := h i
    rwa [List.getD_eq_getElem?_getD, hi] at this
  intro i
  rw [List.getD_eq_getElem?_getD]
  cases e : l.reverse[i]? with
  | none => simp
  | some x => exact hm x (List.mem_reverse.1 (List.mem_of_getElem? e))

theorem SB.get8 {w : World} {v : Value} {l : List Int} (h : SB w v l) {k : Nat} (hk : k < l.length) : ∃ b o c, v = .slice (some ⟨b, o, none⟩) l.length c ∧ l.length ≤ c ∧ c ≤ 9223372036854775807 ∧ w.cell? ⟨b, o + k, none⟩ = some (.int .u8 (l.getD k 0)) := by
  obtain ⟨ao, cap, rfl, h1, h2, h3, h4⟩ := h
  unfold maxLen at h2
  cases ao with
  | none => have := h3 rfl; omega
  | some x =>
    obtain ⟨b, o, rfl⟩ := addr_lit (h4 x rfl 0 (by omega))
    have := h4 _ rfl k hk
    rw [Addr.add_lit] at this
    exact ⟨b, o, cap, rfl, h1, by omega, this⟩

theorem backwardB_any (v : Value) (l : List Int) (w : World) (h : SB w v l) (hr : l.length ≤ 140737488351232) :
    Calls Tryz.prog 15 #[v] w fun e w' => ∃ a c, e = .returned (.slice a l.length c) ∧ OB w' w.heap.size (.slice a l.length c) l.reverse ∧ Below w.heap.size w w' := by
  have HS := hide h
  obtain ⟨ao, cap, rfl, hlc, hcm, -⟩ := h
  unfold maxLen at hcm
  go_enter Tryz.func15, Tryz.ntmps15
  go_wp2
  go_loopw [3, 4] (fun u i wr => ∃ k : Nat, k ≤ l.length ∧ i = .int .i64 ((k : Int) - 1) ∧ Hid (OB wr w.heap.size u (l.drop k).reverse) ∧ Hid (Below w.heap.size w wr)) (fun _ i _ => ((intOf i) + 1).toNat)
  case atStart => exact ⟨l.length, Nat.le_refl _, rfl, by show OB _ _ _ _; rw [List.drop_of_length_le (Nat.le_refl _)]; exact World.ownsRow_nil _ _ _ _, Below.refl _ _⟩
  case round =>
    obtain ⟨k, hk, rfl, HO, HB⟩ := hrel
    by_cases h0 : k = 0
    · subst h0
      have h0' : ¬ (0 : Int) ≤ ((0 : Nat) : Int) - 1 := by omega
      have HF : Hid (OB wr w.heap.size u3 l.reverse) := HO.out
      clear HO
      obtain ⟨a1, p1, hu⟩ := HF.out.shape
      rw [List.length_reverse] at hu
      subst hu
      go_wp2
      go_ret
      exact ⟨_, _, rfl, HF.out, HB.out⟩
    · obtain ⟨m, rfl⟩ : ∃ m, k = m + 1 := ⟨k - 1, by omega⟩
      have e1 : ((m + 1 : Nat) : Int) - 1 = m := by omega
      rw [e1]
      have hm0 : (0 : Int) ≤ m := by omega
      obtain ⟨b, o, cx, hv, -, -, hc⟩ := (HS.out.below HB.out).get8 (k := m) (by omega)
      simp only [Value.slice.injEq, true_and] at hv
      obtain ⟨rfl, rfl⟩ := hv
      have HD := hide (drop_rev (l := l) (k := m) (by omega))
      obtain ⟨y, HY⟩ : ∃ y, Hid (y = l.getD m 0) := ⟨_, rfl⟩
      rw [← HY.out] at hc HD
      obtain ⟨D, HDD⟩ : ∃ D, Hid (D = (l.drop (m + 1)).reverse) := ⟨_, rfl⟩
      have hDl : D.length ≤ l.length := by rw [HDD.out, List.length_reverse, List.length_drop]; omega
      rw [← HDD.out] at HO HD
      have hBw := HB.out.size
      obtain ⟨a1, p1, hu⟩ := HO.out.shape
      subst hu
      have HALC : Hid (OB (wr.alloc (.cells #[.int .u8 y] 5)) w.heap.size (.slice a1 D.length p1) D) := HO.out.alloc _
      have HSR : Hid (Src Tryz.prog 1 22 (.slice (some ⟨wr.heap.size, 0, none⟩) 1 1) ([y] : List Int).length (([y] : List Int).map (Value.int .u8)) (wr.alloc (.cells #[.int .u8 y] 5))) := built_src wr [y]
      clear e1
      go_wp2_with (at_builtin; refine wpList_app rfl _ _ 22 rfl w.heap.size _ _ D [y] rfl HALC.out rfl HSR.out (by simp; omega) (by simp; omega) ?_)
      intro v3 w3 ho3 hgr3
      have HN : Hid (OB w3 w.heap.size v3 (l.drop m).reverse ∧ Below w.heap.size w w3) := by
        refine ⟨by rw [HD.out]; exact ho3, (HB.out.alloc hBw _).grown hgr3.by (by simp; omega) (fun j hj => by have := HO.out.lt j hj; omega)⟩
      clear ho3 hgr3
      go_wp2
      go_roundw
      case rel => exact ⟨m, by omega, by go_num, HN.out.1, HN.out.2⟩
      case measure => simp [intOf]

theorem wpList_copyB {w : World} {ops : Array Oper} {rest : List Oper} {o : Oper} {a : Act} {Q : Exit → Act → World → Prop} (hgd : o.guard = none) (d s : Operand)
    (ho : o.op = .call { callee := .builtin .copy, args := #[d, s], argTypes := #[22, 22] }) (base g n c : Nat) (L cs : List Int) (hL : OB w base (.slice (some ⟨g, 0, none⟩) n c) L) (dl : Nat) (hd : a.eval d = .slice (some ⟨g, 0, none⟩) dl c) (hdl : cs.length ≤ dl)
    (vs : Value) (hs : a.eval s = vs) (hsb : SB w vs cs) (hle : cs.length ≤ L.length)
    (h : ∀ w', OB w' base (.slice (some ⟨g, 0, none⟩) n c) (cs ++ L.drop cs.length) → w.grownBy w' (some g) → wpList Tryz.prog ops Q rest (a.put o.dst (goInt cs.length)) w') : wpList Tryz.prog ops Q (o :: rest) a w := by
  have hL0 := hL
  obtain ⟨hl0, hL⟩ := hL
  rcases hL with ⟨hx, _⟩ | ⟨g', cap, cur, hv, k1, k2, k3, k4, k5, k6⟩
  · simp at hx
  simp only [Value.slice.injEq, Option.some.injEq, Addr.mk.injEq] at hv
  obtain ⟨⟨rfl, -, -⟩, rfl, rfl⟩ := hv
  obtain ⟨ao, sc, rfl, s1, s2, s3, s4⟩ := hsb
  obtain ⟨cu, rfl⟩ : ∃ cu : List Value, cur = cu.toArray := ⟨cur.toList, by simp⟩
  refine wpList_copy_gr hgd d s 22 22 ho 5 Tryz.underlying22 sizeByte8 _ ao _ _ _ _ hd hs g 0 cu 5 k2 (cs.map (Value.int .u8)) (by rw [List.length_map]; exact (Nat.min_eq_left hdl).symm) ?_ (by simp at k5 ⊢; omega) (fun v hv => by obtain ⟨x, _, rfl⟩ := List.mem_map.1 hv; rfl) ?_
  · intro hp
    rw [List.length_map] at hp
    refine ⟨rfl, ?_⟩
    cases ao with
    | none => have := s3 rfl; omega
    | some x =>
      refine ⟨x, rfl, fun j u hj => ?_⟩
      obtain ⟨hjl, rfl⟩ := List.getElem?_eq_some_iff.1 hj
      have hjl' : j < cs.length := by simpa using hjl
      rw [s4 x rfl j hjl']
      simp [hjl']
  · intro w' hg hgr
    rw [List.length_map]
    refine h w' ⟨by simp, .inr ⟨g, c, _, ?_, k1, hg.out, ?_, k4, ?_, ?_⟩⟩ hgr
    · rw [List.length_append, List.length_drop]; congr 1; omega
    · rw [List.length_append, List.length_drop]; omega
    · rw [List.size_toArray, length_splice _ _ _ (by rw [List.length_map]; simp at k5; omega)]; simpa using k5
    · have hlen : (cs ++ L.drop cs.length).length = L.length := by rw [List.length_append, List.length_drop]; omega
      rw [hlen]
      simp only at k6 ⊢
      have hcl : cs.length ≤ cu.length := by simp at k5; omega
      have e : splice cu 0 (cs.map (Value.int .u8)) = cs.map (Value.int .u8) ++ cu.drop cs.length := by simp [splice]
      rw [e, List.take_append, List.length_map, List.take_of_length_le (by rw [List.length_map]; omega), List.map_append]
      congr 1
      rw [List.map_drop, ← k6, List.drop_take]
end Go.Proofs.YtmjdpfigkojolaaGreatDoor

