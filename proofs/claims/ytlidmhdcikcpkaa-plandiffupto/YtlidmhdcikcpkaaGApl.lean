import Derived.Test.YtlidmhdcikcpkaaGApn
import Derived.Test.YtlidmhdcikcpkaaGRgt
namespace Go.Proofs.Ytlidmhdcikcpkaa
open Go.RowKit Go.Maps
set_option maxRecDepth 20000
set_option linter.unusedVariables false
set_option linter.unusedSimpArgs false

theorem SB.src2 {w w' : World} {ao : Option Addr} {cap k : Nat} {l : List Int} (h : SB w (.slice ao l.length cap) l) (hb : Below w.heap.size w w') (hk : k ≤ l.length) {dp : Option Addr} {g off : Nat} (hd : dp = some ⟨g, off, none⟩) :
    0 < ((l.take k).map (Value.int .u8)).length → dp = some ⟨g, off, none⟩ ∧ ∃ ad, ao = some ad ∧ ∀ j v, ((l.take k).map (Value.int .u8))[j]? = some v → w'.cell? (ad.add j) = some v := by
  intro hp
  refine ⟨hd, ?_⟩
  obtain ⟨ao', cap', he, h1, h2, h3, h4⟩ := h
  simp only [Value.slice.injEq] at he
  obtain ⟨rfl, -, rfl⟩ := he
  have hpos : 0 < k ∧ 0 < l.length := by simp at hp; omega
  cases ao with
  | none => have := h3 rfl; omega
  | some x =>
    refine ⟨x, rfl, fun j u hj => ?_⟩
    obtain ⟨hjl, rfl⟩ := List.getElem?_eq_some_iff.1 hj
    have hjl' : j < l.length := by simp at hjl; omega
    have hc := h4 x rfl j hjl'
    rw [hb.cell (by have := World.block_lt_of_cell? _ _ hc; exact this), hc]
    simp [hjl', List.getElem_take]

theorem row_two {w3 w4 : World} {g b p q : Nat} {x y : Value} (hg : w3.drew.grownBy w4 (some g)) (hb : b < w3.heap.size) (hne : g < b) (hc : w3.cell? ⟨b, p, none⟩ = some x ∧ w3.cell? ⟨b, q, none⟩ = some y) : w4.cell? ⟨b, p, none⟩ = some x ∧ w4.cell? ⟨b, q, none⟩ = some y :=
  ⟨(hg.cell_far ⟨b, p, none⟩ hb (fun e => by have := Option.some.inj e; simp only at this; omega)).trans hc.1, (hg.cell_far ⟨b, q, none⟩ hb (fun e => by have := Option.some.inj e; simp only at this; omega)).trans hc.2⟩
/-- 'copy' into a row of one's own, as a step of a region that draws its order. -/
theorem stepCopy {ops : Array Oper} {o : Oper} {a : Act} {w : World} {K : Act → World → Prop} {Q : Exit → Act → World → Prop} {E : Prop} (hgd : o.guard = none) (d s : Operand)
    (ho : o.op = .call { callee := .builtin .copy, args := #[d, s], argTypes := #[34, 34] }) (g off dLen dCap : Nat) (ad : Addr) (sLen sCap : Nat) (hd : a.eval d = .slice (some ⟨g, off, none⟩) dLen dCap) (hs : a.eval s = .slice (some ad) sLen sCap)
    (L l : List Int) (hg : w.heap[g]? = some (.cells (L.map (Value.int .u8)).toArray 5 (0, 0))) (hn : l.length = Nat.min sLen dLen) (hsrc : ∀ j, j < l.length → w.cell? (ad.add j) = some (.int .u8 (l.getD j 0))) (hfit : off + l.length ≤ L.length)
    (h : ∀ w', w'.heap[g]? = some (.cells ((apW L off l).map (Value.int .u8)).toArray 5 (0, 0)) → w.grownBy w' (some g) → K (a.put o.dst (goInt l.length)) w') :
    if Region.wanted o (yielded ops a.tmps) = true then Oper.wp Try.prog o a w K Q else E := by
  rw [if_pos (by simp [Region.wanted, hgd])]
  have hrun := run_copy_row (P := Try.prog) w 34 34 o.type 5 g off dLen dCap ad sLen sCap (L.map (Value.int .u8)).toArray 5 (l.map (Value.int .u8)) Try.underlying34 sizeByte hg (by rw [List.length_map]; exact hn)
    (fun j v hj => by
      obtain ⟨hjl, rfl⟩ := List.getElem?_eq_some_iff.1 hj
      have hj' : j < l.length := by simpa using hjl
      rw [hsrc j hj']
      simp [hj'])
    (by simpa using hfit) (fun v hv => by obtain ⟨n, _, rfl⟩ := List.mem_map.1 hv; rfl)
  unfold Oper.wp
  simp [execOp, ho, resolve, invoke, builtin, hd, hs, hrun, Result.andThen]
  have hk := h (w.setRow g ((apW L off l).map (Value.int .u8)).toArray) (setRow_heap w g _ _ 5 _ hg) ⟨rfl, rfl, rfl, by simp [World.setRow], fun k _ hk => setRow_other w g k _ (fun e => hk (by rw [e]))⟩
  have e : ((apW L off l).map (Value.int .u8)) = List.take off (L.map (Value.int .u8)) ++ (l.map (Value.int .u8) ++ List.drop (off + l.length) (L.map (Value.int .u8))) := by unfold apW; simp
  rw [e] at hk
  exact hk

set_option maxHeartbeats 8000000 in
theorem applied_any (vc v : Value) (C : List Int) (R : List We) (n : Nat) (w : World) (hc : SB w vc C) (h : SW w v R) (hn : n ≤ 16777216) (hr : rgt (n : Int) (nms R) 0 = true) :
    Calls Try.prog 29 #[vc, .int .i64 (n : Int), v] w fun e w' => e = .returned (.slice (some ⟨w.heap.size, 0, none⟩) n n) ∧ w'.heap[w.heap.size]? = some (.cells ((apl C n (prs R)).map (Value.int .u8)).toArray 5 (0, 0)) ∧ Below w.heap.size w w' := by
  have HS := hide h
  have HR := hide hr
  have HC := hide hc
  obtain ⟨ca, ccap, rfl, c1, c2⟩ := h.open
  obtain ⟨co, cco, rfl, d1, d2, -, -⟩ := hc
  unfold maxLen at d2
  clear h hr
  go_enter Try.func29, Try.ntmps29
  go_wp2_with (at_make; refine wpList_mk rfl _ _ rfl _ _ _ _ n n rfl rfl rfl rfl (Nat.le_refl _) (by omega) ?_)
  intro w1 hg hb1
  have Hg : Hid (w1.heap[w.heap.size]? = some (.cells ((List.replicate n (0 : Int)).map (Value.int .u8)).toArray 5 (0, 0))) := by show _ = _; rw [hg, List.map_replicate]; simp
  clear hg
  have C1 : Hid (((C.take n).map (Value.int .u8)).length = Nat.min C.length n) := by show _ = _; simp; exact Nat.min_comm ..
  have C2 := hide (HC.out.src2 hb1 (k := Nat.min n C.length) (Nat.min_le_right ..) (dp := some ⟨w.heap.size, 0, none⟩) rfl)
  have e9 : C.take (Nat.min n C.length) = C.take n := by
    rw [List.take_eq_take_iff]
    show min (min n C.length) C.length = min n C.length
    omega
  rw [e9] at C2
  have C3 : Hid (0 + ((C.take n).map (Value.int .u8)).length ≤ ((List.replicate n (0 : Int)).map (Value.int .u8)).length) := by show _ ≤ _; simp; omega
  have C4 : Hid (∀ v ∈ (C.take n).map (Value.int .u8), v.oneCell' = true) := fun u hu => by obtain ⟨n, _, rfl⟩ := List.mem_map.1 hu; rfl
  have HB1 := hide hb1
  clear hb1 e9
  go_wp2_with (refine wpList_copy_splice rfl _ _ 34 34 rfl 5 Try.underlying34 sizeByte _ _ _ _ _ _ rfl rfl w.heap.size 0 _ 5 Hg.out _ C1.out C2.out C3.out C4.out w.heap.size w HB1.out (Nat.le_refl _) ?_)
  intro w2 HG2 hb2
  have e8 : splice (List.replicate n (Value.int .u8 0)) 0 (List.take n (List.map (Value.int .u8) C)) = (ap0 C n).map (Value.int .u8) := by rw [← splice_ap0, List.map_replicate, List.map_take]
  rw [e8] at HG2
  clear e8
  have HB2 := hide hb2
  clear C1 C2 C3 C4 Hg hb2
  go_wp2
  go_loopw [9, 17] (fun _ i wr => ∃ j : Nat, i = .int .i64 (j : Int) ∧ j ≤ R.length ∧ Hid (wr.heap[w.heap.size]? = some (.cells ((apl C n ((prs R).take j)).map (Value.int .u8)).toArray 5 (0, 0)) ∧ (apl C n ((prs R).take j)).length = n) ∧ Hid (Below w.heap.size w wr)) (fun _ i _ => R.length - (intOf i).toNat)
  case atStart => exact ⟨0, rfl, Nat.zero_le _, ⟨HG2.out, ap0_len C n⟩, HB2.out⟩
  case round =>
    obtain ⟨j, rfl, hj, HG, HB⟩ := hrel
    by_cases hlt : j < R.length
    · have hlt' : (j : Int) < (R.length : Int) := by omega
      obtain ⟨b0, o0, a', c', hla, hbl, hdv, g0, g1, hsb, k1, k2⟩ := (HS.out.low HB.out).row hlt
      have hin := rgt_in _ 0 HR.out (Int.le_refl _) ((nms R).getD j wn0) (by simp [List.getD, nms_len, hlt])
      have hap := apl_take (C := C) (n := n) (P := prs R) (j := j) (by rw [prs_len]; exact hlt)
      rw [n_get hlt] at hin
      rw [prs_get hlt] at hap
      obtain ⟨e, he⟩ : ∃ e, e = R.getD j we0 := ⟨_, rfl⟩
      rw [← he] at hdv g0 g1 hsb k1 hin hap
      obtain ⟨at0, dv0, l0⟩ := e
      simp only [We.n] at hdv g0 g1 hsb k1 hin hap
      obtain ⟨A, rfl⟩ : ∃ A : Nat, at0 = (A : Int) := ⟨at0.toNat, by omega⟩
      rw [Int.toNat_natCast] at hap
      obtain ⟨i0, i1, i2⟩ := hin
      subst hla
      have HBa : Hid (Below w.heap.size w (wr.alloc (.cells #[.int .i64 (A : Int), .slice a' l0.length c'] 41))) := HB.out.alloc HB.out.size _
      obtain ⟨w3, hw3⟩ : ∃ y, wr.alloc (.cells #[.int .i64 (A : Int), .slice a' l0.length c'] 41) = y := ⟨_, rfl⟩
      have hbx : w3.heap[wr.heap.size]? = some (.cells #[.int .i64 (A : Int), .slice a' l0.length c'] 41) := by rw [← hw3]; exact heap_alloc_new _ _
      have hb3 : Below wr.heap.size wr w3 := by rw [← hw3]; exact (Below.refl _ _).alloc (Nat.le_refl _) _
      rw [hw3] at HBa
      have q0 := box_cells hbx 0 rfl
      have q1 := box_cells hbx 1 rfl
      have HGB : Hid (w.heap.size < wr.heap.size) := (Array.getElem?_eq_some_iff.1 HG.out.1).1
      have HG3 : Hid (w3.heap[w.heap.size]? = some (.cells ((apl C n ((prs R).take j)).map (Value.int .u8)).toArray 5 (0, 0))) := (hb3.block _ HGB.out).trans HG.out.1
      have HLn : Hid ((apl C n ((prs R).take j)).length = n) := HG.out.2
      have HAP := hide hap
      obtain ⟨L, hL⟩ : ∃ L, L = apl C n ((prs R).take j) := ⟨_, rfl⟩
      rw [← hL] at HG3 HLn HAP
      obtain ⟨ad, rfl, had⟩ : ∃ ad : Addr, a' = some ad ∧ ∀ j, j < l0.length → w3.drew.cell? (ad.add j) = some (.int .u8 (l0.getD j 0)) := by
        obtain ⟨ao', cap', hx, x1, x2, x3, x4⟩ := hsb
        simp only [Value.slice.injEq] at hx
        obtain ⟨rfl, -, rfl⟩ := hx
        cases a' with
        | none => have := x3 rfl; omega
        | some x => exact ⟨x, rfl, fun j hj => by
            have hc := x4 x rfl j hj
            show w3.cell? _ = _
            rw [hb3.cell (by have := World.block_lt_of_cell? _ _ hc; exact this), hc]⟩
      have HAD := hide had
      clear had
      have C1 : Hid (l0.length = Nat.min l0.length (n - A)) := (Nat.min_eq_left (by omega)).symm
      have C3 : Hid (A + l0.length ≤ L.length) := by show _ ≤ _; rw [HLn.out]; omega
      have hi1 : (0 : Int) ≤ (A : Int) := by omega
      have hi2 : (A : Int) ≤ (n : Int) := by omega
      have hi3 : A ≤ n := by omega
      clear hdv he hsb hbx hL hap hb3
      have HGd : Hid (w3.drew.heap[w.heap.size]? = some (.cells (L.map (Value.int .u8)).toArray 5 (0, 0))) := HG3.out
      have HBd : Hid (Below w.heap.size w w3.drew) := HBa.out.drew
      have hi4 : A < n := by omega
      have HQ := hide (And.intro q0 q1)
      have HQL : Hid (wr.heap.size < w3.heap.size) := World.block_lt_of_cell? _ _ q0
      clear q0 q1
      go_wp2_with fail
      go_region_held3 (fun W => W.cell? ⟨wr.heap.size, 0, none⟩ = some (.int .i64 (A : Int)) ∧ W.cell? ⟨wr.heap.size, 1, none⟩ = some (.slice (some ad) l0.length c')) (first | exact HQ.out | exact HQ4.out)
        (first
          | (refine stepCopy (by rfl) _ _ (by rfl) w.heap.size A (n - A) (n - A) ad l0.length c' (by simp [Act.eval, Act.put] <;> omega) (by simp [Act.eval, Act.put]) L l0 HGd.out C1.out HAD.out C3.out ?_; intro w4 hg4 hb4; have HG4 := hide hg4; have HQ4 := hide (row_two hb4 HQL.out HGB.out HQ.out); have HB4 := hide (HBd.out.grown hb4 HBd.out.size (fun k hk => Nat.le_of_eq (Option.some.inj hk))); clear hg4 hb4))
      go_wp2
      go_roundw
      case rel =>
        refine ⟨j + 1, by go_num, by omega, ⟨?_, ?_⟩, HB4.out⟩
        · rw [HAP.out]; exact HG4.out
        · rw [HAP.out, apW_len (by rw [HLn.out]; omega)]; exact HLn.out
      case measure => simp [intOf]; omega
    · have hje : j = R.length := by omega
      subst hje
      have HF := HG.out.1
      rw [← prs_len, List.take_length] at HF
      have HF2 := hide HF
      clear HF
      go_wp2
      go_ret
      exact ⟨rfl, HF2.out, HB.out⟩
end Go.Proofs.Ytlidmhdcikcpkaa

