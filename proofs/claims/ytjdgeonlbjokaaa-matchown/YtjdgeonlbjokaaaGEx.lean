import Derived.Test.YtjdgeonlbjokaaaGTk
namespace Go.Proofs.Ytjdgeonlbjokaaa
open Go.RowKit Go.Maps
set_option maxRecDepth 20000
set_option linter.unusedVariables false

theorem OB.form {w : World} {base : Nat} {v : Value} {l : List Int} (h : OB w base v l) (h0 : 0 < l.length) : ∃ g c, v = .slice (some ⟨g, 0, none⟩) l.length c ∧ l.length ≤ c ∧ c ≤ 9223372036854775807 ∧ ∀ i, i < l.length → w.cell? ⟨g, i, none⟩ = some (.int .u8 (l.getD i 0)) := by
  have hc := @World.ownsRow.cells _ _ _ _ _ _ _ h
  rcases h.2 with ⟨rfl, h1⟩ | ⟨g, cap, cur, rfl, _, _, h3, h4, _, _⟩
  · omega
  · unfold maxLen at h4
    refine ⟨g, cap, rfl, h3, by omega, fun i hi => ?_⟩
    have := hc (g := g) rfl i (.int .u8 (l.getD i 0)) (by simp [hi])
    rwa [Addr.add_lit, Nat.zero_add] at this

theorem OB.top {w : World} {base : Nat} {v : Value} {l : List Int} (h : OB w base v l) : ∃ a c, v = .slice a l.length c ∧ l.length ≤ c ∧ c ≤ 9223372036854775807 := by
  rcases h.2 with ⟨rfl, h0⟩ | ⟨g, cap, cur, rfl, _, _, h3, h4, _⟩
  · exact ⟨none, 0, by rw [h0], by omega, by omega⟩
  · unfold maxLen at h4; exact ⟨_, _, rfl, h3, by omega⟩

set_option maxHeartbeats 1000000 in
theorem put_any (u : Value) (X : List Int) (a b c : Int) (w : World) (B : Nat) (h : OB w B u X) (hB : B ≤ w.heap.size) (hs : Snd (a, b, c)) (hd : b ≤ (X.length : Int)) (hl : X.length ≤ 1000000000) :
    Calls Try.prog 19 #[u, .agg #[.int .i64 a, .int .i64 b, .int .u8 c]] w fun e w' => ∃ u', e = .returned u' ∧ OB w' B u' (ptk X (a, b, c)) ∧ Below B w w' := by
  have HO := hide h
  have HB1 : Hid (Below B w (w.alloc (.cells #[.int .i64 a, .int .i64 b, .int .u8 c] 38))) := (Below.refl _ _).alloc hB _
  have HO1 : Hid (OB (w.alloc (.cells #[.int .i64 a, .int .i64 b, .int .u8 c] 38)) B u X) := h.alloc _
  obtain ⟨wb, hwb⟩ : ∃ wb, w.alloc (.cells #[.int .i64 a, .int .i64 b, .int .u8 c] 38) = wb := ⟨_, rfl⟩
  have d1 : wb.cell? ⟨w.heap.size, 0, none⟩ = some (.int .i64 a) := by rw [← hwb]; unfold World.cell?; simp only [heap_alloc_new]; rfl
  have d2 : wb.cell? ⟨w.heap.size, 1, none⟩ = some (.int .i64 b) := by rw [← hwb]; unfold World.cell?; simp only [heap_alloc_new]; rfl
  have d3 : wb.cell? ⟨w.heap.size, 2, none⟩ = some (.int .u8 c) := by rw [← hwb]; unfold World.cell?; simp only [heap_alloc_new]; rfl
  have hbs : w.heap.size < wb.heap.size := by rw [← hwb]; simp
  rw [hwb] at HB1 HO1
  clear h
  rcases snd_parts hs with ⟨h1, h2⟩ | ⟨l, d, he, h1, h2, h3, h4⟩
  · simp only at h1 h2
    subst h1
    subst h2
    have HP : Hid (ptk X (0, 0, c) = X ++ [c]) := rfl
    obtain ⟨a1, p1, hu, hq1, hq2⟩ := HO1.out.top
    subst hu
    have HALC : Hid (OB (wb.alloc (.cells #[.int .u8 c] 5)) B (.slice a1 X.length p1) X) := HO1.out.alloc _
    have HSR : Hid (Src Try.prog 1 22 (.slice (some ⟨wb.heap.size, 0, none⟩) 1 1) ([c] : List Int).length (([c] : List Int).map (Value.int .u8)) (wb.alloc (.cells #[.int .u8 c] 5))) := built_src wb [c]
    go_enter Try.func19, Try.ntmps19
    go_wp2_with (at_builtin; refine wpList_app rfl _ _ 22 rfl B (.slice a1 X.length p1) _ X [c] rfl HALC.out rfl HSR.out (by simp; omega) (by simp; omega) ?_)
    clear hwb
    intro v3 w3 ho3 hgr3
    have HN : Hid (OB w3 B v3 (ptk X (0, 0, c)) ∧ Below B w w3) := ⟨by rw [HP.out]; exact ho3, grow_byte HB1.out hB HO1.out hgr3⟩
    obtain ⟨a3, p3, rfl⟩ := ho3.shape
    clear ho3 hgr3
    go_wp2
    go_ret
    exact ⟨_, rfl, HN.out.1, HN.out.2⟩
  · simp only [Prod.mk.injEq] at he
    obtain ⟨rfl, rfl, rfl⟩ := he
    have HP : Hid (ptk X ((l : Int), (d : Int), 0) = cpy X d l) := by show _ = _; unfold ptk; rw [if_neg (by simp only; omega)]; simp
    have g0 : ((l : Int) == 0) = false := by simp; omega
    have HBB : Hid (w.heap.size < wb.heap.size) := hbs
    go_enter Try.func19, Try.ntmps19
    go_wp2
    clear hwb
    have HD1 := hide d1
    have HD2 := hide d2
    clear d1 d2 d3
    go_loopw [0, 15] (fun x i wr => ∃ k : Nat, k ≤ l ∧ i = .int .i64 k ∧ Hid (OB wr B x (cpy X d k)) ∧ Hid (Below B w wr) ∧ Hid (wr.cell? ⟨w.heap.size, 1, none⟩ = some (.int .i64 (d : Int))) ∧ Hid (w.heap.size < wr.heap.size) ∧ Hid (x.ownBlock ≠ some w.heap.size)) (fun _ i _ => l - (intOf i).toNat)
    case atStart => exact ⟨0, Nat.zero_le _, rfl, HO1.out, HB1.out, HD2.out, HBB.out, fun q => by have := (HO.out.lt _ q).2; omega⟩
    case round =>
      obtain ⟨k, hk, rfl, HX, HB, HC, HZ, HNO⟩ := hrel
      by_cases hlt : k < l
      · have hlt' : (k : Int) < (l : Int) := by omega
        obtain ⟨D, HDD⟩ : ∃ D : List Int, Hid (D = cpy X d k) := ⟨_, hide rfl⟩
        have hDl : D.length ≤ 2000000000 := by rw [HDD.out, cpy_len]; omega
        have hdD : d ≤ D.length := by rw [HDD.out, cpy_len]; omega
        have HSN : Hid (cpy X d (k + 1) = D ++ [D.getD (D.length - d) 0]) := by show _ = _; rw [HDD.out]; rfl
        rw [← HDD.out] at HX
        obtain ⟨g, p, hu, hq1, hq2, hcell⟩ := HX.out.form (by omega)
        subst hu
        have cz := hcell (D.length - d) (by omega)
        obtain ⟨m, hm⟩ : ∃ m, m = D.length - d := ⟨_, rfl⟩
        have en : ((D.length : Int) - (d : Int)).toNat = m := by omega
        have ez : (0 : Int) ≤ (D.length : Int) - (d : Int) := by omega
        have ez2 : (D.length : Int) - (d : Int) < (D.length : Int) := by omega
        rw [← hm] at cz HSN
        obtain ⟨z, HZZ⟩ : ∃ z, Hid (z = D.getD m 0) := ⟨_, rfl⟩
        rw [← HZZ.out] at cz HSN
        have cd := HC.out
        clear hcell hm
        have hBw := HB.out.size
        have HALC : Hid (OB (wr.alloc (.cells #[.int .u8 z] 5)) B (.slice (some ⟨g, 0, none⟩) D.length p) D) := HX.out.alloc _
        have HSR : Hid (Src Try.prog 1 22 (.slice (some ⟨wr.heap.size, 0, none⟩) 1 1) ([z] : List Int).length (([z] : List Int).map (Value.int .u8)) (wr.alloc (.cells #[.int .u8 z] 5))) := built_src wr [z]
        go_wp2_with (at_builtin; refine wpList_app rfl _ _ 22 rfl B (.slice (some ⟨g, 0, none⟩) D.length p) _ D [z] rfl HALC.out rfl HSR.out (by simp; omega) (by simp; omega) ?_)
        intro v3 w3 ho3 hgr3
        have HN : Hid (OB w3 B v3 (cpy X d (k + 1)) ∧ Below B w w3) := ⟨by rw [HSN.out]; exact ho3, grow_byte HB.out hB HX.out hgr3⟩
        have HC3 : Hid (w3.cell? ⟨w.heap.size, 1, none⟩ = some (.int .i64 (d : Int))) := by
          show _ = _
          have hz := HZ.out
          have e1 : w3.heap[w.heap.size]? = wr.heap[w.heap.size]? := (hgr3.by.block _ (by simp; omega) (fun q => HNO.out q.symm)).trans (Below.heap_alloc wr _ _ hz)
          have e2 := HC.out
          unfold World.cell? at e2 ⊢
          simp only at e2 ⊢
          rw [e1]
          exact e2
        have HZ3 : Hid (w.heap.size < w3.heap.size) := by
          have hz := HZ.out
          have := hgr3.by.size
          simp at this
          exact hide (by omega)
        have HNO3 : Hid (v3.ownBlock ≠ some w.heap.size) := by
          intro q
          have hz := HZ.out
          rcases hgr3.at with e | e
          · rw [e] at q; simp at q; omega
          · rw [e] at q; exact HNO.out q
        clear ho3 hgr3
        obtain ⟨a3, p3, hv3, _⟩ := HN.out.1.top
        subst hv3
        go_wp2
        go_roundw
        case rel => exact ⟨k + 1, by omega, by go_num, HN.out.1, HN.out.2, HC3, HZ3, HNO3⟩
        case measure => simp [intOf]; omega
      · obtain rfl : k = l := by omega
        have hlt' : ¬ (k : Int) < (k : Int) := by omega
        have HF : Hid (OB wr B u0 (ptk X ((k : Int), (d : Int), 0))) := by show OB _ _ _ _; rw [HP.out]; exact HX.out
        clear HX
        obtain ⟨a2, p2, hu, _⟩ := HF.out.top
        subst hu
        go_wp2
        go_ret
        exact ⟨_, rfl, HF.out, HB.out⟩
end Go.Proofs.Ytjdgeonlbjokaaa

namespace Go.Proofs.Ytjdgeonlbjokaaa
open Go.RowKit Go.Maps
set_option maxRecDepth 20000
set_option linter.unusedVariables false

/-- Expand's error and answer. -/
def xE (lim : Int) (R : List Tk) : Int := if lim < 0 ∨ 16777216 < lim then 1 else exE lim [] R
def xL (lim : Int) (R : List Tk) : List Int := if xE lim R = 0 then exT [] R else []

theorem xE_in {lim : Int} {R : List Tk} (h0 : 0 ≤ lim) (h1 : lim ≤ 16777216) : xE lim R = exE lim [] R := by unfold xE; rw [if_neg (by omega)]

theorem xL_bad {lim : Int} {R : List Tk} {e : Int} (h : xE lim R = e) (he : e ≠ 0) : xL lim R = [] := by unfold xL; rw [if_neg (by omega)]

theorem ext_le {lim : Int} {R : List Tk} (h : exE lim [] R = 0) (h0 : 0 ≤ lim) : ∀ k, k ≤ R.length → ((exT [] (R.take k)).length : Int) ≤ lim := by
  intro k
  induction k with
  | zero => intro _; simpa [exT] using h0
  | succ k ih =>
    intro hk
    obtain ⟨h1, h2⟩ := means_at h (k := k) (by omega)
    obtain ⟨s1, s2, s3⟩ := stE_zero h2
    rw [ext_at (by omega), ptk_len s1]
    omega

set_option maxHeartbeats 4000000 in
theorem expand_any (v : Value) (R : List Tk) (lim : Int) (w : World) (h : SK w v R) :
    Calls Try.prog 9 #[v, .int .i64 lim] w fun e w' => ∃ u, e = .returned (.tuple #[u, .int .i64 (xE lim R)]) ∧ OB w' w.heap.size u (xL lim R) ∧ Below w.heap.size w w' := by
  have HS := hide h
  obtain ⟨ao, cap, rfl, hlc, hcm⟩ := h.open
  clear h
  by_cases hl0 : lim < 0
  · have HE : Hid (xE lim R = 1) := by show _ = _; unfold xE; rw [if_pos (by omega)]
    have HL := hide (xL_bad HE.out (by omega))
    have g0 : decide (lim < 0) = true := decide_eq_true hl0
    go_enter Try.func9, Try.ntmps9
    go_wp2
    go_ret2
    rw [HE.out, HL.out]
    exact ⟨_, rfl, World.ownsRow_nil _ _ _ _, Below.refl _ _⟩
  · by_cases hl1 : 16777216 < lim
    · have HE : Hid (xE lim R = 1) := by show _ = _; unfold xE; rw [if_pos (by omega)]
      have HL := hide (xL_bad HE.out (by omega))
      have g0 : decide (lim < 0) = false := decide_eq_false hl0
      have g1 : decide (16777216 < lim) = true := decide_eq_true hl1
      go_enter Try.func9, Try.ntmps9
      go_wp2
      go_ret2
      rw [HE.out, HL.out]
      exact ⟨_, rfl, World.ownsRow_nil _ _ _ _, Below.refl _ _⟩
    · have HX0 : Hid (xE lim R = exE lim [] R) := xE_in (by omega) (by omega)
      go_enter Try.func9, Try.ntmps9
      go_wp2
      go_loopw [6, 17] (fun t i wr => ∃ k : Nat, k ≤ R.length ∧ i = .int .i64 k ∧ Hid (exE lim [] (R.take k) = 0) ∧ Hid (OB wr w.heap.size t (exT [] (R.take k))) ∧ Hid (((exT [] (R.take k)).length : Int) ≤ lim) ∧ Hid (Below w.heap.size w wr)) (fun _ i _ => R.length - (intOf i).toNat)
      case atStart => exact ⟨0, Nat.zero_le _, rfl, rfl, World.ownsRow_nil _ _ _ _, by show (([] : List Int).length : Int) ≤ lim; simp; omega, Below.refl _ _⟩
      case round =>
        obtain ⟨k, hk, rfl, HZ, HO, HLE, HB⟩ := hrel
        by_cases hlt : k < R.length
        · have hlt' : (k : Int) < (R.length : Int) := by omega
          obtain ⟨b, o, rfl, c1, c2, c3⟩ := HS.out.get HB.out hlt
          obtain ⟨x1, x2⟩ := exE_at hlt HZ.out
          have HAT := hide (ext_at hlt)
          obtain ⟨r, hr⟩ : ∃ r, r = R.getD k tk0 := ⟨_, rfl⟩
          rw [← hr] at c1 c2 c3 x1 x2 HAT
          obtain ⟨X, HX⟩ : ∃ X : List Int, Hid (X = exT [] (R.take k)) := ⟨_, hide rfl⟩
          rw [← HX.out] at HO HLE x1 x2 HAT
          obtain ⟨l, d, z⟩ := r
          clear hr
          simp only at c1 c2 c3
          have hXl : (X.length : Int) ≤ lim := HLE.out
          have hXl2 : X.length ≤ 16777216 := by omega
          have HB2 : Hid (Below w.heap.size w (wr.alloc (.cells #[.int .i64 l, .int .i64 d, .int .u8 z] 38))) := HB.out.alloc (HB.out.size) _
          have HO2 : Hid (OB (wr.alloc (.cells #[.int .i64 l, .int .i64 d, .int .u8 z] 38)) w.heap.size u6 X) := HO.out.alloc _
          obtain ⟨wb, hwb⟩ : ∃ wb, wr.alloc (.cells #[.int .i64 l, .int .i64 d, .int .u8 z] 38) = wb := ⟨_, rfl⟩
          have e1 : wb.cell? ⟨wr.heap.size, 0, none⟩ = some (.int .i64 l) := by rw [← hwb]; unfold World.cell?; simp only [heap_alloc_new]; rfl
          have e2 : wb.cell? ⟨wr.heap.size, 1, none⟩ = some (.int .i64 d) := by rw [← hwb]; unfold World.cell?; simp only [heap_alloc_new]; rfl
          have e3 : wb.cell? ⟨wr.heap.size, 2, none⟩ = some (.int .u8 z) := by rw [← hwb]; unfold World.cell?; simp only [heap_alloc_new]; rfl
          have hbl : wr.heap.size < wb.heap.size := by rw [← hwb]; simp
          rw [hwb] at HB2 HO2
          have HSD := hide (sound_any l d z wb)
          obtain ⟨a6, p6, hu6, hp1, hp2⟩ := HO2.out.top
          subst hu6
          have HWB := hide hwb
          have HX1 := hide x1
          have HX2 := hide x2
          have HE1 := hide e1
          have HE2 := hide e2
          have HE3 := hide e3
          clear x1 x2
          go_wp2_with fail
          refine HSD.out.mono ?_
          rintro e w2 ⟨rfl, b2⟩
          have f1 : w2.cell? ⟨wr.heap.size, 0, none⟩ = some (.int .i64 l) := (b2.cell hbl).trans HE1.out
          have f2 : w2.cell? ⟨wr.heap.size, 1, none⟩ = some (.int .i64 d) := (b2.cell hbl).trans HE2.out
          have f3 : w2.cell? ⟨wr.heap.size, 2, none⟩ = some (.int .u8 z) := (b2.cell hbl).trans HE3.out
          have HB3 := hide (HB2.out.trans (b2.mono HB2.out.size))
          have HO3 := hide (HO2.out.below b2 (Nat.le_refl _))
          clear b2 hwb e1 e2 e3 c1 c2 c3 HSD
          by_cases hs : Snd (l, d, z)
          · have HSB : Hid (sndb (l, d, z) = true) := decide_eq_true hs
            rw [HSB.out]
            by_cases hf : (X.length : Int) < d
            · have HER := hide (HX1.out (by rw [stE_91 hs hf]; omega))
              rw [stE_91 hs hf, ← HX0.out] at HER
              have HL := hide (xL_bad HER.out (by omega))
              have gf : decide ((X.length : Int) < d) = true := decide_eq_true hf
              clear HX1 HX2 hs
              go_wp2
              go_ret2
              rw [HER.out, HL.out]
              exact ⟨_, rfl, World.ownsRow_nil _ _ _ _, HB3.out⟩
            · have gf : decide ((X.length : Int) < d) = false := decide_eq_false hf
              rcases snd_parts hs with ⟨q1, q2⟩ | ⟨n, m, q, q1, q2, q3, q4⟩
              · simp only at q1 q2
                subst q1
                subst q2
                have hsays : says (0, 0, z) = 1 := rfl
                by_cases hlm : lim < (X.length : Int) + 1
                · have q92 := stE_92 hs (by simp only; omega) (show lim < (X.length : Int) + (says (0, 0, z) : Nat) by rw [hsays]; exact hlm)
                  have HER := hide (HX1.out (by rw [q92]; omega))
                  rw [q92, ← HX0.out] at HER
                  have HL := hide (xL_bad HER.out (by omega))
                  clear HX1 HX2 hs q92 hsays
                  go_wp2
                  go_ret2
                  rw [HER.out, HL.out]
                  exact ⟨_, rfl, World.ownsRow_nil _ _ _ _, HB3.out⟩
                · have HNX := hide (HX2.out (stE_mk hs (by simp only; omega) (by rw [hsays]; omega)))
                  have HPL := hide (ptk_len (x := X) hs)
                  have HPU := hide (put_any _ X 0 0 z w2 w.heap.size HO3.out (by have := HB3.out.size; omega) hs (by omega) (by omega))
                  have HLN : Hid (((exT [] (R.take (k + 1))).length : Int) ≤ lim) := by
                    show _ ≤ _
                    rw [HAT.out, HPL.out]
                    have := hsays
                    omega
                  clear HX1 HX2 hs hsays
                  go_wp2_with fail
                  refine HPU.out.mono ?_
                  rintro e w4 ⟨u4, rfl, ho4, hb4⟩
                  have HN : Hid (OB w4 w.heap.size u4 (exT [] (R.take (k + 1))) ∧ Below w.heap.size w w4) := ⟨by rw [HAT.out]; exact ho4, HB3.out.trans hb4⟩
                  clear ho4 hb4
                  go_wp2
                  go_roundw
                  case rel => exact ⟨k + 1, by omega, by go_num, HNX, HN.out.1, HLN, HN.out.2⟩
                  case measure => simp [intOf]; omega
              · simp only [Prod.mk.injEq] at q
                obtain ⟨rfl, rfl, rfl⟩ := q
                have hsays : says ((n : Int), (m : Int), 0) = n := by unfold says; simp only [Int.toNat_natCast]; omega
                by_cases hlm : lim < (X.length : Int) + (n : Int)
                · have q92 := stE_92 hs (by simp only; omega) (show lim < (X.length : Int) + (says ((n : Int), (m : Int), 0) : Nat) by rw [hsays]; exact hlm)
                  have HER := hide (HX1.out (by rw [q92]; omega))
                  rw [q92, ← HX0.out] at HER
                  have HL := hide (xL_bad HER.out (by omega))
                  clear HX1 HX2 hs q92 hsays
                  go_wp2
                  go_ret2
                  rw [HER.out, HL.out]
                  exact ⟨_, rfl, World.ownsRow_nil _ _ _ _, HB3.out⟩
                · have HNX := hide (HX2.out (stE_mk hs (by simp only; omega) (by rw [hsays]; omega)))
                  have HPL := hide (ptk_len (x := X) hs)
                  have HPU := hide (put_any _ X (n : Int) (m : Int) 0 w2 w.heap.size HO3.out (by have := HB3.out.size; omega) hs (by omega) (by omega))
                  have HLN : Hid (((exT [] (R.take (k + 1))).length : Int) ≤ lim) := by
                    show _ ≤ _
                    rw [HAT.out, HPL.out]
                    have := hsays
                    omega
                  clear HX1 HX2 hs hsays
                  go_wp2_with fail
                  refine HPU.out.mono ?_
                  rintro e w4 ⟨u4, rfl, ho4, hb4⟩
                  have HN : Hid (OB w4 w.heap.size u4 (exT [] (R.take (k + 1))) ∧ Below w.heap.size w w4) := ⟨by rw [HAT.out]; exact ho4, HB3.out.trans hb4⟩
                  clear ho4 hb4
                  go_wp2
                  go_roundw
                  case rel => exact ⟨k + 1, by omega, by go_num, HNX, HN.out.1, HLN, HN.out.2⟩
                  case measure => simp [intOf]; omega
          · have HSB : Hid (sndb (l, d, z) = false) := decide_eq_false hs
            rw [HSB.out]
            have HER := hide (HX1.out (by rw [stE_90 hs]; omega))
            rw [stE_90 hs, ← HX0.out] at HER
            have HL := hide (xL_bad HER.out (by omega))
            clear HX1 HX2 hs
            go_wp2
            go_ret2
            rw [HER.out, HL.out]
            exact ⟨_, rfl, World.ownsRow_nil _ _ _ _, HB3.out⟩
        · obtain rfl : k = R.length := by omega
          have hlt' : ¬ (R.length : Int) < (R.length : Int) := by omega
          have HE : Hid (xE lim R = 0) := by show _ = _; rw [HX0.out]; have := HZ.out; rwa [List.take_of_length_le (Nat.le_refl _)] at this
          have HF : Hid (OB wr w.heap.size u6 (xL lim R)) := by
            have := HO.out
            rw [List.take_of_length_le (Nat.le_refl _)] at this
            show OB _ _ _ _
            unfold xL
            rw [if_pos HE.out]
            exact this
          clear HO
          obtain ⟨a6, p6, hu6, hp1, hp2⟩ := HF.out.top
          subst hu6
          go_wp2
          go_ret2
          rw [HE.out]
          exact ⟨_, rfl, HF.out, HB.out⟩
end Go.Proofs.Ytjdgeonlbjokaaa

namespace Go.Proofs.Ytjdgeonlbjokaaa
open Go.RowKit Go.Maps
set_option maxRecDepth 20000
set_option linter.unusedVariables false

/-- A block that an append onto another leaves alone. -/
theorem Grew.keep {wr w3 : World} {u v3 : Value} {o : Obj} (hg : Grew (wr.alloc o) w3 u v3) {g : Nat} (hz : g < wr.heap.size) (hn : u.ownBlock ≠ some g) : w3.heap[g]? = wr.heap[g]? ∧ g < w3.heap.size ∧ v3.ownBlock ≠ some g := by
  refine ⟨(hg.by.block _ (by simp; omega) (fun q => hn q.symm)).trans (Below.heap_alloc wr _ _ hz), ?_, fun q => ?_⟩
  · have := hg.by.size
    simp at this
    omega
  · rcases hg.at with e | e
    · rw [e] at q; simp at q; omega
    · rw [e] at q; exact hn q

theorem cell_keep {w w' : World} {g i : Nat} {u : Value} (h : w'.heap[g]? = w.heap[g]?) (hc : w.cell? ⟨g, i, none⟩ = some u) : w'.cell? ⟨g, i, none⟩ = some u := by
  unfold World.cell? at hc ⊢
  simp only at hc ⊢
  rw [h]
  exact hc

end Go.Proofs.Ytjdgeonlbjokaaa

namespace Go.Proofs.Ytjdgeonlbjokaaa
open Go.RowKit Go.Maps
set_option maxRecDepth 20000
set_option linter.unusedVariables false
set_option linter.unusedSimpArgs false

theorem list3 {α : Type} {l : List α} (h : l.length = 3) : ∃ a b c, l = [a, b, c] := by
  match l, h with
  | [a, b, c], _ => exact ⟨a, b, c, rfl⟩

theorem tok_st : Try.prog.underlying 38 = some (.struct (Try.prog.fieldsOf 38)) := by kernel_rfl
theorem tok_held : Try.prog.stoodInHeld 38 = false := by kernel_rfl
theorem tok_guard : Try.prog.eqGuardType Try.prog.depth 38 = false := by kernel_rfl
theorem tok_fields : (Try.prog.fieldsOf 38).toList.map (fun f => (decide (f.name ≠ "_"), f.type, f.offset)) = [(true, 3, 0), (true, 3, 1), (true, 5, 2)] := by kernel_rfl

theorem tk_eq (w : World) (a b c d e f : Int) : (Op.equalIn 10000 38 (.agg #[.int .i64 a, .int .i64 b, .int .u8 c]) (.agg #[.int .i64 d, .int .i64 e, .int .u8 f])).run Try.prog w = .ok (a == d && (b == e && c == f)) w := by
  rw [run_equalIn_struct w 9999 38 _ _ tok_st tok_held]
  have hf := tok_fields
  obtain ⟨f1, f2, f3, hfg⟩ := list3 (l := (Try.prog.fieldsOf 38).toList) (by have := congrArg List.length hf; simpa using this)
  rw [hfg] at hf ⊢
  · simp only [List.map_cons, List.map_nil, List.cons.injEq, Prod.mk.injEq, decide_eq_true_eq, and_true] at hf
    obtain ⟨⟨n1, t1, o1⟩, ⟨n2, t2, o2⟩, n3, t3, o3⟩ := hf
    simp only [Op.eqFields, if_pos n1, if_pos n2, if_pos n3, t1, t2, t3, o1, o2, o3]
    have p1 : ∀ x y z : Int, (part 3 #[.int .i64 x, .int .i64 y, .int .u8 z] 0).run Try.prog w = .ok (.int .i64 x) w := fun x y z => by kernel_rfl
    have p2 : ∀ x y z : Int, (part 3 #[.int .i64 x, .int .i64 y, .int .u8 z] 1).run Try.prog w = .ok (.int .i64 y) w := fun x y z => by kernel_rfl
    have p3 : ∀ x y z : Int, (part 5 #[.int .i64 x, .int .i64 y, .int .u8 z] 2).run Try.prog w = .ok (.int .u8 z) w := fun x y z => by kernel_rfl
    have q : ∀ x y : Int, (Op.equalIn 9999 3 (.int .i64 x) (.int .i64 y)).run Try.prog w = .ok (x == y) w := fun x y => run_equalIn_int w 9998 3 .i64 .i64 x y Try.underlying3
    have q8 : ∀ x y : Int, (Op.equalIn 9999 5 (.int .u8 x) (.int .u8 y)).run Try.prog w = .ok (x == y) w := fun x y => run_equalIn_int w 9998 5 .u8 .u8 x y Try.underlying5
    simp only [Sem.run_bind, p1, p2, p3, q, q8, Result.andThen_ok]
    by_cases e1 : a = d
    · subst e1
      by_cases e2 : b = e
      · subst e2
        by_cases e3 : c = f
        · subst e3; simp [p1, p2, p3, q, q8]
        · simp [p1, p2, p3, q, q8, e3]
      · simp [p1, p2, p3, q, q8, e2]
    · simp [e1]

theorem tk_neq (w : World) (a b c d e f : Int) : (binOp .neq 38 (.agg #[.int .i64 a, .int .i64 b, .int .u8 c]) (.agg #[.int .i64 d, .int .i64 e, .int .u8 f])).run Try.prog w = .ok (.bool (!(a == d && (b == e && c == f)))) w := by
  rw [run_neq_struct, tk_eq]; rfl
theorem tk_eql (w : World) (a b c d e f : Int) : (binOp .eql 38 (.agg #[.int .i64 a, .int .i64 b, .int .u8 c]) (.agg #[.int .i64 d, .int .i64 e, .int .u8 f])).run Try.prog w = .ok (.bool (a == d && (b == e && c == f))) w := by
  rw [run_eql_struct, tk_eq]; rfl

def eqK (l1 l2 : List Tk) : Bool := decide (l1 = l2)
theorem eqK_self (l : List Tk) : eqK l l = true := by simp [eqK]
theorem eqB_self (l : List Int) : eqB l l = true := by simp [eqB]

theorem ktake_step {l1 l2 : List Tk} {k : Nat} (h1 : k < l1.length) (hl : l1.length = l2.length) (ht : l1.take k = l2.take k) :
    (l1.getD k tk0 = l2.getD k tk0 → l1.take (k + 1) = l2.take (k + 1)) ∧ (l1.getD k tk0 ≠ l2.getD k tk0 → l1 ≠ l2) := by
  refine ⟨fun h => ?_, fun h e => h (by rw [e])⟩
  rw [tk_snoc h1, tk_snoc (by omega), ht, h]

theorem alike_any (v1 v2 : Value) (l1 l2 : List Tk) (w : World) (h1 : SK w v1 l1) (h2 : SK w v2 l2) :
    Calls Try.prog 11 #[v1, v2] w fun e w' => e = .returned (.bool (eqK l1 l2)) ∧ ∃ n, w' = w.drewN n := by
  have H1 := hide h1
  have H2 := hide h2
  obtain ⟨ao1, cap1, rfl, hlc1, hcm1⟩ := h1.open
  obtain ⟨ao2, cap2, rfl, hlc2, hcm2⟩ := h2.open
  clear h1 h2
  by_cases hne : l1.length = l2.length
  case neg =>
    have hd : ((l1.length : Int) == l2.length) = false := by simp; omega
    have hd' : ((l1.length : Int) != l2.length) = true := by simp; omega
    have HE : Hid (eqK l1 l2 = false) := by show _ = _; simp [eqK]; intro h; exact hne (by rw [h])
    clear hne
    go_enter Try.func11, Try.ntmps11
    go_wp2
    go_ret
    rw [HE.out]
    exact ⟨rfl, 0, rfl⟩
  case pos =>
    have hd' : ((l1.length : Int) != l2.length) = false := by simp; omega
    have HNE : Hid (l1.length = l2.length) := hne
    clear hne
    go_enter Try.func11, Try.ntmps11
    go_wp2
    go_loopw [5] (fun i wr => ∃ k n : Nat, k ≤ l1.length ∧ i = .int .i64 k ∧ wr = w.drewN n ∧ Hid (l1.take k = l2.take k)) (fun i _ => l1.length - (intOf i).toNat)
    case atStart => exact ⟨0, 0, Nat.zero_le _, rfl, rfl, rfl⟩
    case round =>
      obtain ⟨k, n, hk, rfl, hw, HT⟩ := hrel
      subst hw
      by_cases hlt : k < l1.length
      · have hlt' : (k : Int) < (l1.length : Int) := by omega
        have hlt2 : (k : Int) < (l2.length : Int) := by have := HNE.out; omega
        obtain ⟨b1, o1, rfl, c1, c2, c3⟩ := H1.out.get (w := w.drewN n) (below_drewN (Below.refl _ _) n) hlt
        obtain ⟨b2, o2, rfl, d1, d2, d3⟩ := H2.out.get (w := w.drewN n) (below_drewN (Below.refl _ _) n) (k := k) (by have := HNE.out; omega)
        have HK := hide (ktake_step (k := k) hlt HNE.out HT.out)
        obtain ⟨x, hx⟩ : ∃ x, x = l1.getD k tk0 := ⟨_, rfl⟩
        obtain ⟨y, hy⟩ : ∃ y, y = l2.getD k tk0 := ⟨_, rfl⟩
        rw [← hx] at c1 c2 c3 HK
        rw [← hy] at d1 d2 d3 HK
        clear hx hy
        obtain ⟨xa, xb, xc⟩ := x
        obtain ⟨ya, yb, yc⟩ := y
        simp only at c1 c2 c3 d1 d2 d3
        have c1w : w.cell? ⟨b1, o1 + k * 3, none⟩ = some (.int .i64 xa) := c1
        have c2w : w.cell? ⟨b1, o1 + k * 3 + 1, none⟩ = some (.int .i64 xb) := c2
        have c3w : w.cell? ⟨b1, o1 + k * 3 + 2, none⟩ = some (.int .u8 xc) := c3
        have d1w : w.cell? ⟨b2, o2 + k * 3, none⟩ = some (.int .i64 ya) := d1
        have d2w : w.cell? ⟨b2, o2 + k * 3 + 1, none⟩ = some (.int .i64 yb) := d2
        have d3w : w.cell? ⟨b2, o2 + k * 3 + 2, none⟩ = some (.int .u8 yc) := d3
        have hnq := fun W => tk_neq W xa xb xc ya yb yc
        have hgd := tok_guard
        by_cases hcc : xa = ya ∧ xb = yb ∧ xc = yc
        · have hb : (!(xa == ya && (xb == yb && xc == yc))) = false := by simp [hcc.1, hcc.2.1, hcc.2.2]
          have HK2 := hide (HK.out.1 (by rw [hcc.1, hcc.2.1, hcc.2.2]))
          rw [hb] at hnq
          clear hcc HK
          go_wp2
          go_quiet (fail)
          go_wp2
          go_roundw
          case rel => exact ⟨k + 1, _, by omega, by go_num, by (try simp only [World.drewN_drewN]); rfl, HK2⟩
          case measure => simp [intOf]; omega
        · have hb : (!(xa == ya && (xb == yb && xc == yc))) = true := by
            simp only [Bool.not_eq_true', Bool.and_eq_false_iff, beq_eq_false_iff_ne]
            by_cases q : xa = ya
            · by_cases q2 : xb = yb
              · exact .inr (.inr (fun e => hcc ⟨q, q2, e⟩))
              · exact .inr (.inl q2)
            · exact .inl q
          have HX : Hid (eqK l1 l2 = false) := by show _ = _; simp only [eqK, decide_eq_false_iff_not]; exact HK.out.2 (fun e => hcc (by simpa using e))
          rw [hb] at hnq
          clear hcc HK
          go_wp2
          go_quiet (fail)
          go_wp2
          go_ret
          rw [HX.out]
          exact ⟨rfl, _, by (try simp only [World.drewN_drewN]); rfl⟩
      · obtain rfl : k = l1.length := by omega
        have hlt' : ¬ (l1.length : Int) < (l1.length : Int) := by omega
        have HX : Hid (eqK l1 l2 = true) := by
          show _ = _
          have := HT.out
          rw [List.take_of_length_le (Nat.le_refl _), List.take_of_length_le (by rw [← HNE.out]; exact Nat.le_refl _)] at this
          simp [eqK, this]
        go_wp2
        go_ret
        rw [HX.out]
        exact ⟨rfl, n, rfl⟩

theorem infoTok2 : (Try.prog.info? 38).map (·.size) = some 3 := by kernel_rfl

/-- Two more tokens. -/
theorem wpTok2 {w : World} {ops : Array Oper} {rest : List Oper} {o : Oper} {a : Act} {Q : Exit → Act → World → Prop} (hgd : o.guard = none) (s x : Operand)
    (ho : o.op = .call { callee := .builtin .append, args := #[s, x], argTypes := #[26, 26] }) (base : Nat) (v : Value) (R : List Tk) (p1 p2 p3 q1 q2 q3 : Int) (hs : a.eval s = v) (hown : OK w base v R)
    (c : Nat) (hx : a.eval x = .slice (some ⟨w.heap.size, 0, none⟩) 2 c) (hn : R.length ≤ 5864062014800) (hbase : base ≤ w.heap.size)
    (h : ∀ v' w', OK w' base v' (R ++ [(p1, p2, p3), (q1, q2, q3)]) → (w.alloc (.cells #[.int .i64 p1, .int .i64 p2, .int .u8 p3, .int .i64 q1, .int .i64 q2, .int .u8 q3] 38)).grownBy w' v.ownBlock → wpList Try.prog ops Q rest (a.put o.dst v') w') :
    wpList Try.prog ops Q (o :: rest) a (w.alloc (.cells #[.int .i64 p1, .int .i64 p2, .int .u8 p3, .int .i64 q1, .int .i64 q2, .int .u8 q3] 38)) := by
  obtain ⟨i0, hi0, hz0, hz1, hz2⟩ := info_parts infoTok
  refine wpList_append_own_at _ hgd s x 26 ho base 38 i0 _ 3 24 Try.underlying26 hi0 hz0 hz1 hz2 rfl (by omega) v R.length (fr3 R) hs (hown.alloc _) ⟨w.heap.size, 0, none⟩ 2 c [.int .i64 p1, .int .i64 p2, .int .u8 p3, .int .i64 q1, .int .i64 q2, .int .u8 q3] hx rfl (World.news_of_block (cs := #[.int .i64 p1, .int .i64 p2, .int .u8 p3, .int .i64 q1, .int .i64 q2, .int .u8 q3]) (t := 38) (fr := (0, 0)) (heap_alloc_new w _))
    (fun u hu => by
      simp only [List.mem_cons, List.not_mem_nil, or_false] at hu
      rcases hu with rfl | rfl | rfl | rfl | rfl | rfl <;> rfl) (by unfold maxLen; omega) (by omega) (by simp; omega) fun v' w' h1 h2 _ _ => h v' w' ?_ h2
  show World.ownsRow _ _ _ _ _ _ _
  rw [List.length_append, fr3_app]
  exact h1

end Go.Proofs.Ytjdgeonlbjokaaa

