import Derived.Test.YtfoglaajnlbnbaaGreatDoorG00Tkw
import Derived.Lib.SmallJoins
import Derived.Deep.Slices
namespace Go.Proofs.YtfoglaajnlbnbaaGreatDoor
open Go.RowKit Go.Maps
set_option maxRecDepth 20000
set_option linter.unusedVariables false

theorem sound_any9 (a b c : Int) (w : World) : Calls Tryz.prog 25 #[.agg #[.int .i64 a, .int .i64 b, .int .u8 c]] w fun e w' => e = .returned (.bool (sndb (a, b, c))) ∧ Below w.heap.size w w' := by
  have HB : Hid (∀ q, Below w.heap.size w ((w.alloc (.cells #[.int .i64 a, .int .i64 b, .int .u8 c] 54)).drewN q)) := fun q => below_drewN ((Below.refl _ _).alloc (Nat.le_refl _) _) q
  obtain ⟨wb, hwb⟩ : ∃ wb, w.alloc (.cells #[.int .i64 a, .int .i64 b, .int .u8 c] 54) = wb := ⟨_, rfl⟩
  have d1 : wb.cell? ⟨w.heap.size, 0, none⟩ = some (.int .i64 a) := by rw [← hwb]; unfold World.cell?; simp only [heap_alloc_new]; rfl
  have d2 : wb.cell? ⟨w.heap.size, 1, none⟩ = some (.int .i64 b) := by rw [← hwb]; unfold World.cell?; simp only [heap_alloc_new]; rfl
  have d3 : wb.cell? ⟨w.heap.size, 2, none⟩ = some (.int .u8 c) := by rw [← hwb]; unfold World.cell?; simp only [heap_alloc_new]; rfl
  rw [hwb] at HB
  by_cases h0 : a = 0
  · have HE : Hid (sndb (a, b, c) = decide (b = 0)) := by show _ = _; unfold sndb Snd; simp [h0]
    have g0 : (a == 0) = true := by simpa using h0
    by_cases hb : b = 0
    · have g1 : (b == 0) = true := by simpa using hb
      have HE2 : Hid (sndb (a, b, c) = true) := by show _ = _; rw [HE.out]; simpa using hb
      clear HE h0 hb
      go_enter Tryz.func25, Tryz.ntmps25
      go_wp2
      go_ret
      rw [HE2.out]
      exact ⟨rfl, HB.out 0⟩
    · have g1 : (b == 0) = false := by simpa using hb
      have HE2 : Hid (sndb (a, b, c) = false) := by show _ = _; rw [HE.out]; simpa using hb
      clear HE h0 hb
      go_enter Tryz.func25, Tryz.ntmps25
      go_wp2
      go_ret
      rw [HE2.out]
      exact ⟨rfl, HB.out 0⟩
  · have g0 : (a == 0) = false := by simpa using h0
    have HE : Hid (sndb (a, b, c) = decide (3 ≤ a ∧ a ≤ 258 ∧ 1 ≤ b ∧ b ≤ 32768 ∧ c = 0)) := by show _ = _; unfold sndb Snd; simp [h0]
    by_cases h1 : 3 ≤ a
    · by_cases h2 : a ≤ 258
      · by_cases h3 : 1 ≤ b
        · by_cases h4 : b ≤ 32768
          · by_cases h5 : c = 0
            · have g1 : decide (3 ≤ a) = true := decide_eq_true h1
              have g2 : decide (a ≤ 258) = true := decide_eq_true h2
              have g3 : decide (1 ≤ b) = true := decide_eq_true h3
              have g4 : decide (b ≤ 32768) = true := decide_eq_true h4
              have g5 : (c == 0) = true := by simpa using h5
              have HE2 : Hid (sndb (a, b, c) = true) := by show _ = _; rw [HE.out]; exact decide_eq_true ⟨h1, h2, h3, h4, h5⟩
              clear HE h0 h1 h2 h3 h4 h5
              go_enter Tryz.func25, Tryz.ntmps25
              go_wp2
              go_ret
              rw [HE2.out]
              exact ⟨rfl, HB.out 0⟩
            · have g1 : decide (3 ≤ a) = true := decide_eq_true h1
              have g2 : decide (a ≤ 258) = true := decide_eq_true h2
              have g3 : decide (1 ≤ b) = true := decide_eq_true h3
              have g4 : decide (b ≤ 32768) = true := decide_eq_true h4
              have g5 : (c == 0) = false := by simpa using h5
              have HE2 : Hid (sndb (a, b, c) = false) := by show _ = _; rw [HE.out]; exact decide_eq_false (fun q => h5 q.2.2.2.2)
              clear HE h0 h1 h2 h3 h4 h5
              go_enter Tryz.func25, Tryz.ntmps25
              go_wp2
              go_ret
              rw [HE2.out]
              exact ⟨rfl, HB.out 0⟩
          · have g1 : decide (3 ≤ a) = true := decide_eq_true h1
            have g2 : decide (a ≤ 258) = true := decide_eq_true h2
            have g3 : decide (1 ≤ b) = true := decide_eq_true h3
            have g4 : decide (b ≤ 32768) = false := decide_eq_false h4
            have HE2 : Hid (sndb (a, b, c) = false) := by show _ = _; rw [HE.out]; exact decide_eq_false (fun q => h4 q.2.2.2.1)
            clear HE h0 h1 h2 h3 h4
            go_enter Tryz.func25, Tryz.ntmps25
            go_wp2
            go_ret
            rw [HE2.out]
            exact ⟨rfl, HB.out 0⟩
        · have g1 : decide (3 ≤ a) = true := decide_eq_true h1
          have g2 : decide (a ≤ 258) = true := decide_eq_true h2
          have g3 : decide (1 ≤ b) = false := decide_eq_false h3
          have HE2 : Hid (sndb (a, b, c) = false) := by show _ = _; rw [HE.out]; exact decide_eq_false (fun q => h3 q.2.2.1)
          clear HE h0 h1 h2 h3
          go_enter Tryz.func25, Tryz.ntmps25
          go_wp2
          go_ret
          rw [HE2.out]
          exact ⟨rfl, HB.out 0⟩
      · have g1 : decide (3 ≤ a) = true := decide_eq_true h1
        have g2 : decide (a ≤ 258) = false := decide_eq_false h2
        have HE2 : Hid (sndb (a, b, c) = false) := by show _ = _; rw [HE.out]; exact decide_eq_false (fun q => h2 q.2.1)
        clear HE h0 h1 h2
        go_enter Tryz.func25, Tryz.ntmps25
        go_wp2
        go_ret
        rw [HE2.out]
        exact ⟨rfl, HB.out 0⟩
    · have g1 : decide (3 ≤ a) = false := decide_eq_false h1
      have HE2 : Hid (sndb (a, b, c) = false) := by show _ = _; rw [HE.out]; exact decide_eq_false (fun q => h1 q.1)
      clear HE h0 h1
      go_enter Tryz.func25, Tryz.ntmps25
      go_wp2
      go_ret
      rw [HE2.out]
      exact ⟨rfl, HB.out 0⟩

end Go.Proofs.YtfoglaajnlbnbaaGreatDoor

namespace Go.Proofs.YtfoglaajnlbnbaaGreatDoor
open Go.RowKit Go.Maps
set_option maxRecDepth 20000
set_option linter.unusedVariables false

theorem OB.form {w : World} {base : Nat} {v : Value} {l : List Int} (h : OB w base v l) (h0 : 0 < l.length) : ∃ g c, v = .slice (some ⟨g, 0, none⟩) l.length c ∧ l.length ≤ c ∧ c ≤ 9223372036854775807 ∧ ∀ i, i < l.length → w.cell? ⟨g, i, none⟩ = some (.int .u8 (l.getD i 0)) := by
  have hc := @World.ownsRow.cells _ _ _ _ _ _ _ h
  rcases h.2 with ⟨rfl, h1⟩ | ⟨g, cap, cur, rfl, _, _, h3, h4, _, _⟩
  · omega
  · unfold maxLen at h4
    refine ⟨g, cap, rfl, h3, by omega, fun i hi => ?_⟩
    have := hc (g := g) rfl i (.int .u8 (l.getD i 0)) (by simp [hi])
    rwa [Addr.add_lit, Nat.zero_add] at this

theorem OB.top {w : World} {base : Nat} {v : Value} {l : List Int} (h : OB w base v l) : ∃ a c, v = .slice a l.length c ∧ l.length ≤ c ∧ c ≤ 9223372036854775807 := by
  rcases h.2 with ⟨rfl, h0⟩ | ⟨g, cap, cur, rfl, _, _, h3, h4, _⟩
  · exact ⟨none, 0, by rw [h0], by omega, by omega⟩
  · unfold maxLen at h4; exact ⟨_, _, rfl, h3, by omega⟩

set_option maxHeartbeats 1000000 in
theorem put_any9 (u : Value) (X : List Int) (a b c : Int) (w : World) (B : Nat) (h : OB w B u X) (hB : B ≤ w.heap.size) (hs : Snd (a, b, c)) (hd : b ≤ (X.length : Int)) (hl : X.length ≤ 1000000000) :
    Calls Tryz.prog 26 #[u, .agg #[.int .i64 a, .int .i64 b, .int .u8 c]] w fun e w' => ∃ u', e = .returned u' ∧ OB w' B u' (ptk X (a, b, c)) ∧ Below B w w' := by
  have HO := hide h
  have HB1 : Hid (Below B w (w.alloc (.cells #[.int .i64 a, .int .i64 b, .int .u8 c] 54))) := (Below.refl _ _).alloc hB _
  have HO1 : Hid (OB (w.alloc (.cells #[.int .i64 a, .int .i64 b, .int .u8 c] 54)) B u X) := h.alloc _
  obtain ⟨wb, hwb⟩ : ∃ wb, w.alloc (.cells #[.int .i64 a, .int .i64 b, .int .u8 c] 54) = wb := ⟨_, rfl⟩
  have d1 : wb.cell? ⟨w.heap.size, 0, none⟩ = some (.int .i64 a) := by rw [← hwb]; unfold World.cell?; simp only [heap_alloc_new]; rfl
  have d2 : wb.cell? ⟨w.heap.size, 1, none⟩ = some (.int .i64 b) := by rw [← hwb]; unfold World.cell?; simp only [heap_alloc_new]; rfl
  have d3 : wb.cell? ⟨w.heap.size, 2, none⟩ = some (.int .u8 c) := by rw [← hwb]; unfold World.cell?; simp only [heap_alloc_new]; rfl
  have hbs : w.heap.size < wb.heap.size := by rw [← hwb]; simp
  rw [hwb] at HB1 HO1
  clear h
  rcases snd_parts hs with ⟨h1, h2⟩ | ⟨l, d, he, h1, h2, h3, h4⟩
  · simp only at h1 h2
    subst h1
    subst h2
    have HP : Hid (ptk X (0, 0, c) = X ++ [c]) := rfl
    obtain ⟨a1, p1, hu, hq1, hq2⟩ := HO1.out.top
    subst hu
    have HALC : Hid (OB (wb.alloc (.cells #[.int .u8 c] 5)) B (.slice a1 X.length p1) X) := HO1.out.alloc _
    have HSR : Hid (Src Tryz.prog 1 28 (.slice (some ⟨wb.heap.size, 0, none⟩) 1 1) ([c] : List Int).length (([c] : List Int).map (Value.int .u8)) (wb.alloc (.cells #[.int .u8 c] 5))) := built_src wb [c]
    go_enter Tryz.func26, Tryz.ntmps26
    go_wp2_with (at_builtin; refine wpList_app rfl _ _ 28 rfl B (.slice a1 X.length p1) _ X [c] rfl HALC.out rfl HSR.out (by simp; omega) (by simp; omega) ?_)
    clear hwb
    intro v3 w3 ho3 hgr3
    have HN : Hid (OB w3 B v3 (ptk X (0, 0, c)) ∧ Below B w w3) := ⟨by rw [HP.out]; exact ho3, grow_byte HB1.out hB HO1.out hgr3⟩
    obtain ⟨a3, p3, rfl⟩ := ho3.shape
    clear ho3 hgr3
    go_wp2
    go_ret
    exact ⟨_, rfl, HN.out.1, HN.out.2⟩
  · simp only [Prod.mk.injEq] at he
    obtain ⟨rfl, rfl, rfl⟩ := he
    have HP : Hid (ptk X ((l : Int), (d : Int), 0) = cpy X d l) := by show _ = _; unfold ptk; rw [if_neg (by simp only; omega)]; simp
    have g0 : ((l : Int) == 0) = false := by simp; omega
    have HBB : Hid (w.heap.size < wb.heap.size) := hbs
    go_enter Tryz.func26, Tryz.ntmps26
    go_wp2
    clear hwb
    have HD1 := hide d1
    have HD2 := hide d2
    clear d1 d2 d3
    go_loopw [0, 15] (fun x i wr => ∃ k : Nat, k ≤ l ∧ i = .int .i64 k ∧ Hid (OB wr B x (cpy X d k)) ∧ Hid (Below B w wr) ∧ Hid (wr.cell? ⟨w.heap.size, 1, none⟩ = some (.int .i64 (d : Int))) ∧ Hid (w.heap.size < wr.heap.size) ∧ Hid (x.ownBlock ≠ some w.heap.size)) (fun _ i _ => l - (intOf i).toNat)
    case atStart => exact ⟨0, Nat.zero_le _, rfl, HO1.out, HB1.out, HD2.out, HBB.out, fun q => by have := (HO.out.lt _ q).2; omega⟩
    case round =>
      obtain ⟨k, hk, rfl, HX, HB, HC, HZ, HNO⟩ := hrel
      by_cases hlt : k < l
      · have hlt' : (k : Int) < (l : Int) := by omega
        obtain ⟨D, HDD⟩ : ∃ D : List Int, Hid (D = cpy X d k) := ⟨_, hide rfl⟩
        have hDl : D.length ≤ 2000000000 := by rw [HDD.out, cpy_len]; omega
        have hdD : d ≤ D.length := by rw [HDD.out, cpy_len]; omega
        have HSN : Hid (cpy X d (k + 1) = D ++ [D.getD (D.length - d) 0]) := by show _ = _; rw [HDD.out]; rfl
        rw [← HDD.out] at HX
        obtain ⟨g, p, hu, hq1, hq2, hcell⟩ := HX.out.form (by omega)
        subst hu
        have cz := hcell (D.length - d) (by omega)
        obtain ⟨m, hm⟩ : ∃ m, m = D.length - d := ⟨_, rfl⟩
        have en : ((D.length : Int) - (d : Int)).toNat = m := by omega
        have ez : (0 : Int) ≤ (D.length : Int) - (d : Int) := by omega
        have ez2 : (D.length : Int) - (d : Int) < (D.length : Int) := by omega
        rw [← hm] at cz HSN
        obtain ⟨z, HZZ⟩ : ∃ z, Hid (z = D.getD m 0) := ⟨_, rfl⟩
        rw [← HZZ.out] at cz HSN
        have cd := HC.out
        clear hcell hm
        have hBw := HB.out.size
        have HALC : Hid (OB (wr.alloc (.cells #[.int .u8 z] 5)) B (.slice (some ⟨g, 0, none⟩) D.length p) D) := HX.out.alloc _
        have HSR : Hid (Src Tryz.prog 1 28 (.slice (some ⟨wr.heap.size, 0, none⟩) 1 1) ([z] : List Int).length (([z] : List Int).map (Value.int .u8)) (wr.alloc (.cells #[.int .u8 z] 5))) := built_src wr [z]
        go_wp2_with (at_builtin; refine wpList_app rfl _ _ 28 rfl B (.slice (some ⟨g, 0, none⟩) D.length p) _ D [z] rfl HALC.out rfl HSR.out (by simp; omega) (by simp; omega) ?_)
        intro v3 w3 ho3 hgr3
        have HN : Hid (OB w3 B v3 (cpy X d (k + 1)) ∧ Below B w w3) := ⟨by rw [HSN.out]; exact ho3, grow_byte HB.out hB HX.out hgr3⟩
        have HC3 : Hid (w3.cell? ⟨w.heap.size, 1, none⟩ = some (.int .i64 (d : Int))) := by
          show _ = _
          have hz := HZ.out
          have e1 : w3.heap[w.heap.size]? = wr.heap[w.heap.size]? := (hgr3.by.block _ (by simp; omega) (fun q => HNO.out q.symm)).trans (Below.heap_alloc wr _ _ hz)
          have e2 := HC.out
          unfold World.cell? at e2 ⊢
          simp only at e2 ⊢
          rw [e1]
          exact e2
        have HZ3 : Hid (w.heap.size < w3.heap.size) := by
          have hz := HZ.out
          have := hgr3.by.size
          simp at this
          exact hide (by omega)
        have HNO3 : Hid (v3.ownBlock ≠ some w.heap.size) := by
          intro q
          have hz := HZ.out
          rcases hgr3.at with e | e
          · rw [e] at q; simp at q; omega
          · rw [e] at q; exact HNO.out q
        clear ho3 hgr3
        obtain ⟨a3, p3, hv3, _⟩ := HN.out.1.top
        subst hv3
        go_wp2
        go_roundw
        case rel => exact ⟨k + 1, by omega, by go_num, HN.out.1, HN.out.2, HC3, HZ3, HNO3⟩
        case measure => simp [intOf]; omega
      · obtain rfl : k = l := by omega
        have hlt' : ¬ (k : Int) < (k : Int) := by omega
        have HF : Hid (OB wr B u0 (ptk X ((k : Int), (d : Int), 0))) := by show OB _ _ _ _; rw [HP.out]; exact HX.out
        clear HX
        obtain ⟨a2, p2, hu, _⟩ := HF.out.top
        subst hu
        go_wp2
        go_ret
        exact ⟨_, rfl, HF.out, HB.out⟩
end Go.Proofs.YtfoglaajnlbnbaaGreatDoor

namespace Go.Proofs.YtfoglaajnlbnbaaGreatDoor
open Go.RowKit Go.Maps
set_option maxRecDepth 20000
set_option linter.unusedVariables false

def xE (lim : Int) (R : List Tk) : Int := if lim < 0 ∨ 16777216 < lim then 1 else exE lim [] R
def xL (lim : Int) (R : List Tk) : List Int := if xE lim R = 0 then exT [] R else []

theorem xE_in {lim : Int} {R : List Tk} (h0 : 0 ≤ lim) (h1 : lim ≤ 16777216) : xE lim R = exE lim [] R := by unfold xE; rw [if_neg (by omega)]

theorem xL_bad {lim : Int} {R : List Tk} {e : Int} (h : xE lim R = e) (he : e ≠ 0) : xL lim R = [] := by unfold xL; rw [if_neg (by omega)]

set_option maxHeartbeats 4000000 in
theorem expand_any (v : Value) (R : List Tk) (lim : Int) (w : World) (h : SK w v R) :
    Calls Tryz.prog 6 #[v, .int .i64 lim] w fun e w' => ∃ u, e = .returned (.tuple #[u, .int .i64 (xE lim R)]) ∧ OB w' w.heap.size u (xL lim R) ∧ Below w.heap.size w w' := by
  have HS := hide h
  obtain ⟨ao, cap, rfl, hlc, hcm⟩ := h.open
  clear h
  by_cases hl0 : lim < 0
  · have HE : Hid (xE lim R = 1) := by show _ = _; unfold xE; rw [if_pos (by omega)]
    have HL := hide (xL_bad HE.out (by omega))
    have g0 : decide (lim < 0) = true := decide_eq_true hl0
    go_enter Tryz.func6, Tryz.ntmps6
    go_wp2
    go_ret2
    rw [HE.out, HL.out]
    exact ⟨_, rfl, World.ownsRow_nil _ _ _ _, Below.refl _ _⟩
  · by_cases hl1 : 16777216 < lim
    · have HE : Hid (xE lim R = 1) := by show _ = _; unfold xE; rw [if_pos (by omega)]
      have HL := hide (xL_bad HE.out (by omega))
      have g0 : decide (lim < 0) = false := decide_eq_false hl0
      have g1 : decide (16777216 < lim) = true := decide_eq_true hl1
      go_enter Tryz.func6, Tryz.ntmps6
      go_wp2
      go_ret2
      rw [HE.out, HL.out]
      exact ⟨_, rfl, World.ownsRow_nil _ _ _ _, Below.refl _ _⟩
    · have HX0 : Hid (xE lim R = exE lim [] R) := xE_in (by omega) (by omega)
      go_enter Tryz.func6, Tryz.ntmps6
      go_wp2
      go_loopw [6, 17] (fun t i wr => ∃ k : Nat, k ≤ R.length ∧ i = .int .i64 k ∧ Hid (exE lim [] (R.take k) = 0) ∧ Hid (OB wr w.heap.size t (exT [] (R.take k))) ∧ Hid (((exT [] (R.take k)).length : Int) ≤ lim) ∧ Hid (Below w.heap.size w wr)) (fun _ i _ => R.length - (intOf i).toNat)
      case atStart => exact ⟨0, Nat.zero_le _, rfl, rfl, World.ownsRow_nil _ _ _ _, by show (([] : List Int).length : Int) ≤ lim; simp; omega, Below.refl _ _⟩
      case round =>
        obtain ⟨k, hk, rfl, HZ, HO, HLE, HB⟩ := hrel
        by_cases hlt : k < R.length
        · have hlt' : (k : Int) < (R.length : Int) := by omega
          obtain ⟨b, o, rfl, c1, c2, c3⟩ := HS.out.get HB.out hlt
          obtain ⟨x1, x2⟩ := exE_at hlt HZ.out
          have HAT := hide (ext_at hlt)
          obtain ⟨r, hr⟩ : ∃ r, r = R.getD k tk0 := ⟨_, rfl⟩
          rw [← hr] at c1 c2 c3 x1 x2 HAT
          obtain ⟨X, HX⟩ : ∃ X : List Int, Hid (X = exT [] (R.take k)) := ⟨_, hide rfl⟩
          rw [← HX.out] at HO HLE x1 x2 HAT
          obtain ⟨l, d, z⟩ := r
          clear hr
          simp only at c1 c2 c3
          have hXl : (X.length : Int) ≤ lim := HLE.out
          have hXl2 : X.length ≤ 16777216 := by omega
          have HB2 : Hid (Below w.heap.size w (wr.alloc (.cells #[.int .i64 l, .int .i64 d, .int .u8 z] 54))) := HB.out.alloc (HB.out.size) _
          have HO2 : Hid (OB (wr.alloc (.cells #[.int .i64 l, .int .i64 d, .int .u8 z] 54)) w.heap.size u6 X) := HO.out.alloc _
          obtain ⟨wb, hwb⟩ : ∃ wb, wr.alloc (.cells #[.int .i64 l, .int .i64 d, .int .u8 z] 54) = wb := ⟨_, rfl⟩
          have e1 : wb.cell? ⟨wr.heap.size, 0, none⟩ = some (.int .i64 l) := by rw [← hwb]; unfold World.cell?; simp only [heap_alloc_new]; rfl
          have e2 : wb.cell? ⟨wr.heap.size, 1, none⟩ = some (.int .i64 d) := by rw [← hwb]; unfold World.cell?; simp only [heap_alloc_new]; rfl
          have e3 : wb.cell? ⟨wr.heap.size, 2, none⟩ = some (.int .u8 z) := by rw [← hwb]; unfold World.cell?; simp only [heap_alloc_new]; rfl
          have hbl : wr.heap.size < wb.heap.size := by rw [← hwb]; simp
          rw [hwb] at HB2 HO2
          have HSD := hide (sound_any9 l d z wb)
          obtain ⟨a6, p6, hu6, hp1, hp2⟩ := HO2.out.top
          subst hu6
          have HWB := hide hwb
          have HX1 := hide x1
          have HX2 := hide x2
          have HE1 := hide e1
          have HE2 := hide e2
          have HE3 := hide e3
          clear x1 x2
          go_wp2_with fail
          refine HSD.out.mono ?_
          rintro e w2 ⟨rfl, b2⟩
          have f1 : w2.cell? ⟨wr.heap.size, 0, none⟩ = some (.int .i64 l) := (b2.cell hbl).trans HE1.out
          have f2 : w2.cell? ⟨wr.heap.size, 1, none⟩ = some (.int .i64 d) := (b2.cell hbl).trans HE2.out
          have f3 : w2.cell? ⟨wr.heap.size, 2, none⟩ = some (.int .u8 z) := (b2.cell hbl).trans HE3.out
          have HB3 := hide (HB2.out.trans (b2.mono HB2.out.size))
          have HO3 := hide (HO2.out.below b2 (Nat.le_refl _))
          clear b2 hwb e1 e2 e3 c1 c2 c3 HSD
          by_cases hs : Snd (l, d, z)
          · have HSB : Hid (sndb (l, d, z) = true) := decide_eq_true hs
            rw [HSB.out]
            by_cases hf : (X.length : Int) < d
            · have HER := hide (HX1.out (by rw [stE_91 hs hf]; omega))
              rw [stE_91 hs hf, ← HX0.out] at HER
              have HL := hide (xL_bad HER.out (by omega))
              have gf : decide ((X.length : Int) < d) = true := decide_eq_true hf
              clear HX1 HX2 hs
              go_wp2
              go_ret2
              rw [HER.out, HL.out]
              exact ⟨_, rfl, World.ownsRow_nil _ _ _ _, HB3.out⟩
            · have gf : decide ((X.length : Int) < d) = false := decide_eq_false hf
              rcases snd_parts hs with ⟨q1, q2⟩ | ⟨n, m, q, q1, q2, q3, q4⟩
              · simp only at q1 q2
                subst q1
                subst q2
                have hsays : says (0, 0, z) = 1 := rfl
                by_cases hlm : lim < (X.length : Int) + 1
                · have q92 := stE_92 hs (by simp only; omega) (show lim < (X.length : Int) + (says (0, 0, z) : Nat) by rw [hsays]; exact hlm)
                  have HER := hide (HX1.out (by rw [q92]; omega))
                  rw [q92, ← HX0.out] at HER
                  have HL := hide (xL_bad HER.out (by omega))
                  clear HX1 HX2 hs q92 hsays
                  go_wp2
                  go_ret2
                  rw [HER.out, HL.out]
                  exact ⟨_, rfl, World.ownsRow_nil _ _ _ _, HB3.out⟩
                · have HNX := hide (HX2.out (stE_mk hs (by simp only; omega) (by rw [hsays]; omega)))
                  have HPL := hide (ptk_len (x := X) hs)
                  have HPU := hide (put_any9 _ X 0 0 z w2 w.heap.size HO3.out (by have := HB3.out.size; omega) hs (by omega) (by omega))
                  have HLN : Hid (((exT [] (R.take (k + 1))).length : Int) ≤ lim) := by
                    show _ ≤ _
                    rw [HAT.out, HPL.out]
                    have := hsays
                    omega
                  clear HX1 HX2 hs hsays
                  go_wp2_with fail
                  refine HPU.out.mono ?_
                  rintro e w4 ⟨u4, rfl, ho4, hb4⟩
                  have HN : Hid (OB w4 w.heap.size u4 (exT [] (R.take (k + 1))) ∧ Below w.heap.size w w4) := ⟨by rw [HAT.out]; exact ho4, HB3.out.trans hb4⟩
                  clear ho4 hb4
                  go_wp2
                  go_roundw
                  case rel => exact ⟨k + 1, by omega, by go_num, HNX, HN.out.1, HLN, HN.out.2⟩
                  case measure => simp [intOf]; omega
              · simp only [Prod.mk.injEq] at q
                obtain ⟨rfl, rfl, rfl⟩ := q
                have hsays : says ((n : Int), (m : Int), 0) = n := by unfold says; simp only [Int.toNat_natCast]; omega
                by_cases hlm : lim < (X.length : Int) + (n : Int)
                · have q92 := stE_92 hs (by simp only; omega) (show lim < (X.length : Int) + (says ((n : Int), (m : Int), 0) : Nat) by rw [hsays]; exact hlm)
                  have HER := hide (HX1.out (by rw [q92]; omega))
                  rw [q92, ← HX0.out] at HER
                  have HL := hide (xL_bad HER.out (by omega))
                  clear HX1 HX2 hs q92 hsays
                  go_wp2
                  go_ret2
                  rw [HER.out, HL.out]
                  exact ⟨_, rfl, World.ownsRow_nil _ _ _ _, HB3.out⟩
                · have HNX := hide (HX2.out (stE_mk hs (by simp only; omega) (by rw [hsays]; omega)))
                  have HPL := hide (ptk_len (x := X) hs)
                  have HPU := hide (put_any9 _ X (n : Int) (m : Int) 0 w2 w.heap.size HO3.out (by have := HB3.out.size; omega) hs (by omega) (by omega))
                  have HLN : Hid (((exT [] (R.take (k + 1))).length : Int) ≤ lim) := by
                    show _ ≤ _
                    rw [HAT.out, HPL.out]
                    have := hsays
                    omega
                  clear HX1 HX2 hs hsays
                  go_wp2_with fail
                  refine HPU.out.mono ?_
                  rintro e w4 ⟨u4, rfl, ho4, hb4⟩
                  have HN : Hid (OB w4 w.heap.size u4 (exT [] (R.take (k + 1))) ∧ Below w.heap.size w w4) := ⟨by rw [HAT.out]; exact ho4, HB3.out.trans hb4⟩
                  clear ho4 hb4
                  go_wp2
                  go_roundw
                  case rel => exact ⟨k + 1, by omega, by go_num, HNX, HN.out.1, HLN, HN.out.2⟩
                  case measure => simp [intOf]; omega
          · have HSB : Hid (sndb (l, d, z) = false) := decide_eq_false hs
            rw [HSB.out]
            have HER := hide (HX1.out (by rw [stE_90 hs]; omega))
            rw [stE_90 hs, ← HX0.out] at HER
            have HL := hide (xL_bad HER.out (by omega))
            clear HX1 HX2 hs
            go_wp2
            go_ret2
            rw [HER.out, HL.out]
            exact ⟨_, rfl, World.ownsRow_nil _ _ _ _, HB3.out⟩
        · obtain rfl : k = R.length := by omega
          have hlt' : ¬ (R.length : Int) < (R.length : Int) := by omega
          have HE : Hid (xE lim R = 0) := by show _ = _; rw [HX0.out]; have := HZ.out; rwa [List.take_of_length_le (Nat.le_refl _)] at this
          have HF : Hid (OB wr w.heap.size u6 (xL lim R)) := by
            have := HO.out
            rw [List.take_of_length_le (Nat.le_refl _)] at this
            show OB _ _ _ _
            unfold xL
            rw [if_pos HE.out]
            exact this
          clear HO
          obtain ⟨a6, p6, hu6, hp1, hp2⟩ := HF.out.top
          subst hu6
          go_wp2
          go_ret2
          rw [HE.out]
          exact ⟨_, rfl, HF.out, HB.out⟩
end Go.Proofs.YtfoglaajnlbnbaaGreatDoor

namespace Go.Proofs.YtfoglaajnlbnbaaGreatDoor
open Go.RowKit Go.Maps
set_option maxRecDepth 20000
set_option linter.unusedVariables false

end Go.Proofs.YtfoglaajnlbnbaaGreatDoor

namespace Go.Proofs.YtfoglaajnlbnbaaGreatDoor
open Go.RowKit Go.Maps
set_option maxRecDepth 20000
set_option linter.unusedVariables false
set_option linter.unusedSimpArgs false

end Go.Proofs.YtfoglaajnlbnbaaGreatDoor

namespace Go.Proofs.YtfoglaajnlbnbaaGreatDoor
open Go.ChangeShapes Go.WideShapes Go.ChangeAt Go.RowKit Go.Joins Go.Deep

theorem own : ownKnob Tryz.prog.godebug = none := by kernel_rfl
theorem laidOut : laidOutB Tryz.prog = true := by kernel_rfl
theorem bytesByte : Tryz.prog.bytesOf 5 = 1 := by kernel_rfl

theorem byte_wf {n : Int} (h : (Lit.int .u8 n).wf = true) : 0 ≤ n ∧ n < 256 := by
  simp [Lit.wf, IntKind.min, IntKind.max, IntKind.signed, IntKind.bits] at h
  omega

theorem i64_in {n : Int} (h : (Lit.int .i64 n).wf = true) : -9223372036854775808 ≤ n ∧ n ≤ 9223372036854775807 := by
  simp [Lit.wf, IntKind.min, IntKind.max, IntKind.signed, IntKind.bits] at h
  omega

theorem exists_list {α : Type} (P : Nat → α → Prop) : ∀ n, (∀ i, i < n → ∃ a, P i a) → ∃ l : List α, l.length = n ∧ ∀ i a, l[i]? = some a → P i a
  | 0, _ => ⟨[], rfl, fun i a h => by simp at h⟩
  | n + 1, h => by
    obtain ⟨l, hl, hp⟩ := exists_list P n fun i hi => h i (by omega)
    obtain ⟨a, ha⟩ := h n (by omega)
    refine ⟨l ++ [a], by simp [hl], fun i x hx => ?_⟩
    by_cases hi : i < l.length
    · rw [List.getElem?_append_left hi] at hx
      exact hp i x hx
    · rw [List.getElem?_append_right (by omega)] at hx
      have : i - l.length = 0 := by
        by_cases e : i - l.length = 0
        · exact e
        · rw [List.getElem?_eq_none (by simp; omega)] at hx; cases hx
      rw [this] at hx
      simp at hx
      rw [← hx, show i = n by omega]
      exact ha

end Go.Proofs.YtfoglaajnlbnbaaGreatDoor

