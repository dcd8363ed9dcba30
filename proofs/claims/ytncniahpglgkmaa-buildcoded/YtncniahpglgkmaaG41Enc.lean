import Derived.Test.YtncniahpglgkmaaG37Wr
import Derived.Test.YtncniahpglgkmaaG40Herd
import Derived.Test.YtncniahpglgkmaaG35Drr
import Derived.Test.YtncniahpglgkmaaG12Arr
namespace Go.Proofs.Ytncniahpglgkmaa
open Go.RowKit Go.Maps
set_option maxRecDepth 20000

/-- A decoder of the program. -/
def td (g : Nat) (l : List Int) : Thing := ⟨fun w K => Dp w K g l, fun h a b => h.far a b, fun h => h.sup⟩

/-- What lies ahead, as a row. -/
def rowAt (row : List Int) (p : Nat) : Nat := rowN (ahead row p 15)

noncomputable def nxE (l row : List Int) (p : Nat) : Int := if fdB l (rowAt row p) = true then (if p + ln l (fdS l (rowAt row p)) ≤ row.length then 0 else 54) else 55
noncomputable def nxS (l row : List Int) (p : Nat) : Nat := if nxE l row p = 0 then fdS l (rowAt row p) else 0
noncomputable def nxP (l row : List Int) (p : Nat) : Nat := if nxE l row p = 0 then p + ln l (fdS l (rowAt row p)) else p

theorem fd_has {l : List Int} (hl : Lens l) {R : Nat} (h : fdB l R = true) : Hit l R (fdS l R) := by
  have he : ∃ s, Hit l R s := by
    unfold fdB at h
    exact @of_decide_eq_true _ (Classical.propDecidable _) h
  obtain ⟨s, hs⟩ := he
  rw [(fd_hit hl hs).1]
  exact hs

set_option maxHeartbeats 1000000 in
theorem hnext {W w : World} {xs : List ((Nat → Nat) × Thing)} (H : Herd W w xs) (i j : Nat) {K Kr : Nat → Nat} {g r : Nat} {l row : List Int} {p : Nat} (hi : xs[i]? = some (K, td g l)) (hj : xs[j]? = some (Kr, tr r row p)) :
    Calls Try.prog 26 #[.pointer (some ⟨g, 0, none⟩), .pointer (some ⟨r, 0, none⟩)] w fun e w' => e = .returned (.tuple #[.int .i64 (nxS l row p), .int .i64 (nxE l row p)]) ∧ Herd W w' (xs.set j (Kr, tr r row (nxP l row p))) := by
  have hD : Dp w K g l := H.rep i _ hi
  have hR : Rp w Kr r row p := H.rep j _ hj
  have hl := (dcE_zero hD.ok).1
  have HL := hide hl
  have hle := hR.le
  have HH := hide H
  have HI := hide hi
  have HJ := hide hj
  have hab := ahead_bound hR.bit p 15
  have HE0 : Hid (nxE l row p = if fdB l (rowAt row p) = true then (if p + ln l (fdS l (rowAt row p)) ≤ row.length then 0 else 54) else 55) := rfl
  have hpk : peekV row p 15 = ahead row p 15 ∧ peekK row p 15 = min 15 ((row.length : Int) - p) := ⟨if_pos ⟨by omega, by omega⟩, if_pos ⟨by omega, by omega⟩⟩
  have HPK := hide hpk
  obtain ⟨v, HV⟩ : ∃ v, Hid (v = ahead row p 15) := ⟨_, rfl⟩
  have HRV : Hid (rowN v = rowAt row p) := by show _ = _; rw [HV.out]; rfl
  rw [← HV.out] at hab HPK
  obtain ⟨vl, vw, vs, sy, a1, a2, _⟩ := hD.d
  have c0 : ∀ q, (w.drewN q).cell? ⟨g, 0, none⟩ = some vl := fun q => by
    have : (w.drewN q).heap[g]? = some (.cells (dv vl vw vs (shf l) (en l)) 90 (0, 0)) := a1
    rw [cell_of_row _ _ _ _ _ _ this, dv_0]
  have HVL := hide a2
  clear hD hR hl H hi hj a1 a2 hpk
  have HLEAVE : Hid (∀ q, Herd W (w.drewN q) (xs.set j (Kr, tr r row p))) := fun q => by
    have e : xs.set j (Kr, tr r row p) = xs := by
      apply List.ext_getElem?
      intro n
      rw [List.getElem?_set]
      by_cases c : j = n
      · subst c
        rw [if_pos rfl, HJ.out, if_pos (List.getElem?_eq_some_iff.1 HJ.out).1]
      · rw [if_neg c]
    rw [e]
    exact HH.out.drewN q
  obtain ⟨R, HR⟩ : ∃ R, Hid (R = rowAt row p) := ⟨_, rfl⟩
  rw [← HR.out] at HRV HE0
  by_cases hb : fdB l R = true
  case neg =>
    have hb' : fdB l R = false := by simpa using hb
    have HE : Hid (nxE l row p = 55) := by show _ = _; rw [HE0.out, if_neg hb]
    have HSP : Hid (nxS l row p = 0 ∧ nxP l row p = p) := by
      have := HE.out
      exact ⟨if_neg (by rw [this]; decide), if_neg (by rw [this]; decide)⟩
    rw [HE.out, HSP.out.1, HSP.out.2]
    clear hb
    obtain ⟨q1, HQ1⟩ : ∃ q, Hid (q = min (15 : Int) ((row.length : Int) - p)) := ⟨_, rfl⟩
    rw [← HQ1.out] at HPK
    go_enter Try.func26, Try.ntmps26
    go_wp2_with fail
    refine (rdpeek_any (HH.out.rep j _ HJ.out : Rp w Kr r row p) 15).mono ?_
    rintro e w1 ⟨rfl, n1, rfl⟩
    rw [HPK.out.1, HPK.out.2]
    go_wp2_with fail
    refine (find_any ((HH.out.drewN n1).rep i _ HI.out : Dp (w.drewN n1) K g l) v hab.1 (by have := hab.2; omega)).mono ?_
    rintro e w2 ⟨rfl, n2, rfl⟩
    rw [HRV.out, hb']
    have HX := hide (HLEAVE.out (n1 + n2))
    rw [World.drewN_drewN]
    go_wp2
    go_ret2
    exact ⟨rfl, HX.out⟩
  have hit := fd_has HL.out hb
  obtain ⟨s, HSS⟩ : ∃ s, Hid (s = fdS l R) := ⟨_, rfl⟩
  rw [← HSS.out] at hit
  have hs : s < l.length := hit.1.1
  have hn := HL.out.ln s
  obtain ⟨n, HN⟩ : ∃ n, Hid (n = ln l s) := ⟨_, rfl⟩
  rw [← HN.out] at hn
  obtain ⟨bl, cl, hvl, _, _, hc1, hc2⟩ := HVL.out.form (by omega)
  have cl0 : ∀ q, (w.drewN q).cell? ⟨bl, s, none⟩ = some (.int .i64 n) := fun q => by
    have := HVL.out.get (b := bl) (by rw [hvl]; rfl) hs
    rw [hn.1] at this
    exact this
  subst hvl
  have h288 := HL.out.1
  have hn15 := hn.2
  have HNE : Hid (fdB l R = true) := hb
  clear hit hn hb
  rw [← HSS.out, ← HN.out] at HE0
  by_cases hfit : p + n ≤ row.length
  · have HE : Hid (nxE l row p = 0) := by show _ = _; rw [HE0.out, if_pos HNE.out, if_pos hfit]
    have HSP : Hid (nxS l row p = s ∧ nxP l row p = p + n) := by
      have := HE.out
      refine ⟨?_, ?_⟩
      · unfold nxS; rw [if_pos this, ← HR.out, ← HSS.out]
      · unfold nxP; rw [if_pos this, ← HR.out, ← HSS.out, ← HN.out]
    have hsk : skipE row p n = 0 ∧ skipP row p n = p + n := ⟨by unfold skipE; rw [if_neg (by omega), if_pos (by omega)], by unfold skipP; rw [if_neg (by omega), if_pos (by omega)]; rfl⟩
    have HSK := hide hsk
    rw [HE.out, HSP.out.1, HSP.out.2]
    obtain ⟨q1, HQ1⟩ : ∃ q, Hid (q = min (15 : Int) ((row.length : Int) - p)) := ⟨_, rfl⟩
    rw [← HQ1.out] at HPK
    have hq1 : ¬ q1 < (n : Int) := by rw [HQ1.out]; omega
    clear hsk hfit
    go_enter Try.func26, Try.ntmps26
    go_wp2_with fail
    refine (rdpeek_any (HH.out.rep j _ HJ.out : Rp w Kr r row p) 15).mono ?_
    rintro e w1 ⟨rfl, n1, rfl⟩
    rw [HPK.out.1, HPK.out.2]
    go_wp2_with fail
    refine (find_any ((HH.out.drewN n1).rep i _ HI.out : Dp (w.drewN n1) K g l) v hab.1 (by have := hab.2; omega)).mono ?_
    rintro e w2 ⟨rfl, n2, rfl⟩
    rw [HRV.out, HNE.out, ← HSS.out, World.drewN_drewN]
    have d0 := c0 (n1 + n2)
    have d1 := cl0 (n1 + n2)
    have hs' : (s : Int) < l.length := by omega
    clear c0 cl0
    go_wp2_with fail
    refine (hskip (HH.out.drewN (n1 + n2)) j HJ.out n).mono ?_
    rintro e w3 ⟨rfl, h3⟩
    rw [HSK.out.1]
    have HX : Hid (Herd W w3 (xs.set j (Kr, tr r row (p + n)))) := by rw [← HSK.out.2]; exact h3
    clear h3
    go_wp2
    go_ret2
    exact ⟨rfl, HX.out⟩
  · have HE : Hid (nxE l row p = 54) := by show _ = _; rw [HE0.out, if_pos HNE.out, if_neg hfit]
    have HSP : Hid (nxS l row p = 0 ∧ nxP l row p = p) := by
      have := HE.out
      exact ⟨if_neg (by rw [this]; decide), if_neg (by rw [this]; decide)⟩
    rw [HE.out, HSP.out.1, HSP.out.2]
    obtain ⟨q1, HQ1⟩ : ∃ q, Hid (q = min (15 : Int) ((row.length : Int) - p)) := ⟨_, rfl⟩
    rw [← HQ1.out] at HPK
    have hq1 : q1 < (n : Int) := by rw [HQ1.out]; omega
    clear hfit
    go_enter Try.func26, Try.ntmps26
    go_wp2_with fail
    refine (rdpeek_any (HH.out.rep j _ HJ.out : Rp w Kr r row p) 15).mono ?_
    rintro e w1 ⟨rfl, n1, rfl⟩
    rw [HPK.out.1, HPK.out.2]
    go_wp2_with fail
    refine (find_any ((HH.out.drewN n1).rep i _ HI.out : Dp (w.drewN n1) K g l) v hab.1 (by have := hab.2; omega)).mono ?_
    rintro e w2 ⟨rfl, n2, rfl⟩
    rw [HRV.out, HNE.out, ← HSS.out, World.drewN_drewN]
    have d0 := c0 (n1 + n2)
    have d1 := cl0 (n1 + n2)
    have hs' : (s : Int) < l.length := by omega
    have HX := hide (HLEAVE.out (n1 + n2))
    clear c0 cl0
    go_wp2
    go_ret2
    exact ⟨rfl, HX.out⟩

theorem hdecode {W w : World} {xs : List ((Nat → Nat) × Thing)} (H : Herd W w xs) (v : Value) (l : List Int) (h : SI w v l) :
    Calls Try.prog 25 #[v] w fun e w' => (dcE l ≠ 0 ∧ e = .returned (.tuple #[.pointer none, .int .i64 (dcE l)]) ∧ Herd W w' xs) ∨ (dcE l = 0 ∧ ∃ g K, e = .returned (.tuple #[.pointer (some ⟨g, 0, none⟩), .int .i64 0]) ∧ Herd W w' (xs ++ [(K, td g l)])) := by
  refine (newDecoder_any v l w h).mono ?_
  rintro e w1 ⟨hb, h | ⟨h0, g, K, rfl, hd, hk⟩⟩
  · exact .inl ⟨h.1, h.2, H.below hb⟩
  · exact .inr ⟨h0, g, K, rfl, H.push hb hd hk⟩
end Go.Proofs.Ytncniahpglgkmaa

namespace Go.Proofs.Ytncniahpglgkmaa
open Go.RowKit Go.Maps
set_option maxRecDepth 20000

theorem us_le {l : List Int} (h : bkE l = 0) : us l 16 ≤ 32768 := by
  obtain ⟨hl, h2, h3⟩ := bkE_zero h
  rw [us_sum hl.2]
  unfold shp at h2 h3
  by_cases c0 : tsum l = 0
  · have := (tsum_zero hl).1 c0
    have hz : ∀ n, n ≤ 16 → us l n = 0 := by
      intro n
      induction n with
      | zero => intro _; rfl
      | succ n ih => intro hn; simp only [us]; rw [ih (by omega), this n (by omega)]; simp
    rw [← us_sum hl.2, hz 16 (by omega)]; omega
  · rw [if_neg c0] at h2 h3
    by_cases c1 : tsum l = 1 ∧ usum l = 16384
    · rw [c1.2]; omega
    · rw [if_neg c1] at h2 h3
      by_cases c2 : 32768 < usum l
      · rw [if_pos c2] at h3; exact absurd rfl h3
      · omega

/-- An encoder in memory. -/
structure Ep (w : World) (K : Nat → Nat) (g : Nat) (l : List Int) : Prop where
  d : ∃ vl vw, w.heap[g]? = some (.cells #[vl, vw] 76 (0, 0)) ∧ OI w 0 vl l ∧ OI w 0 vw (wds l) ∧ (∀ k, vl.ownBlock = some k → K k ≠ 0) ∧ (∀ k, vw.ownBlock = some k → K k ≠ 0)
  k : K g ≠ 0
  sup : ∀ k, K k ≠ 0 → k < w.heap.size
  ok : bkE l = 0

theorem Ep.far {w w' : World} {K : Nat → Nat} {g : Nat} {l : List Int} (h : Ep w K g l) (hsz : w.heap.size ≤ w'.heap.size) (hb : ∀ k, K k ≠ 0 → w'.heap[k]? = w.heap[k]?) : Ep w' K g l := by
  obtain ⟨vl, vw, a1, a2, a3, a4, a5⟩ := h.d
  exact ⟨⟨vl, vw, (hb g h.k).trans a1, a2.move fun k hk => hb k (a4 k hk), a3.move fun k hk => hb k (a5 k hk), a4, a5⟩, h.k, fun k hk => Nat.lt_of_lt_of_le (h.sup k hk) hsz, h.ok⟩

/-- An encoder of the program. -/
def te (g : Nat) (l : List Int) : Thing := ⟨fun w K => Ep w K g l, fun h a b => h.far a b, fun h => h.sup⟩

def MadeE (w : World) (l : List Int) (e : Ending) (w' : World) : Prop := Below w.heap.size w w' ∧ ((bkE l ≠ 0 ∧ e = .returned (.tuple #[.pointer none, .int .i64 (bkE l)])) ∨ (bkE l = 0 ∧ ∃ g K, e = .returned (.tuple #[.pointer (some ⟨g, 0, none⟩), .int .i64 0]) ∧ Ep w' K g l ∧ ∀ k, K k ≠ 0 → w.heap.size ≤ k))

theorem wpList_loadB2 {ops : Array Oper} {rest : List Oper} {a : Act} {w : World} {Q : Exit → Act → World → Prop} {dst : Option Tmp} {x : Operand} {ty : TypeId} {pos : String} {after : Array Edge} (g : Nat) (vl vw : Value)
    (hx : a.eval x = .pointer (some ⟨g, 0, none⟩)) (hg : w.heap[g]? = some (.cells #[vl, vw] 72 (0, 0))) (h : wpList Try.prog ops Q rest (a.put dst (.agg #[vl, vw])) w) :
    wpList Try.prog ops Q ({ dst := dst, op := .load 72 x, type := ty, pos := pos, after := after, guard := none } :: rest) a w :=
  wpList_load_row rfl 72 x rfl g hx 72 #[vl, vw] (0, 0) _ hg Try.underlying72 rfl (by kernel_rfl) h

theorem newEncoder_any (v : Value) (l : List Int) (w : World) (h : SI w v l) :
    Calls Try.prog 20 #[v] w fun e w' => MadeE w l e w' := by
  have HS := hide h
  obtain ⟨ao, cap, rfl, hlc, hcm⟩ := h.open
  clear h
  go_enter Try.func20, Try.ntmps20
  go_wp2_with fail
  refine (newBook_any _ l _ HS.out).mono ?_
  rintro e w1 ⟨vl, vw, rfl, hbk, hb1⟩
  have HB1 := hide hb1
  have HBK := hide hbk
  clear hb1 hbk
  have HA : Hid ((w1.alloc (.cells #[.slice none 0 0, .slice none 0 0] 72)).heap[w1.heap.size]? = some (.cells #[.slice none 0 0, .slice none 0 0] 72 (0, 0))) := heap_alloc_new w1 _
  have o1 : Hid (vl.oneCell' = true ∧ vw.oneCell' = true) := by
    rcases HBK.out with ⟨_, rfl, rfl⟩ | ⟨_, h1, h2⟩
    · exact ⟨rfl, rfl⟩
    · obtain ⟨_, _, e1⟩ := h1.shape
      obtain ⟨_, _, e2⟩ := h2.shape
      rw [e1, e2]; exact ⟨rfl, rfl⟩
  obtain ⟨w2, HW2⟩ : ∃ w2, Hid (w2 = (w1.alloc (.cells #[.slice none 0 0, .slice none 0 0] 72)).setRow w1.heap.size #[vl, vw]) := ⟨_, rfl⟩
  have HA2 : Hid (w2.heap[w1.heap.size]? = some (.cells #[vl, vw] 72 (0, 0))) := by rw [HW2.out]; exact setRow_heap _ _ _ _ _ _ HA.out
  have hb12 : Below w1.heap.size w1 w2 := by rw [HW2.out]; exact below_setRow ((Below.refl _ _).alloc (Nat.le_refl _) _) (Nat.le_refl _)
  have HB12 := hide hb12
  have HB2 : Hid (Below w.heap.size w w2) := HB1.out.trans (hb12.mono HB1.out.size)
  clear hb12
  by_cases h0 : bkE l = 0
  case neg =>
    have h0' : (bkE l == 0) = false := by simpa using h0
    have HNE := hide h0
    obtain ⟨q, HQ⟩ : ∃ q, Hid (q = bkE l) := ⟨_, rfl⟩
    rw [← HQ.out] at h0 h0' ⊢
    go_wp2_with ((with_reducible refine wpList_storeB w1.heap.size vl vw _ _ ?hx ?hy HA.out ?h1 ?h2 ?_); (case hx => rfl); (case hy => rfl); (case h1 => exact o1.out.1); (case h2 => exact o1.out.2))
    rw [← HW2.out]
    go_ret2
    exact ⟨HB2.out, .inl ⟨HNE.out, by rw [HQ.out]; rfl⟩⟩
  rw [h0]
  have HBO := hide (show OI w1 w.heap.size vl l ∧ OI w1 w.heap.size vw (wds l) from by
    rcases HBK.out with ⟨hne, _⟩ | ⟨_, h1, h2⟩
    · exact absurd h0 hne
    · exact ⟨h1, h2⟩)
  have H0 := hide h0
  clear h0 HBK
  obtain ⟨V, HV⟩ : ∃ V, Hid (V = w2.alloc (.cells #[vl, vw] 76)) := ⟨_, rfl⟩
  have HDV : Hid (V.heap[w2.heap.size]? = some (.cells #[vl, vw] 76 (0, 0))) := by rw [HV.out]; exact heap_alloc_new w2 _
  have hbV : Below w2.heap.size w2 V := by rw [HV.out]; exact (Below.refl _ _).alloc (Nat.le_refl _) _
  have HR : Hid (((w1.alloc (.cells #[.slice none 0 0, .slice none 0 0] 72)).setRow w1.heap.size #[vl, vw]).heap[w1.heap.size]? = some (.cells #[vl, vw] 72 (0, 0))) := by rw [← HW2.out]; exact HA2.out
  have hb1V : Below w1.heap.size w1 V := HB12.out.trans (hbV.mono HB12.out.size)
  have HF : Hid (Below w.heap.size w V ∧ ∃ K, Ep V K w2.heap.size l ∧ ∀ k, K k ≠ 0 → w.heap.size ≤ k) := by
    have p1 := HBO.out.1.below hb1V (Nat.le_refl _)
    have p2 := HBO.out.2.below hb1V (Nat.le_refl _)
    refine ⟨HB2.out.trans (hbV.mono HB2.out.size), fun k => if k = w2.heap.size ∨ vl.ownBlock = some k ∨ vw.ownBlock = some k then 1 else 0, ⟨⟨vl, vw, HDV.out, p1.base (Nat.zero_le _), p2.base (Nat.zero_le _), fun k hk => by simp [hk], fun k hk => by simp [hk]⟩, by simp, fun k hk => ?_, H0.out⟩, fun k hk => ?_⟩
    · by_cases c : k = w2.heap.size ∨ vl.ownBlock = some k ∨ vw.ownBlock = some k
      · rcases c with rfl | c | c
        · rw [HV.out]; simp
        · exact (p1.lt k c).2
        · exact (p2.lt k c).2
      · simp [c] at hk
    · by_cases c : k = w2.heap.size ∨ vl.ownBlock = some k ∨ vw.ownBlock = some k
      · rcases c with rfl | c | c
        · exact HB2.out.size
        · exact (p1.lt k c).1
        · exact (p2.lt k c).1
      · simp [c] at hk
  have HSZ : Hid (w2.heap.size = w1.heap.size + 1) := by show _ = _; rw [HW2.out]; simp
  clear hbV hb1V
  go_wp2_with (first | ((with_reducible refine wpList_storeB w1.heap.size vl vw _ _ ?hx ?hy HA.out ?h1 ?h2 ?_); (case hx => rfl); (case hy => rfl); (case h1 => exact o1.out.1); (case h2 => exact o1.out.2)) | ((with_reducible refine wpList_loadB2 w1.heap.size _ _ ?hx HR.out ?_); (case hx => rfl)))
  rw [← HW2.out, ← HV.out]
  go_ret2
  obtain ⟨x1, K, x2, x3⟩ := HF.out
  refine ⟨x1, .inr ⟨H0.out, _, K, ?_, x2, x3⟩⟩
  rw [HSZ.out]
  rfl

/-- How long a symbol's word is. -/
def lnI (l : List Int) (s : Int) : Nat := if 0 ≤ s ∧ s < l.length then ln l s.toNat else 0

theorem length_any {w : World} {K : Nat → Nat} {g : Nat} {l : List Int} (h : Ep w K g l) (s : Int) (hs0 : -9223372036854775808 ≤ s) (hs1 : s ≤ 9223372036854775807) :
    Calls Try.prog 34 #[.pointer (some ⟨g, 0, none⟩), .int .i64 s] w fun e w' => e = .returned (.int .i64 (lnI l s)) ∧ w' = w := by
  obtain ⟨vl, vw, a1, a2, a3, _⟩ := h.d
  have hl := (bkE_zero h.ok).1
  have HL := hide hl
  have h288 := hl.1
  have c0 : w.cell? ⟨g, 0, none⟩ = some vl := by rw [cell_of_row _ _ _ _ _ _ a1]; rfl
  obtain ⟨al, cl, hvl⟩ := a2.shape
  have HO := hide a2
  obtain ⟨q1, q2⟩ : l.length ≤ cl ∧ cl ≤ 9223372036854775807 := by
    have hsb := a2.sb
    rw [hvl] at hsb
    obtain ⟨_, _, e1, e2, e3⟩ := hsb.open
    simp only [Value.slice.injEq] at e1
    obtain ⟨-, -, rfl⟩ := e1
    exact ⟨e2, e3⟩
  clear h a1 a2 a3 hl
  by_cases hs : 0 ≤ s ∧ s < l.length
  · have HE : Hid (lnI l s = ln l s.toNat) := if_pos hs
    rw [HE.out]
    obtain ⟨n, rfl⟩ : ∃ n : Nat, s = n := ⟨s.toNat, by omega⟩
    have hn : n < l.length := by omega
    obtain ⟨b, c, hv, _⟩ := HO.out.form (by omega)
    have hc := HO.out.get (b := b) (by rw [hv]; rfl) hn
    rw [(HL.out.ln n).1] at hc
    rw [hv] at c0
    simp only [Int.toNat_natCast]
    rw [hvl] at hv
    simp only [Value.slice.injEq] at hv
    obtain ⟨rfl, -, rfl⟩ := hv
    have h1 : ¬ (n : Int) < 0 := by omega
    have h2 : ¬ (l.length : Int) ≤ n := by omega
    clear hs hvl
    go_enter Try.func34, Try.ntmps34
    go_wp2
    go_ret
    exact ⟨rfl, rfl⟩
  · have HE : Hid (lnI l s = 0) := if_neg hs
    rw [HE.out]
    rw [hvl] at c0
    by_cases h1 : s < 0
    · clear hs
      go_enter Try.func34, Try.ntmps34
      go_wp2
      go_ret
      exact ⟨rfl, rfl⟩
    · have h2 : (l.length : Int) ≤ s := by omega
      clear hs
      go_enter Try.func34, Try.ntmps34
      go_wp2
      go_ret
      exact ⟨rfl, rfl⟩

/-- A word's bits, the first one first. -/
def wb (l : List Int) (s : Nat) : List Int := (bts (wd l s) (ln l s)).reverse

theorem wb_len (l : List Int) (s : Nat) : (wb l s).length = ln l s := by unfold wb; rw [List.length_reverse, length_bts]

theorem wb_bit (l : List Int) (s : Nat) : Bit (wb l s) := fun b hb => bit_bts _ _ b (List.mem_reverse.1 hb)

def epE (l row : List Int) (s : Int) : Int := if lnI l s = 0 then 56 else if row.length + lnI l s ≤ 268435456 then 0 else 1
def epR (l row : List Int) (s : Int) : List Int := if epE l row s = 0 then row ++ wb l s.toNat else row

theorem lnI_pos {l : List Int} {s : Int} (h : lnI l s ≠ 0) : 0 ≤ s ∧ s < l.length ∧ lnI l s = ln l s.toNat := by
  unfold lnI at h ⊢
  by_cases c : 0 ≤ s ∧ s < l.length
  · rw [if_pos c] at h ⊢; exact ⟨c.1, c.2, rfl⟩
  · rw [if_neg c] at h; exact absurd rfl h

set_option maxHeartbeats 1000000 in
theorem heput {W w : World} {xs : List ((Nat → Nat) × Thing)} (H : Herd W w xs) (i j : Nat) {K Kw : Nat → Nat} {g r : Nat} {l row : List Int} (hi : xs[i]? = some (K, te g l)) (hj : xs[j]? = some (Kw, tw r row)) (s : Int) (hs0 : -9223372036854775808 ≤ s) (hs1 : s ≤ 9223372036854775807) :
    Calls Try.prog 21 #[.pointer (some ⟨g, 0, none⟩), .pointer (some ⟨r, 0, none⟩), .int .i64 s] w fun e w' => e = .returned (.int .i64 (epE l row s)) ∧ ∃ K', Herd W w' (xs.set j (K', tw r (epR l row s))) := by
  have hE : Ep w K g l := H.rep i _ hi
  have hl := (bkE_zero hE.ok).1
  have HL := hide hl
  have hu := us_le hE.ok
  have HH := hide H
  have HI := hide hi
  have HJ := hide hj
  have HEE := hide hE
  have hset : xs.set j (Kw, tw r row) = xs := by
    apply List.ext_getElem?
    intro n
    rw [List.getElem?_set]
    by_cases c : j = n
    · subst c
      rw [if_pos rfl, hj, if_pos (List.getElem?_eq_some_iff.1 hj).1]
    · rw [if_neg c]
  have HST := hide hset
  by_cases h0 : lnI l s = 0
  · have HE : Hid (epE l row s = 56) := if_pos h0
    have HR : Hid (epR l row s = row) := if_neg (by rw [HE.out]; decide)
    rw [HE.out, HR.out]
    have HN := hide h0
    clear hE hl hu H hi hj hset h0
    go_enter Try.func21, Try.ntmps21
    go_wp2_with fail
    refine (length_any HEE.out s hs0 hs1).mono ?_
    rintro e w1 ⟨rfl, rfl⟩
    rw [HN.out]
    go_wp2
    go_ret
    exact ⟨rfl, Kw, by rw [HST.out]; exact HH.out⟩
  · obtain ⟨b0, b1, b2⟩ := lnI_pos h0
    obtain ⟨n, rfl⟩ : ∃ n : Nat, s = n := ⟨s.toNat, by omega⟩
    simp only [Int.toNat_natCast] at b2
    have hn : n < l.length := by omega
    have hlt := word_lt hl hu (s := n)
    have h15 := (hl.ln n).2
    have HEQ : Hid (epE l row n = putE row (revN (wd l n) (ln l n)) (ln l n) ∧ epR l row n = putRow row (revN (wd l n) (ln l n)) (ln l n)) := by
      have hf : Fit (wd l n) (ln l n) := ⟨⟨by omega, by omega⟩, by simp; exact_mod_cast hlt⟩
      have hrv : revN (wd l n) (ln l n) = val (wb l n) := by unfold revN; rw [if_pos hf]; rfl
      have hvb := val_bound (wb_bit l n)
      rw [wb_len] at hvb
      have hbv : bts (val (wb l n)) (ln l n) = wb l n := by have := bts_val (wb_bit l n); rwa [wb_len] at this
      have hfit : Fit (val (wb l n)) (ln l n) := ⟨⟨by omega, by omega⟩, by simp; exact hvb.2⟩
      rw [hrv]
      have hE1 : epE l row n = if row.length + ln l n ≤ 268435456 then 0 else 1 := by unfold epE; rw [if_neg h0, b2]
      by_cases c : row.length + ln l n ≤ 268435456
      · have hok : putOk row (val (wb l n)) (ln l n) := ⟨hfit, by omega⟩
        have e1 : epE l row n = 0 := by rw [hE1, if_pos c]
        refine ⟨by rw [e1]; unfold putE; rw [if_pos hok], ?_⟩
        unfold epR putRow
        rw [if_pos e1, if_pos hok, Int.toNat_natCast, Int.toNat_natCast, hbv]
      · have hok : ¬ putOk row (val (wb l n)) (ln l n) := fun h => c (by have := h.2; omega)
        have e1 : epE l row n = 1 := by rw [hE1, if_neg c]
        refine ⟨by rw [e1]; unfold putE; rw [if_neg hok], ?_⟩
        unfold epR putRow
        rw [if_neg (by rw [e1]; decide), if_neg hok]
    have hrb : 0 ≤ revN (wd l n) (ln l n) ∧ revN (wd l n) (ln l n) < 4294967296 := by
      unfold revN
      split
      · have := rev_bound (wd l n) ((ln l n : Int).toNat)
        have h31 : (2 : Int) ^ ((ln l n : Int).toNat) ≤ 2 ^ 15 := pow_le (by omega)
        omega
      · omega
    obtain ⟨vl, vw, a1, a2, a3, _⟩ := hE.d
    have c1 : w.cell? ⟨g, 1, none⟩ = some vw := by rw [cell_of_row _ _ _ _ _ _ a1]; rfl
    obtain ⟨bw, cw, hvw, _, _, q1, q2⟩ := a3.form (by rw [wds_len]; omega)
    have cw1 := a3.get (b := bw) (by rw [hvw]; rfl) (i := n) (by rw [wds_len]; exact hn)
    rw [wds_get hn] at cw1
    rw [wds_len] at hvw q1
    subst hvw
    rw [HEQ.out.1, HEQ.out.2]
    have h2n : 2 ^ ln l n ≤ 2 ^ 15 := Nat.pow_le_pow_right (by decide) h15
    have hm0 : ln l n ≠ 0 := by rw [← b2]; exact h0
    obtain ⟨m, HM⟩ : ∃ m : Nat, Hid (m = ln l n) := ⟨_, rfl⟩
    obtain ⟨y, HY⟩ : ∃ y : Nat, Hid (y = wd l n) := ⟨_, rfl⟩
    rw [← HM.out] at h15 hm0 b2 hrb ⊢
    rw [← HY.out] at cw1 hrb ⊢
    have hy : y < 32768 := by rw [HY.out]; omega
    obtain ⟨t, HTT⟩ : ∃ t, Hid (t = revN (y : Int) (m : Int)) := ⟨_, rfl⟩
    rw [← HTT.out] at hrb ⊢
    have HB2 : Hid (lnI l (n : Int) = m) := b2
    have hmz : ((m : Int) == 0) = false := by simp; omega
    have hwy : IntKind.u32.wrap (y : Int) = y := by rw [IntKind.wrap_u32]; omega
    have h288 := hl.1
    clear hE hl hu H hi hj hset h0 hlt a1 a2 a3 h2n b2
    go_enter Try.func21, Try.ntmps21
    go_wp2_with fail
    refine (length_any HEE.out n hs0 hs1).mono ?_
    rintro e w1 ⟨rfl, rfl⟩
    rw [HB2.out]
    go_wp2_with fail
    refine (reverse_any y m (by omega) (by omega) _).mono ?_
    rintro e w2 ⟨rfl, rfl⟩
    rw [← HTT.out]
    obtain ⟨q, HQ⟩ : ∃ q, Hid (q = revE (y : Int) (m : Int)) := ⟨_, rfl⟩
    rw [← HQ.out]
    go_wp2_with fail
    refine (hput HH.out j HJ.out t m hrb.1 hrb.2).mono ?_
    rintro e w3 ⟨rfl, K', h3⟩
    have HX := hide h3
    clear h3
    go_wp2
    go_ret
    exact ⟨rfl, K', HX.out⟩

theorem hencode {W w : World} {xs : List ((Nat → Nat) × Thing)} (H : Herd W w xs) (v : Value) (l : List Int) (h : SI w v l) :
    Calls Try.prog 20 #[v] w fun e w' => (bkE l ≠ 0 ∧ e = .returned (.tuple #[.pointer none, .int .i64 (bkE l)]) ∧ Herd W w' xs) ∨ (bkE l = 0 ∧ ∃ g K, e = .returned (.tuple #[.pointer (some ⟨g, 0, none⟩), .int .i64 0]) ∧ Herd W w' (xs ++ [(K, te g l)])) := by
  refine (newEncoder_any v l w h).mono ?_
  rintro e w1 ⟨hb, h | ⟨h0, g, K, rfl, hd, hk⟩⟩
  · exact .inl ⟨h.1, h.2, H.below hb⟩
  · exact .inr ⟨h0, g, K, rfl, H.push hb hd hk⟩
end Go.Proofs.Ytncniahpglgkmaa

