import Derived.Test.YtcgeaidegppiaaaDoorGA11
import Derived.Test.YtcgeaidegppiaaaDoorGA14
import Derived.Test.YtcgeaidegppiaaaDoorGA10
import Derived.Test.YtcgeaidegppiaaaDoorGA03
namespace Go.Proofs.YtcgeaidegppiaaaDoor
open Go.RowKit Go.Maps
set_option maxRecDepth 20000

/-- A decoder of the program. -/
def td (g : Nat) (l : List Int) : Thing := ⟨fun w K => Dp w K g l, fun h a b => h.far a b, fun h => h.sup⟩

/-- What lies ahead, as a row. -/
def rowAt (row : List Int) (p : Nat) : Nat := rowN (ahead row p 15)

noncomputable def nxE (l row : List Int) (p : Nat) : Int := if fdB l (rowAt row p) = true then (if p + ln l (fdS l (rowAt row p)) ≤ row.length then 0 else 54) else 55
noncomputable def nxS (l row : List Int) (p : Nat) : Nat := if nxE l row p = 0 then fdS l (rowAt row p) else 0
noncomputable def nxP (l row : List Int) (p : Nat) : Nat := if nxE l row p = 0 then p + ln l (fdS l (rowAt row p)) else p

theorem fd_has {l : List Int} (hl : Lens l) {R : Nat} (h : fdB l R = true) : Hit l R (fdS l R) := by
  have he : ∃ s, Hit l R s := by
    unfold fdB at h
    exact @of_decide_eq_true _ (Classical.propDecidable _) h
  obtain ⟨s, hs⟩ := he
  rw [(fd_hit hl hs).1]
  exact hs

set_option maxHeartbeats 1000000 in
theorem hnext {W w : World} {xs : List ((Nat → Nat) × Thing)} (H : Herd W w xs) (i j : Nat) {K Kr : Nat → Nat} {g r : Nat} {l row : List Int} {p : Nat} (hi : xs[i]? = some (K, td g l)) (hj : xs[j]? = some (Kr, tr r row p)) :
    Calls Tryd.prog 41 #[.pointer (some ⟨g, 0, none⟩), .pointer (some ⟨r, 0, none⟩)] w fun e w' => e = .returned (.tuple #[.int .i64 (nxS l row p), .int .i64 (nxE l row p)]) ∧ Herd W w' (xs.set j (Kr, tr r row (nxP l row p))) := by
  have hD : Dp w K g l := H.rep i _ hi
  have hR : Rp w Kr r row p := H.rep j _ hj
  have hl := (dcE_zero hD.ok).1
  have HL := hide hl
  have hle := hR.le
  have HH := hide H
  have HI := hide hi
  have HJ := hide hj
  have hab := ahead_bound hR.bit p 15
  have HE0 : Hid (nxE l row p = if fdB l (rowAt row p) = true then (if p + ln l (fdS l (rowAt row p)) ≤ row.length then 0 else 54) else 55) := rfl
  have hpk : peekV row p 15 = ahead row p 15 ∧ peekK row p 15 = min 15 ((row.length : Int) - p) := ⟨if_pos ⟨by omega, by omega⟩, if_pos ⟨by omega, by omega⟩⟩
  have HPK := hide hpk
  obtain ⟨v, HV⟩ : ∃ v, Hid (v = ahead row p 15) := ⟨_, rfl⟩
  have HRV : Hid (rowN v = rowAt row p) := by show _ = _; rw [HV.out]; rfl
  rw [← HV.out] at hab HPK
  obtain ⟨vl, vw, vs, sy, a1, a2, _⟩ := hD.d
  have c0 : ∀ q, (w.drewN q).cell? ⟨g, 0, none⟩ = some vl := fun q => by
    have : (w.drewN q).heap[g]? = some (.cells (dv vl vw vs (shf l) (en l)) 97 (0, 0)) := a1
    rw [cell_of_row _ _ _ _ _ _ this, dv_0]
  have HVL := hide a2
  clear hD hR hl H hi hj a1 a2 hpk
  have HLEAVE : Hid (∀ q, Herd W (w.drewN q) (xs.set j (Kr, tr r row p))) := fun q => by
    have e : xs.set j (Kr, tr r row p) = xs := by
      apply List.ext_getElem?
      intro n
      rw [List.getElem?_set]
      by_cases c : j = n
      · subst c
        rw [if_pos rfl, HJ.out, if_pos (List.getElem?_eq_some_iff.1 HJ.out).1]
      · rw [if_neg c]
    rw [e]
    exact HH.out.drewN q
  obtain ⟨R, HR⟩ : ∃ R, Hid (R = rowAt row p) := ⟨_, rfl⟩
  rw [← HR.out] at HRV HE0
  by_cases hb : fdB l R = true
  case neg =>
    have hb' : fdB l R = false := by simpa using hb
    have HE : Hid (nxE l row p = 55) := by show _ = _; rw [HE0.out, if_neg hb]
    have HSP : Hid (nxS l row p = 0 ∧ nxP l row p = p) := by
      have := HE.out
      exact ⟨if_neg (by rw [this]; decide), if_neg (by rw [this]; decide)⟩
    rw [HE.out, HSP.out.1, HSP.out.2]
    clear hb
    obtain ⟨q1, HQ1⟩ : ∃ q, Hid (q = min (15 : Int) ((row.length : Int) - p)) := ⟨_, rfl⟩
    rw [← HQ1.out] at HPK
    go_enter Tryd.func41, Tryd.ntmps41
    go_wp2_with fail
    refine (rdpeek_any (HH.out.rep j _ HJ.out : Rp w Kr r row p) 15).mono ?_
    rintro e w1 ⟨rfl, n1, rfl⟩
    rw [HPK.out.1, HPK.out.2]
    go_wp2_with fail
    refine (find_any ((HH.out.drewN n1).rep i _ HI.out : Dp (w.drewN n1) K g l) v hab.1 (by have := hab.2; omega)).mono ?_
    rintro e w2 ⟨rfl, n2, rfl⟩
    rw [HRV.out, hb']
    have HX := hide (HLEAVE.out (n1 + n2))
    rw [World.drewN_drewN]
    go_wp2
    go_ret2
    exact ⟨rfl, HX.out⟩
  have hit := fd_has HL.out hb
  obtain ⟨s, HSS⟩ : ∃ s, Hid (s = fdS l R) := ⟨_, rfl⟩
  rw [← HSS.out] at hit
  have hs : s < l.length := hit.1.1
  have hn := HL.out.ln s
  obtain ⟨n, HN⟩ : ∃ n, Hid (n = ln l s) := ⟨_, rfl⟩
  rw [← HN.out] at hn
  obtain ⟨bl, cl, hvl, _, _, hc1, hc2⟩ := HVL.out.form (by omega)
  have cl0 : ∀ q, (w.drewN q).cell? ⟨bl, s, none⟩ = some (.int .i64 n) := fun q => by
    have := HVL.out.get (b := bl) (by rw [hvl]; rfl) hs
    rw [hn.1] at this
    exact this
  subst hvl
  have h288 := HL.out.1
  have hn15 := hn.2
  have HNE : Hid (fdB l R = true) := hb
  clear hit hn hb
  rw [← HSS.out, ← HN.out] at HE0
  by_cases hfit : p + n ≤ row.length
  · have HE : Hid (nxE l row p = 0) := by show _ = _; rw [HE0.out, if_pos HNE.out, if_pos hfit]
    have HSP : Hid (nxS l row p = s ∧ nxP l row p = p + n) := by
      have := HE.out
      refine ⟨?_, ?_⟩
      · unfold nxS; rw [if_pos this, ← HR.out, ← HSS.out]
      · unfold nxP; rw [if_pos this, ← HR.out, ← HSS.out, ← HN.out]
    have hsk : skipE row p n = 0 ∧ skipP row p n = p + n := ⟨by unfold skipE; rw [if_neg (by omega), if_pos (by omega)], by unfold skipP; rw [if_neg (by omega), if_pos (by omega)]; rfl⟩
    have HSK := hide hsk
    rw [HE.out, HSP.out.1, HSP.out.2]
    obtain ⟨q1, HQ1⟩ : ∃ q, Hid (q = min (15 : Int) ((row.length : Int) - p)) := ⟨_, rfl⟩
    rw [← HQ1.out] at HPK
    have hq1 : ¬ q1 < (n : Int) := by rw [HQ1.out]; omega
    clear hsk hfit
    go_enter Tryd.func41, Tryd.ntmps41
    go_wp2_with fail
    refine (rdpeek_any (HH.out.rep j _ HJ.out : Rp w Kr r row p) 15).mono ?_
    rintro e w1 ⟨rfl, n1, rfl⟩
    rw [HPK.out.1, HPK.out.2]
    go_wp2_with fail
    refine (find_any ((HH.out.drewN n1).rep i _ HI.out : Dp (w.drewN n1) K g l) v hab.1 (by have := hab.2; omega)).mono ?_
    rintro e w2 ⟨rfl, n2, rfl⟩
    rw [HRV.out, HNE.out, ← HSS.out, World.drewN_drewN]
    have d0 := c0 (n1 + n2)
    have d1 := cl0 (n1 + n2)
    have hs' : (s : Int) < l.length := by omega
    clear c0 cl0
    go_wp2_with fail
    refine (hskip (HH.out.drewN (n1 + n2)) j HJ.out n).mono ?_
    rintro e w3 ⟨rfl, h3⟩
    rw [HSK.out.1]
    have HX : Hid (Herd W w3 (xs.set j (Kr, tr r row (p + n)))) := by rw [← HSK.out.2]; exact h3
    clear h3
    go_wp2
    go_ret2
    exact ⟨rfl, HX.out⟩
  · have HE : Hid (nxE l row p = 54) := by show _ = _; rw [HE0.out, if_pos HNE.out, if_neg hfit]
    have HSP : Hid (nxS l row p = 0 ∧ nxP l row p = p) := by
      have := HE.out
      exact ⟨if_neg (by rw [this]; decide), if_neg (by rw [this]; decide)⟩
    rw [HE.out, HSP.out.1, HSP.out.2]
    obtain ⟨q1, HQ1⟩ : ∃ q, Hid (q = min (15 : Int) ((row.length : Int) - p)) := ⟨_, rfl⟩
    rw [← HQ1.out] at HPK
    have hq1 : q1 < (n : Int) := by rw [HQ1.out]; omega
    clear hfit
    go_enter Tryd.func41, Tryd.ntmps41
    go_wp2_with fail
    refine (rdpeek_any (HH.out.rep j _ HJ.out : Rp w Kr r row p) 15).mono ?_
    rintro e w1 ⟨rfl, n1, rfl⟩
    rw [HPK.out.1, HPK.out.2]
    go_wp2_with fail
    refine (find_any ((HH.out.drewN n1).rep i _ HI.out : Dp (w.drewN n1) K g l) v hab.1 (by have := hab.2; omega)).mono ?_
    rintro e w2 ⟨rfl, n2, rfl⟩
    rw [HRV.out, HNE.out, ← HSS.out, World.drewN_drewN]
    have d0 := c0 (n1 + n2)
    have d1 := cl0 (n1 + n2)
    have hs' : (s : Int) < l.length := by omega
    have HX := hide (HLEAVE.out (n1 + n2))
    clear c0 cl0
    go_wp2
    go_ret2
    exact ⟨rfl, HX.out⟩

theorem hdecode {W w : World} {xs : List ((Nat → Nat) × Thing)} (H : Herd W w xs) (v : Value) (l : List Int) (h : SI w v l) :
    Calls Tryd.prog 44 #[v] w fun e w' => (dcE l ≠ 0 ∧ e = .returned (.tuple #[.pointer none, .int .i64 (dcE l)]) ∧ Herd W w' xs) ∨ (dcE l = 0 ∧ ∃ g K, e = .returned (.tuple #[.pointer (some ⟨g, 0, none⟩), .int .i64 0]) ∧ Herd W w' (xs ++ [(K, td g l)])) := by
  refine (newDecoder_any v l w h).mono ?_
  rintro e w1 ⟨hb, h | ⟨h0, g, K, rfl, hd, hk⟩⟩
  · exact .inl ⟨h.1, h.2, H.below hb⟩
  · exact .inr ⟨h0, g, K, rfl, H.push hb hd hk⟩
end Go.Proofs.YtcgeaidegppiaaaDoor

namespace Go.Proofs.YtcgeaidegppiaaaDoor
open Go.RowKit Go.Maps
set_option maxRecDepth 20000

theorem us_le {l : List Int} (h : bkE l = 0) : us l 16 ≤ 32768 := by
  obtain ⟨hl, h2, h3⟩ := bkE_zero h
  rw [us_sum hl.2]
  unfold shp at h2 h3
  by_cases c0 : tsum l = 0
  · have := (tsum_zero hl).1 c0
    have hz : ∀ n, n ≤ 16 → us l n = 0 := by
      intro n
      induction n with
      | zero => intro _; rfl
      | succ n ih => intro hn; simp only [us]; rw [ih (by omega), this n (by omega)]; simp
    rw [← us_sum hl.2, hz 16 (by omega)]; omega
  · rw [if_neg c0] at h2 h3
    by_cases c1 : tsum l = 1 ∧ usum l = 16384
    · rw [c1.2]; omega
    · rw [if_neg c1] at h2 h3
      by_cases c2 : 32768 < usum l
      · rw [if_pos c2] at h3; exact absurd rfl h3
      · omega

theorem wpList_loadB2 {ops : Array Oper} {rest : List Oper} {a : Act} {w : World} {Q : Exit → Act → World → Prop} {dst : Option Tmp} {x : Operand} {ty : TypeId} {pos : String} {after : Array Edge} (g : Nat) (vl vw : Value)
    (hx : a.eval x = .pointer (some ⟨g, 0, none⟩)) (hg : w.heap[g]? = some (.cells #[vl, vw] 93 (0, 0))) (h : wpList Tryd.prog ops Q rest (a.put dst (.agg #[vl, vw])) w) :
    wpList Tryd.prog ops Q ({ dst := dst, op := .load 93 x, type := ty, pos := pos, after := after, guard := none } :: rest) a w :=
  wpList_load_row rfl 93 x rfl g hx 93 #[vl, vw] (0, 0) _ hg Tryd.underlying93 rfl (by kernel_rfl) h

/-- How long a symbol's word is. -/
def lnI (l : List Int) (s : Int) : Nat := if 0 ≤ s ∧ s < l.length then ln l s.toNat else 0

/-- A word's bits, the first one first. -/
def wb (l : List Int) (s : Nat) : List Int := (bts (wd l s) (ln l s)).reverse

theorem wb_len (l : List Int) (s : Nat) : (wb l s).length = ln l s := by unfold wb; rw [List.length_reverse, length_bts]

theorem wb_bit (l : List Int) (s : Nat) : Bit (wb l s) := fun b hb => bit_bts _ _ b (List.mem_reverse.1 hb)

def epE (l row : List Int) (s : Int) : Int := if lnI l s = 0 then 56 else if row.length + lnI l s ≤ 268435456 then 0 else 1
def epR (l row : List Int) (s : Int) : List Int := if epE l row s = 0 then row ++ wb l s.toNat else row

theorem lnI_pos {l : List Int} {s : Int} (h : lnI l s ≠ 0) : 0 ≤ s ∧ s < l.length ∧ lnI l s = ln l s.toNat := by
  unfold lnI at h ⊢
  by_cases c : 0 ≤ s ∧ s < l.length
  · rw [if_pos c] at h ⊢; exact ⟨c.1, c.2, rfl⟩
  · rw [if_neg c] at h; exact absurd rfl h

end Go.Proofs.YtcgeaidegppiaaaDoor

