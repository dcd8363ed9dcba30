import Derived.Test.YtfoglaajnlbnbaaGreatDoorG33Xck
import Derived.Test.YtfoglaajnlbnbaaGreatDoorG26Dcd
import Derived.Test.YtfoglaajnlbnbaaGreatDoorG34Rds
import Derived.Test.YtfoglaajnlbnbaaGreatDoorG27Vd2
import Derived.Test.YtfoglaajnlbnbaaGreatDoorG21Mk4
import Derived.Test.YtfoglaajnlbnbaaGreatDoorG28Ms5
namespace Go.Proofs.YtfoglaajnlbnbaaGreatDoor
open Go.RowKit Go.Maps
set_option maxRecDepth 20000

end Go.Proofs.YtfoglaajnlbnbaaGreatDoor

namespace Go.Proofs.YtfoglaajnlbnbaaGreatDoor
open Go.RowKit Go.Maps
set_option maxRecDepth 20000

structure Ex (w : World) (K : Nat → Nat) (g : Nat) (l : List Int) : Prop where
  d : ∃ vl vw, w.heap[g]? = some (.cells #[vl, vw] 167 (0, 0)) ∧ OI w 0 vl l ∧ OI w 0 vw (wds l) ∧ (∀ k, vl.ownBlock = some k → K k ≠ 0) ∧ (∀ k, vw.ownBlock = some k → K k ≠ 0)
  k : K g ≠ 0
  sup : ∀ k, K k ≠ 0 → k < w.heap.size
  ok : bkE l = 0

theorem Ex.far {w w' : World} {K : Nat → Nat} {g : Nat} {l : List Int} (h : Ex w K g l) (hsz : w.heap.size ≤ w'.heap.size) (hb : ∀ k, K k ≠ 0 → w'.heap[k]? = w.heap[k]?) : Ex w' K g l := by
  obtain ⟨vl, vw, a1, a2, a3, a4, a5⟩ := h.d
  exact ⟨⟨vl, vw, (hb g h.k).trans a1, a2.move fun k hk => hb k (a4 k hk), a3.move fun k hk => hb k (a5 k hk), a4, a5⟩, h.k, fun k hk => Nat.lt_of_lt_of_le (h.sup k hk) hsz, h.ok⟩

def tex (g : Nat) (l : List Int) : Thing := ⟨fun w K => Ex w K g l, fun h a b => h.far a b, fun h => h.sup⟩

def MadeEx (w : World) (l : List Int) (e : Ending) (w' : World) : Prop := Below w.heap.size w w' ∧ ((bkE l ≠ 0 ∧ e = .returned (.tuple #[.pointer none, .int .i64 (bkE l)])) ∨ (bkE l = 0 ∧ ∃ g K, e = .returned (.tuple #[.pointer (some ⟨g, 0, none⟩), .int .i64 0]) ∧ Ex w' K g l ∧ ∀ k, K k ≠ 0 → w.heap.size ≤ k))

theorem cd_of_bk {l : List Int} (h0 : chkE l = 0) (h3 : shp l ≠ 3) : cdE l = 0 ∧ cdL l = wds l := by
  have e : cdE l = 0 := by unfold cdE; rw [if_neg (by simp [h0]), if_neg h3]
  exact ⟨e, if_pos e⟩

set_option maxHeartbeats 1000000 in
theorem xnewEncoder_any (v : Value) (l : List Int) (w : World) (h : SI w v l) :
    Calls Tryz.prog 78 #[v] w fun e w' => MadeEx w l e w' := by
  have HS := hide h
  obtain ⟨ao, cap, rfl, hlc, hcm⟩ := h.open
  clear h
  by_cases h0 : chkE l = 0
  case neg =>
    have h1 : (chkE l == 0) = false := by simpa using h0
    have hE : bkE l = chkE l := if_pos h0
    have HE := hide hE
    have HNE : Hid (bkE l ≠ 0) := by show _ ≠ _; rw [hE]; exact h0
    obtain ⟨q, HQ⟩ : ∃ q, Hid (q = chkE l) := ⟨_, rfl⟩
    obtain ⟨r, HR⟩ : ∃ q, Hid (q = chkS l) := ⟨_, rfl⟩
    rw [← HQ.out] at h0 h1 HE
    clear hE
    go_enter Tryz.func78, Tryz.ntmps78
    go_wp2_with fail
    refine (xcheck_any _ l _ HS.out).mono ?_
    rintro e w1 ⟨rfl, rfl⟩
    rw [← HQ.out, ← HR.out]
    go_wp2
    go_ret2
    exact ⟨Below.refl _ _, .inl ⟨HNE.out, by rw [HE.out]; rfl⟩⟩
  obtain ⟨hl, hs⟩ := chkE_zero h0
  have HL := hide hl
  have h288 := hl.1
  have HR := hide hs
  have HQ := hide h0
  have hbk : bkE l = if shp l = 2 then 52 else if shp l = 3 then 51 else 0 := by unfold bkE; rw [if_neg (by simp [h0])]
  clear hl hs
  by_cases c2 : shp l = 2
  · have hE : bkE l = 52 := by rw [hbk, if_pos c2]
    have HE := hide hE
    clear hE hbk h0
    go_enter Tryz.func78, Tryz.ntmps78
    go_wp2_with fail
    refine (xcheck_any _ l _ HS.out).mono ?_
    rintro e w1 ⟨rfl, rfl⟩
    rw [HQ.out, HR.out, c2]
    go_wp2
    go_ret2
    exact ⟨Below.refl _ _, .inl ⟨by rw [HE.out]; decide, by rw [HE.out]; rfl⟩⟩
  by_cases c3 : shp l = 3
  · have hE : bkE l = 51 := by rw [hbk, if_neg c2, if_pos c3]
    have HE := hide hE
    clear hE hbk c2 h0
    go_enter Tryz.func78, Tryz.ntmps78
    go_wp2_with fail
    refine (xcheck_any _ l _ HS.out).mono ?_
    rintro e w1 ⟨rfl, rfl⟩
    rw [HQ.out, HR.out, c3]
    go_wp2
    go_ret2
    exact ⟨Below.refl _ _, .inl ⟨by rw [HE.out]; decide, by rw [HE.out]; rfl⟩⟩
  have hE : bkE l = 0 := by rw [hbk, if_neg c2, if_neg c3]
  have HE := hide hE
  have HCD := hide (cd_of_bk h0 c3)
  obtain ⟨r, HR2⟩ : ∃ q, Hid (q = shp l) := ⟨_, rfl⟩
  rw [← HR2.out] at c2 c3
  have c2' : (r == 2) = false := by simpa using c2
  have c3' : (r == 3) = false := by simpa using c3
  clear hE hbk h0
  go_enter Tryz.func78, Tryz.ntmps78
  go_wp2_with fail
  refine (xcheck_any _ l _ HS.out).mono ?_
  rintro e w1 ⟨rfl, rfl⟩
  rw [HQ.out, HR.out, ← HR2.out]
  go_wp2_with fail
  refine (xcodes_any _ l _ HS.out).mono ?_
  rintro e w2 ⟨a2, c2, rfl, ho2, hb2⟩
  rw [HCD.out.2, wds_len] at ho2
  rw [HCD.out.1, HCD.out.2, wds_len]
  have HO2 := hide ho2
  have HB2 := hide hb2
  have HS2 := hide (HS.out.below hb2)
  clear ho2 hb2
  obtain ⟨V, HV⟩ : ∃ V, Hid (V = w2.alloc (.cells #[.slice none 0 0, .slice a2 l.length c2] 167)) := ⟨_, rfl⟩
  have hbox : V.heap[w2.heap.size]? = some (.cells #[.slice none 0 0, .slice a2 l.length c2] 167 (0, 0)) := by rw [HV.out]; exact heap_alloc_new w2 _
  have hbV : Below w2.heap.size w2 V := by rw [HV.out]; exact (Below.refl _ _).alloc (Nat.le_refl _) _
  have HBOX := hide hbox
  have HSR : Hid (Src Tryz.prog 1 65 (.slice ao l.length cap) l.length (l.map (Value.int .i64)) (w2.alloc (.cells #[.slice none 0 0, .slice a2 l.length c2] 167))) := by rw [← HV.out]; exact (HS2.out.below hbV).src
  have HOV := hide (HO2.out.below hbV (Nat.le_refl _))
  have HBV := hide (HB2.out.trans (hbV.mono HB2.out.size))
  have HSZ : Hid (V.heap.size = w2.heap.size + 1) := by show _ = _; rw [HV.out]; simp
  have hw12 : w1.heap.size ≤ w2.heap.size := HB2.out.size
  clear hbox hbV
  go_wp2_with (at_builtin; refine wpList_appI rfl _ _ 65 rfl w1.heap.size _ _ [] l rfl (World.ownsRow_nil _ _ _ _) rfl HSR.out (by simp; omega) (by simp; omega) ?_)
  rw [← HV.out]
  intro v3 w3 ho3 hgr3
  have hB3 : w3.heap[w2.heap.size]? = some (.cells #[.slice none 0 0, .slice a2 l.length c2] 167 (0, 0)) := (hgr3.by.block _ (by rw [HSZ.out]; omega) (by simp [Value.ownBlock])).trans HBOX.out
  have k0 : w3.cell? ⟨w2.heap.size, 0, none⟩ = some (.slice none 0 0) := by rw [cell_of_row _ _ _ _ _ _ hB3]; rfl
  have f0 : w3.frozen? ⟨w2.heap.size, 0, none⟩ = false := frozen_of_row _ _ _ _ _ hB3
  obtain ⟨a3, c3', hv3⟩ := ho3.shape
  have HF : Hid (MadeEx w1 l (.returned (.tuple #[.pointer (some ⟨w2.heap.size, 0, none⟩), .int .i64 0])) (w3.setCell ⟨w2.heap.size, 0, none⟩ v3)) := by
    have hnb : ∀ k, v3.ownBlock = some k → k ≠ w2.heap.size := fun k hk e => by
      rcases hgr3.at with h | h
      · rw [h, HSZ.out] at hk; simp at hk; omega
      · rw [h] at hk; simp [Value.ownBlock] at hk
    have p1 : OI (w3.setCell ⟨w2.heap.size, 0, none⟩ v3) w1.heap.size v3 l := (show OI w3 w1.heap.size v3 l from ho3).move fun k hk => setCell_others w3 _ _ _ _ (hnb k hk)
    have q2 : OI w3 w1.heap.size (.slice a2 l.length c2) (wds l) := HOV.out.move fun k hk => hgr3.by.block k (HOV.out.lt k hk).2 (by simp [Value.ownBlock])
    have p2 : OI (w3.setCell ⟨w2.heap.size, 0, none⟩ v3) w1.heap.size (.slice a2 l.length c2) (wds l) := q2.move fun k hk => setCell_others w3 _ _ _ _ (fun e => by have := (HO2.out.lt k hk).2; omega)
    have hsz3 : w2.heap.size < w3.heap.size := by have := hgr3.by.size; rw [HSZ.out] at this; omega
    have hbel : Below w1.heap.size w1 (w3.setCell ⟨w2.heap.size, 0, none⟩ v3) := by
      have h1 : Below w1.heap.size w1 w3 := HBV.out.grown hgr3.by HBV.out.size (fun k hk => by simp [Value.ownBlock] at hk)
      exact h1.setCell (by show _ ≤ w2.heap.size; omega) _
    refine ⟨hbel, .inr ⟨HE.out, w2.heap.size, fun k => if k = w2.heap.size ∨ v3.ownBlock = some k ∨ (Value.slice a2 l.length c2).ownBlock = some k then 1 else 0, rfl, ⟨⟨v3, .slice a2 l.length c2, ?_, p1.base (Nat.zero_le _), p2.base (Nat.zero_le _), fun k hk => by simp [hk], fun k hk => by simp [hk]⟩, by simp, fun k hk => ?_, HE.out⟩, fun k hk => ?_⟩⟩
    · rw [heap_setCell_same _ _ _ _ _ _ hB3]; rfl
    · by_cases c : k = w2.heap.size ∨ v3.ownBlock = some k ∨ (Value.slice a2 l.length c2).ownBlock = some k
      · rcases c with rfl | c | c
        · rw [size_setCell]; exact hsz3
        · exact (p1.lt k c).2
        · exact (p2.lt k c).2
      · simp [c] at hk
    · by_cases c : k = w2.heap.size ∨ v3.ownBlock = some k ∨ (Value.slice a2 l.length c2).ownBlock = some k
      · rcases c with rfl | c | c
        · exact hw12
        · exact (p1.lt k c).1
        · exact (p2.lt k c).1
      · simp [c] at hk
  subst hv3
  clear ho3 hgr3 hB3
  go_wp2
  go_ret2
  exact HF.out

theorem hxencode {W w : World} {xs : List ((Nat → Nat) × Thing)} (H : Herd W w xs) (v : Value) (l : List Int) (h : SI w v l) :
    Calls Tryz.prog 78 #[v] w fun e w' => (bkE l ≠ 0 ∧ e = .returned (.tuple #[.pointer none, .int .i64 (bkE l)]) ∧ Herd W w' xs) ∨ (bkE l = 0 ∧ ∃ g K, e = .returned (.tuple #[.pointer (some ⟨g, 0, none⟩), .int .i64 0]) ∧ Herd W w' (xs ++ [(K, tex g l)])) := by
  refine (xnewEncoder_any v l w h).mono ?_
  rintro e w1 ⟨hb, h | ⟨h0, g, K, rfl, hd, hk⟩⟩
  · exact .inl ⟨h.1, h.2, H.below hb⟩
  · exact .inr ⟨h0, g, K, rfl, H.push hb hd hk⟩

theorem xelen_any {w : World} {K : Nat → Nat} {g : Nat} {l : List Int} (h : Ex w K g l) (s : Int) (hs0 : -9223372036854775808 ≤ s) (hs1 : s ≤ 9223372036854775807) :
    Calls Tryz.prog 112 #[.pointer (some ⟨g, 0, none⟩), .int .i64 s] w fun e w' => e = .returned (.int .i64 (lnI l s)) ∧ w' = w := by
  obtain ⟨vl, vw, a1, a2, a3, _⟩ := h.d
  have hl := (bkE_zero h.ok).1
  have HL := hide hl
  have h288 := hl.1
  have c0 : w.cell? ⟨g, 0, none⟩ = some vl := by rw [cell_of_row _ _ _ _ _ _ a1]; rfl
  obtain ⟨al, cl, hvl⟩ := a2.shape
  have HO := hide a2
  obtain ⟨q1, q2⟩ : l.length ≤ cl ∧ cl ≤ 9223372036854775807 := by
    have hsb := a2.sb
    rw [hvl] at hsb
    obtain ⟨_, _, e1, e2, e3⟩ := hsb.open
    simp only [Value.slice.injEq] at e1
    obtain ⟨-, -, rfl⟩ := e1
    exact ⟨e2, e3⟩
  clear h a1 a2 a3 hl
  by_cases hs : 0 ≤ s ∧ s < l.length
  · have HE : Hid (lnI l s = ln l s.toNat) := if_pos hs
    rw [HE.out]
    obtain ⟨n, rfl⟩ : ∃ n : Nat, s = n := ⟨s.toNat, by omega⟩
    have hn : n < l.length := by omega
    obtain ⟨b, c, hv, _⟩ := HO.out.form (by omega)
    have hc := HO.out.get (b := b) (by rw [hv]; rfl) hn
    rw [(HL.out.ln n).1] at hc
    rw [hv] at c0
    simp only [Int.toNat_natCast]
    rw [hvl] at hv
    simp only [Value.slice.injEq] at hv
    obtain ⟨rfl, -, rfl⟩ := hv
    have h1 : ¬ (n : Int) < 0 := by omega
    have h2 : ¬ (l.length : Int) ≤ n := by omega
    clear hs hvl
    go_enter Tryz.func112, Tryz.ntmps112
    go_wp2
    go_ret
    exact ⟨rfl, rfl⟩
  · have HE : Hid (lnI l s = 0) := if_neg hs
    rw [HE.out]
    rw [hvl] at c0
    by_cases h1 : s < 0
    · clear hs
      go_enter Tryz.func112, Tryz.ntmps112
      go_wp2
      go_ret
      exact ⟨rfl, rfl⟩
    · have h2 : (l.length : Int) ≤ s := by omega
      clear hs
      go_enter Tryz.func112, Tryz.ntmps112
      go_wp2
      go_ret
      exact ⟨rfl, rfl⟩

set_option maxHeartbeats 2000000 in
theorem hxeput {W w : World} {xs : List ((Nat → Nat) × Thing)} (H : Herd W w xs) (i j : Nat) {K Kw : Nat → Nat} {g r : Nat} {l row : List Int} (hi : xs[i]? = some (K, tex g l)) (hj : xs[j]? = some (Kw, tx r row)) (s : Int) (hs0 : -9223372036854775808 ≤ s) (hs1 : s ≤ 9223372036854775807) :
    Calls Tryz.prog 79 #[.pointer (some ⟨g, 0, none⟩), .pointer (some ⟨r, 0, none⟩), .int .i64 s] w fun e w' => e = .returned (.int .i64 (epE l row s)) ∧ ∃ K', Herd W w' (xs.set j (K', tx r (epR l row s))) := by
  have hE : Ex w K g l := H.rep i _ hi
  have hl := (bkE_zero hE.ok).1
  have HL := hide hl
  have hu := us_le hE.ok
  have HH := hide H
  have HI := hide hi
  have HJ := hide hj
  have HEE := hide hE
  have hset : xs.set j (Kw, tx r row) = xs := by
    apply List.ext_getElem?
    intro n
    rw [List.getElem?_set]
    by_cases c : j = n
    · subst c
      rw [if_pos rfl, hj, if_pos (List.getElem?_eq_some_iff.1 hj).1]
    · rw [if_neg c]
  have HST := hide hset
  by_cases h0 : lnI l s = 0
  · have HE : Hid (epE l row s = 56) := if_pos h0
    have HR : Hid (epR l row s = row) := if_neg (by rw [HE.out]; decide)
    rw [HE.out, HR.out]
    have HN := hide h0
    clear hE hl hu H hi hj hset h0
    go_enter Tryz.func79, Tryz.ntmps79
    go_wp2_with fail
    refine (xelen_any HEE.out s hs0 hs1).mono ?_
    rintro e w1 ⟨rfl, rfl⟩
    rw [HN.out]
    go_wp2
    go_ret
    exact ⟨rfl, Kw, by rw [HST.out]; exact HH.out⟩
  · obtain ⟨b0, b1, b2⟩ := lnI_pos h0
    obtain ⟨n, rfl⟩ : ∃ n : Nat, s = n := ⟨s.toNat, by omega⟩
    simp only [Int.toNat_natCast] at b2
    have hn : n < l.length := by omega
    have hlt := word_lt hl hu (s := n)
    have h15 := (hl.ln n).2
    have HEQ : Hid (epE l row n = putE row (val (wb l n)) (ln l n) ∧ epR l row n = putRow row (val (wb l n)) (ln l n)) := by
      have hvb := val_bound (wb_bit l n)
      rw [wb_len] at hvb
      have hbv : bts (val (wb l n)) (ln l n) = wb l n := by have := bts_val (wb_bit l n); rwa [wb_len] at this
      have hfit : Fit (val (wb l n)) (ln l n) := ⟨⟨by omega, by omega⟩, by simp; exact hvb.2⟩
      have hE1 : epE l row n = if row.length + ln l n ≤ 268435456 then 0 else 1 := by unfold epE; rw [if_neg h0, b2]
      by_cases c : row.length + ln l n ≤ 268435456
      · have hok : putOk row (val (wb l n)) (ln l n) := ⟨hfit, by omega⟩
        have e1 : epE l row n = 0 := by rw [hE1, if_pos c]
        refine ⟨by rw [e1]; unfold putE; rw [if_pos hok], ?_⟩
        unfold epR putRow
        rw [if_pos e1, if_pos hok, Int.toNat_natCast, Int.toNat_natCast, hbv]
      · have hok : ¬ putOk row (val (wb l n)) (ln l n) := fun h => c (by have := h.2; omega)
        have e1 : epE l row n = 1 := by rw [hE1, if_neg c]
        refine ⟨by rw [e1]; unfold putE; rw [if_neg hok], ?_⟩
        unfold epR putRow
        rw [if_neg (by rw [e1]; decide), if_neg hok]
    obtain ⟨vl, vw, a1, a2, a3, _⟩ := hE.d
    have c1 : w.cell? ⟨g, 1, none⟩ = some vw := by rw [cell_of_row _ _ _ _ _ _ a1]; rfl
    obtain ⟨bw, cw, hvw, _, _, q1, q2⟩ := a3.form (by rw [wds_len]; omega)
    have cw1 := a3.get (b := bw) (by rw [hvw]; rfl) (i := n) (by rw [wds_len]; exact hn)
    rw [wds_get hn] at cw1
    rw [wds_len] at hvw q1
    subst hvw
    rw [HEQ.out.1, HEQ.out.2]
    have hwb : val (wb l n) = val (bts (wd l n) (ln l n)).reverse := rfl
    rw [hwb]
    have h2n : 2 ^ ln l n ≤ 2 ^ 15 := Nat.pow_le_pow_right (by decide) h15
    have hm0 : ln l n ≠ 0 := by rw [← b2]; exact h0
    obtain ⟨m, HM⟩ : ∃ m : Nat, Hid (m = ln l n) := ⟨_, rfl⟩
    obtain ⟨y, HY⟩ : ∃ y : Nat, Hid (y = wd l n) := ⟨_, rfl⟩
    rw [← HM.out] at h15 hm0 b2 ⊢
    rw [← HY.out] at cw1 ⊢
    have hy : y < 32768 := by rw [HY.out]; omega
    have HB2 : Hid (lnI l (n : Int) = m) := b2
    have hmz : ((m : Int) == 0) = false := by simp; omega
    have h288 := hl.1
    clear hE hl hu H hi hj hset h0 hlt a1 a2 a3 h2n b2 hwb
    go_enter Tryz.func79, Tryz.ntmps79
    go_wp2_with fail
    refine (xelen_any HEE.out n hs0 hs1).mono ?_
    rintro e w1 ⟨rfl, rfl⟩
    rw [HB2.out]
    go_wp2
    go_loopw [8, 9, 10] (fun a b q wr => ∃ k : Nat, k ≤ m ∧ q = .int .i64 k ∧ a = .int .u32 (val (bts (y : Int) k).reverse) ∧ b = .int .i64 ((y : Int) / 2 ^ k) ∧ wr = w1) (fun _ _ q _ => m - (intOf q).toNat)
    case atStart => exact ⟨0, Nat.zero_le _, rfl, rfl, by simp, rfl⟩
    case round =>
      obtain ⟨k, hk, rfl, rfl, rfl, rfl⟩ := hrel
      by_cases hkm : k < m
      · have hkm' : (k : Int) < (m : Int) := by omega
        have hb := rev_bound (y : Int) k
        have hp2 : (2 : Int) ^ k ≤ 2 ^ 15 := pow_le (by omega)
        have HSN := hide (rev_snoc (y : Int) k)
        have hpk := pow_pos k
        have hd0 : 0 ≤ (y : Int) / 2 ^ k := Int.ediv_nonneg (by omega) (Int.le_of_lt hpk)
        have hd1 : (y : Int) / 2 ^ k ≤ y := Int.ediv_le_self _ (by omega)
        have HDD : Hid ((y : Int) / 2 ^ (k + 1) = (y : Int) / 2 ^ k / 2) := by
          show _ = _
          rw [pow_add1, Int.mul_comm, Int.ediv_ediv_of_nonneg (Int.le_of_lt hpk)]
        obtain ⟨R, HR⟩ : ∃ R, Hid (R = val (bts (y : Int) k).reverse) := ⟨_, rfl⟩
        obtain ⟨D, HD⟩ : ∃ D, Hid (D = (y : Int) / 2 ^ k) := ⟨_, rfl⟩
        rw [← HR.out] at hb HSN ⊢
        rw [← HD.out] at HSN HDD hd0 hd1 ⊢
        have hR1 : R < 32768 := by omega
        have hR0 : 0 ≤ R := hb.1
        have tm : D.tmod 2 = D % 2 := Int.tmod_eq_emod_of_nonneg hd0
        have tdv : D.tdiv 2 = D / 2 := Int.tdiv_eq_ediv_of_nonneg hd0
        have hw1' : IntKind.u32.wrap (2 * R) = 2 * R := by rw [IntKind.wrap_u32]; omega
        have hw2' : IntKind.u32.wrap (D % 2) = D % 2 := by rw [IntKind.wrap_u32]; omega
        have hw3' : IntKind.u32.wrap (2 * R + D % 2) = 2 * R + D % 2 := by rw [IntKind.wrap_u32]; omega
        clear hb hp2 hpk
        go_wp2
        go_roundw
        case rel => exact ⟨k + 1, by omega, by go_num, by first | (rw [HSN.out, Int.add_comm]; done) | (rw [HSN.out]; congr 1; simp only [*]; omega) , by rw [HDD.out], by trivial⟩
        case measure => simp [intOf]; omega
      · obtain rfl : k = m := by omega
        have hkm' : ¬ (k : Int) < (k : Int) := by omega
        have hb := rev_bound (y : Int) k
        have hp2 : (2 : Int) ^ k ≤ 2 ^ 15 := pow_le (by omega)
        obtain ⟨R, HR⟩ : ∃ R, Hid (R = val (bts (y : Int) k).reverse) := ⟨_, rfl⟩
        rw [← HR.out] at hb ⊢
        have hR1 : R < 4294967296 := by omega
        have hR0 : 0 ≤ R := hb.1
        clear hb hp2
        go_wp2_with fail
        refine (hxput HH.out j HJ.out R k hR0 hR1).mono ?_
        rintro e w3 ⟨rfl, K', h3⟩
        have HX := hide h3
        clear h3
        go_wp2
        go_ret
        rw [← HR.out]
        exact ⟨rfl, K', HX.out⟩
end Go.Proofs.YtfoglaajnlbnbaaGreatDoor

namespace Go.Proofs.YtfoglaajnlbnbaaGreatDoor
open Go.RowKit Go.Maps
set_option maxRecDepth 20000
set_option linter.unusedVariables false

theorem run1_doc {l : List Int} {k m : Nat} {V P : Int} (hk : k < l.length) (hV : V = l.getD k 0) (hm : m = eqn V (l.drop k)) (hP : 0 < k → P = l.getD (k - 1) 0) :
    (V = 0 → 11 ≤ m → run1 l k = (18, ((min m 138 : Nat) : Int))) ∧ (V = 0 → m < 11 → 3 ≤ m → run1 l k = (17, (m : Int))) ∧ (V = 0 → m < 3 → run1 l k = (V, 1)) ∧
    (V ≠ 0 → 0 < k → P = V → 3 ≤ m → run1 l k = (16, ((min m 6 : Nat) : Int))) ∧ (V ≠ 0 → ¬ (0 < k ∧ P = V ∧ 3 ≤ m) → run1 l k = (V, 1)) := by
  unfold run1
  rw [← hV, ← hm]
  refine ⟨fun h1 h2 => ?_, fun h1 h2 h3 => ?_, fun h1 h2 => ?_, fun h1 h2 h3 h4 => ?_, fun h1 h2 => ?_⟩
  · subst h1
    rw [← hm, if_pos ⟨rfl, h2⟩]
  · subst h1
    rw [← hm, if_neg (by omega), if_pos ⟨rfl, h3⟩]
  · subst h1
    rw [← hm, if_neg (by omega), if_neg (by omega), if_neg (by omega)]
  · rw [if_neg (fun q => h1 q.1), if_neg (fun q => h1 q.1), if_pos ⟨h1, h2, by rw [← hP h2]; exact h3, h4⟩]
  · rw [if_neg (fun q => h1 q.1), if_neg (fun q => h1 q.1), if_neg (fun q => h2 ⟨q.2.1, by rw [hP q.2.1]; exact q.2.2.1, q.2.2.2⟩)]

set_option maxHeartbeats 2000000 in
theorem xrun_any (k : Nat) (v : Value) (l : List Int) (w : World) (h : SI w v l) (hk : k < l.length) (hn : l.length ≤ 1048576) :
    Calls Tryz.prog 161 #[v, .int .i64 k] w fun e w' => e = .returned (.agg #[.int .i64 (run1 l k).1, .int .i64 (run1 l k).2]) ∧ Below w.heap.size w w' := by
  have HS := hide h
  obtain ⟨ao, cap, rfl, hlc, hcm⟩ := h.open
  clear h
  obtain ⟨b, o, rfl, c0⟩ := HS.out.get (Below.refl _ _) hk
  obtain ⟨wb, hwb⟩ : ∃ wb, w.alloc (.cells #[.int .i64 0, .int .i64 0] 182) = wb := ⟨_, rfl⟩
  have hb0 : Below w.heap.size w wb := by rw [← hwb]; exact (Below.refl _ _).alloc (Nat.le_refl _) _
  have c1 : 0 < k → wb.cell? ⟨b, o + (k - 1), none⟩ = some (.int .i64 (l.getD (k - 1) 0)) := fun hz => by
    obtain ⟨b', o', e, c⟩ := HS.out.get hb0 (k := k - 1) (by omega)
    simp only [Option.some.injEq, Addr.mk.injEq, and_true] at e
    obtain ⟨rfl, rfl⟩ := e
    exact c
  have HEQ := hide (equals_any k _ l wb (HS.out.below hb0) hk hn)
  have c00 : wb.cell? ⟨b, o + k, none⟩ = some (.int .i64 (l.getD k 0)) := by
    obtain ⟨b', o', e, c⟩ := HS.out.get hb0 hk
    simp only [Option.some.injEq, Addr.mk.injEq, and_true] at e
    obtain ⟨rfl, rfl⟩ := e
    exact c
  have hg0 : wb.heap[w.heap.size]? = some (.cells #[.int .i64 0, .int .i64 0] 182 (0, 0)) := by rw [← hwb]; exact heap_alloc_new w _
  have d0 : wb.cell? ⟨w.heap.size, 0, none⟩ = some (.int .i64 0) := by unfold World.cell?; rw [hg0]; rfl
  have d1 : wb.cell? ⟨w.heap.size, 1, none⟩ = some (.int .i64 0) := by unfold World.cell?; rw [hg0]; rfl
  have e0 : wb.frozen? ⟨w.heap.size, 0, none⟩ = false := by unfold World.frozen?; rw [hg0]; rfl
  have e1 : wb.frozen? ⟨w.heap.size, 1, none⟩ = false := by unfold World.frozen?; rw [hg0]; rfl
  have HFIN : Hid (∀ q p1 p2, Below w.heap.size w (((wb.drewN q).setCell ⟨w.heap.size, 0, none⟩ (.int .i64 p1)).setCell ⟨w.heap.size, 1, none⟩ (.int .i64 p2)) ∧ (((wb.drewN q).setCell ⟨w.heap.size, 0, none⟩ (.int .i64 p1)).setCell ⟨w.heap.size, 1, none⟩ (.int .i64 p2)).heap[w.heap.size]? = some (.cells #[.int .i64 p1, .int .i64 p2] 182 (0, 0))) := fun q p1 p2 =>
    ⟨((below_drewN hb0 q).setCell (p := ⟨w.heap.size, 0, none⟩) (Nat.le_refl _) _).setCell (p := ⟨w.heap.size, 1, none⟩) (Nat.le_refl _) _, by
      have e1 : ((wb.drewN q).setCell ⟨w.heap.size, 0, none⟩ (.int .i64 p1)).heap[w.heap.size]? = _ := heap_setCell_at _ (show (wb.drewN q).heap[w.heap.size]? = _ from hg0)
      rw [heap_setCell_at _ e1]
      rfl⟩
  have HWB := hide hwb
  obtain ⟨P, hP⟩ : ∃ P, 0 < k → P = l.getD (k - 1) 0 := ⟨_, fun _ => rfl⟩
  obtain ⟨V, hV⟩ : ∃ V, V = l.getD k 0 := ⟨_, rfl⟩
  obtain ⟨m, hm⟩ : ∃ m, m = eqn V (l.drop k) := ⟨_, rfl⟩
  obtain ⟨r1, r2, r3, r4, r5⟩ := run1_doc hk hV hm hP
  have hmm : m ≤ 1048576 := by have := eqn_le V (l.drop k); rw [List.length_drop] at this; omega
  have c1' : 0 < k → wb.cell? ⟨b, o + (k - 1), none⟩ = some (.int .i64 P) := fun z => by rw [hP z]; exact c1 z
  rw [← hV] at HEQ c0 c00
  rw [← hm] at HEQ
  have HC1 := hide c1'
  have c000 : (w.alloc (.cells #[.int .i64 0, .int .i64 0] 182)).cell? ⟨b, o + k, none⟩ = some (.int .i64 V) := by rw [hwb]; exact c00
  clear hwb hb0 c1 c1' hg0 hP hV hm
  have hk' : (k : Int) < (l.length : Int) := by omega
  by_cases v0 : V = 0
  · subst v0
    by_cases m11 : 11 ≤ m
    · have HR := hide (r1 rfl m11)
      clear r1 r2 r3 r4 r5
      go_enter Tryz.func161, Tryz.ntmps161
      go_wp2_with fail
      rw [HWB.out]
      refine HEQ.out.mono ?_
      rintro e w2 ⟨rfl, q, hw2⟩
      subst hw2
      go_wp2_with fail
      refine (lesser_any m 138 _).mono ?_
      rintro e w3 ⟨rfl, hw3⟩
      subst hw3
      go_wp2
      obtain ⟨hfb, hfc⟩ := HFIN.out q (18) ((min m 138 : Nat))
      obtain ⟨wf, hwf⟩ : ∃ wf, (((wb.drewN q).setCell ⟨w.heap.size, 0, none⟩ (.int .i64 (18))).setCell ⟨w.heap.size, 1, none⟩ (.int .i64 ((min m 138 : Nat)))) = wf := ⟨_, rfl⟩
      rw [hwf] at hfb hfc ⊢
      have z0 : wf.cell? ⟨w.heap.size, 0, none⟩ = some (.int .i64 (18)) := by unfold World.cell?; rw [hfc]; rfl
      have z1 : wf.cell? ⟨w.heap.size, 1, none⟩ = some (.int .i64 ((min m 138 : Nat))) := by unfold World.cell?; rw [hfc]; rfl
      refine bodyPost_ret (v := .agg #[.int .i64 (18), .int .i64 ((min m 138 : Nat))]) (by simp [results, Tryz.results161, go_sem, z0, z1]) rfl ?_
      rw [HR.out]
      exact ⟨rfl, hfb⟩
    · by_cases m3 : 3 ≤ m
      · have HR := hide (r2 rfl (by omega) m3)
        have hm11 : ¬ (11 : Int) ≤ (m : Int) := by omega
        clear r1 r2 r3 r4 r5
        go_enter Tryz.func161, Tryz.ntmps161
        go_wp2_with fail
        rw [HWB.out]
        refine HEQ.out.mono ?_
        rintro e w2 ⟨rfl, q, hw2⟩
        subst hw2
        go_wp2
        obtain ⟨hfb, hfc⟩ := HFIN.out q (17) (m)
        obtain ⟨wf, hwf⟩ : ∃ wf, (((wb.drewN q).setCell ⟨w.heap.size, 0, none⟩ (.int .i64 (17))).setCell ⟨w.heap.size, 1, none⟩ (.int .i64 (m))) = wf := ⟨_, rfl⟩
        rw [hwf] at hfb hfc ⊢
        have z0 : wf.cell? ⟨w.heap.size, 0, none⟩ = some (.int .i64 (17)) := by unfold World.cell?; rw [hfc]; rfl
        have z1 : wf.cell? ⟨w.heap.size, 1, none⟩ = some (.int .i64 (m)) := by unfold World.cell?; rw [hfc]; rfl
        refine bodyPost_ret (v := .agg #[.int .i64 (17), .int .i64 (m)]) (by simp [results, Tryz.results161, go_sem, z0, z1]) rfl ?_
        rw [HR.out]
        exact ⟨rfl, hfb⟩
      · have HR := hide (r3 rfl (by omega))
        have hm11 : ¬ (11 : Int) ≤ (m : Int) := by omega
        have hm3 : ¬ (3 : Int) ≤ (m : Int) := by omega
        clear r1 r2 r3 r4 r5
        go_enter Tryz.func161, Tryz.ntmps161
        go_wp2_with fail
        rw [HWB.out]
        refine HEQ.out.mono ?_
        rintro e w2 ⟨rfl, q, hw2⟩
        subst hw2
        go_wp2
        obtain ⟨hfb, hfc⟩ := HFIN.out q (0) (1)
        obtain ⟨wf, hwf⟩ : ∃ wf, (((wb.drewN q).setCell ⟨w.heap.size, 0, none⟩ (.int .i64 (0))).setCell ⟨w.heap.size, 1, none⟩ (.int .i64 (1))) = wf := ⟨_, rfl⟩
        rw [hwf] at hfb hfc ⊢
        have z0 : wf.cell? ⟨w.heap.size, 0, none⟩ = some (.int .i64 (0)) := by unfold World.cell?; rw [hfc]; rfl
        have z1 : wf.cell? ⟨w.heap.size, 1, none⟩ = some (.int .i64 (1)) := by unfold World.cell?; rw [hfc]; rfl
        refine bodyPost_ret (v := .agg #[.int .i64 (0), .int .i64 (1)]) (by simp [results, Tryz.results161, go_sem, z0, z1]) rfl ?_
        rw [HR.out]
        exact ⟨rfl, hfb⟩
  · have v0' : (V == 0) = false := by simpa using v0
    have v0'' : (V != 0) = true := by simpa using v0
    by_cases k0 : 0 < k
    · have k0' : (0 : Int) < (k : Int) := by omega
      have cp := HC1.out k0
      obtain ⟨j, hj⟩ : ∃ j, k = j + 1 := ⟨k - 1, by omega⟩
      have cp2 : wb.cell? ⟨b, o + j, none⟩ = some (.int .i64 P) := by rw [hj, Nat.add_sub_cancel] at cp; exact cp
      have ej : ((k : Int) - 1).toNat = j := by omega
      have hj1 : (k : Int) - 1 = (j : Int) := by omega
      have HJ := hide hj
      by_cases pv : P = V
      · by_cases m3 : 3 ≤ m
        · have HR := hide (r4 v0 k0 pv m3)
          have m3' : (3 : Int) ≤ (m : Int) := by omega
          subst pv
          clear r1 r2 r3 r4 r5 hj
          go_enter Tryz.func161, Tryz.ntmps161
          go_wp2_with fail
          rw [HWB.out]
          refine HEQ.out.mono ?_
          rintro e w2 ⟨rfl, q, hw2⟩
          subst hw2
          go_wp2_with fail
          refine (lesser_any m 6 _).mono ?_
          rintro e w3 ⟨rfl, hw3⟩
          subst hw3
          go_wp2
          obtain ⟨hfb, hfc⟩ := HFIN.out q (16) ((min m 6 : Nat))
          obtain ⟨wf, hwf⟩ : ∃ wf, (((wb.drewN q).setCell ⟨w.heap.size, 0, none⟩ (.int .i64 (16))).setCell ⟨w.heap.size, 1, none⟩ (.int .i64 ((min m 6 : Nat)))) = wf := ⟨_, rfl⟩
          rw [hwf] at hfb hfc ⊢
          have z0 : wf.cell? ⟨w.heap.size, 0, none⟩ = some (.int .i64 (16)) := by unfold World.cell?; rw [hfc]; rfl
          have z1 : wf.cell? ⟨w.heap.size, 1, none⟩ = some (.int .i64 ((min m 6 : Nat))) := by unfold World.cell?; rw [hfc]; rfl
          refine bodyPost_ret (v := .agg #[.int .i64 (16), .int .i64 ((min m 6 : Nat))]) (by simp [results, Tryz.results161, go_sem, z0, z1]) rfl ?_
          rw [HR.out]
          exact ⟨rfl, hfb⟩
        · have HR := hide (r5 v0 (fun q => m3 q.2.2))
          have m3' : ¬ (3 : Int) ≤ (m : Int) := by omega
          subst pv
          clear r1 r2 r3 r4 r5 hj
          go_enter Tryz.func161, Tryz.ntmps161
          go_wp2_with fail
          rw [HWB.out]
          refine HEQ.out.mono ?_
          rintro e w2 ⟨rfl, q, hw2⟩
          subst hw2
          go_wp2
          obtain ⟨hfb, hfc⟩ := HFIN.out q (P) (1)
          obtain ⟨wf, hwf⟩ : ∃ wf, (((wb.drewN q).setCell ⟨w.heap.size, 0, none⟩ (.int .i64 (P))).setCell ⟨w.heap.size, 1, none⟩ (.int .i64 (1))) = wf := ⟨_, rfl⟩
          rw [hwf] at hfb hfc ⊢
          have z0 : wf.cell? ⟨w.heap.size, 0, none⟩ = some (.int .i64 (P)) := by unfold World.cell?; rw [hfc]; rfl
          have z1 : wf.cell? ⟨w.heap.size, 1, none⟩ = some (.int .i64 (1)) := by unfold World.cell?; rw [hfc]; rfl
          refine bodyPost_ret (v := .agg #[.int .i64 (P), .int .i64 (1)]) (by simp [results, Tryz.results161, go_sem, z0, z1]) rfl ?_
          rw [HR.out]
          exact ⟨rfl, hfb⟩
      · have HR := hide (r5 v0 (fun q => pv q.2.1))
        have pv' : (P == V) = false := by simpa using pv
        clear r1 r2 r3 r4 r5 hj
        go_enter Tryz.func161, Tryz.ntmps161
        go_wp2_with fail
        rw [HWB.out]
        refine HEQ.out.mono ?_
        rintro e w2 ⟨rfl, q, hw2⟩
        subst hw2
        go_wp2
        obtain ⟨hfb, hfc⟩ := HFIN.out q (V) (1)
        obtain ⟨wf, hwf⟩ : ∃ wf, (((wb.drewN q).setCell ⟨w.heap.size, 0, none⟩ (.int .i64 (V))).setCell ⟨w.heap.size, 1, none⟩ (.int .i64 (1))) = wf := ⟨_, rfl⟩
        rw [hwf] at hfb hfc ⊢
        have z0 : wf.cell? ⟨w.heap.size, 0, none⟩ = some (.int .i64 (V)) := by unfold World.cell?; rw [hfc]; rfl
        have z1 : wf.cell? ⟨w.heap.size, 1, none⟩ = some (.int .i64 (1)) := by unfold World.cell?; rw [hfc]; rfl
        refine bodyPost_ret (v := .agg #[.int .i64 (V), .int .i64 (1)]) (by simp [results, Tryz.results161, go_sem, z0, z1]) rfl ?_
        rw [HR.out]
        exact ⟨rfl, hfb⟩
    · have HR := hide (r5 v0 (fun q => k0 q.1))
      have k0' : ¬ (0 : Int) < (k : Int) := by omega
      clear r1 r2 r3 r4 r5
      go_enter Tryz.func161, Tryz.ntmps161
      go_wp2_with fail
      rw [HWB.out]
      refine HEQ.out.mono ?_
      rintro e w2 ⟨rfl, q, hw2⟩
      subst hw2
      go_wp2
      obtain ⟨hfb, hfc⟩ := HFIN.out q (V) (1)
      obtain ⟨wf, hwf⟩ : ∃ wf, (((wb.drewN q).setCell ⟨w.heap.size, 0, none⟩ (.int .i64 (V))).setCell ⟨w.heap.size, 1, none⟩ (.int .i64 (1))) = wf := ⟨_, rfl⟩
      rw [hwf] at hfb hfc ⊢
      have z0 : wf.cell? ⟨w.heap.size, 0, none⟩ = some (.int .i64 (V)) := by unfold World.cell?; rw [hfc]; rfl
      have z1 : wf.cell? ⟨w.heap.size, 1, none⟩ = some (.int .i64 (1)) := by unfold World.cell?; rw [hfc]; rfl
      refine bodyPost_ret (v := .agg #[.int .i64 (V), .int .i64 (1)]) (by simp [results, Tryz.results161, go_sem, z0, z1]) rfl ?_
      rw [HR.out]
      exact ⟨rfl, hfb⟩
end Go.Proofs.YtfoglaajnlbnbaaGreatDoor

namespace Go.Proofs.YtfoglaajnlbnbaaGreatDoor
open Go.RowKit Go.Maps
set_option maxRecDepth 20000
set_option linter.unusedVariables false

theorem boxOf {w : World} {g : Nat} {a b : Value} {t : TypeId} {fr : Nat × Nat} (h : w.heap[g]? = some (.cells #[a, b] t fr)) : w.cell? ⟨g, 0, none⟩ = some a ∧ w.cell? ⟨g, 1, none⟩ = some b := by
  constructor <;> (unfold World.cell?; rw [h]; rfl)

set_option maxHeartbeats 2000000 in
theorem xruns_any (v : Value) (l : List Int) (w : World) (h : SI w v l) (hn : l.length ≤ 1048576) :
    Calls Tryz.prog 125 #[v] w fun e w' => ∃ u, e = .returned (.tuple #[u, .int .i64 (rnE l)]) ∧ OR w' w.heap.size u (rnL l) ∧ Below w.heap.size w w' := by
  have HS := hide h
  obtain ⟨ao, cap, rfl, hlc, hcm⟩ := h.open
  clear h
  go_enter Tryz.func125, Tryz.ntmps125
  go_wp2_with fail
  refine (xlengths_any _ l w HS.out).mono ?_
  rintro e w1 ⟨rfl, hw1⟩
  subst hw1
  by_cases hw : wthb l = true
  · have HE : Hid (rnE l = 0 ∧ rnL l = rns l) := ⟨by unfold rnE; rw [if_pos hw], by unfold rnL; rw [if_pos hw]⟩
    rw [hw]
    go_wp2
    go_loopw [5, 6] (fun u i wr => ∃ (k : Nat) (R : List Rn), k ≤ l.length ∧ i = .int .i64 k ∧ R.length ≤ k ∧ Hid (rns l = R ++ rnK l k) ∧ Hid (OR wr w1.heap.size u R) ∧ Hid (Below w1.heap.size w1 wr)) (fun _ i _ => l.length - (intOf i).toNat)
    case atStart => exact ⟨0, [], Nat.zero_le _, rfl, Nat.le_refl _, rfl, OR.nil _ _, Below.refl _ _⟩
    case round =>
      obtain ⟨k, R, hk, rfl, hR, HR, HO, HB⟩ := hrel
      by_cases hlt : k < l.length
      · have hlt' : (k : Int) < (l.length : Int) := by omega
        obtain ⟨c, hc, _⟩ := run1_cnt hlt
        obtain ⟨p1, hp1⟩ : ∃ p1, (run1 l k).1 = p1 := ⟨_, rfl⟩
        obtain ⟨hm1, hm2, hm3, hm4, hm5⟩ := rns_more (c := c) (p1 := p1) hlt HR.out hR (Prod.ext hp1 hc)
        have HM4 := hide hm4
        have HX := hide (xrun_any k _ l wr (HS.out.below HB.out) hlt hn)
        rw [hp1, hc] at HX
        obtain ⟨a1, q1, hu, _⟩ := HO.out.shape
        subst hu
        clear hm4 HR hp1 hc
        go_wp2_with fail
        refine HX.out.mono ?_
        rintro e w2 ⟨rfl, hb2⟩
        have hs2 : w1.heap.size ≤ w2.heap.size := Nat.le_trans HB.out.size hb2.size
        have HB2 := hide (HB.out.trans (hb2.mono HB.out.size))
        obtain ⟨wx, hwx⟩ : ∃ wx, w2.alloc (.cells #[.int .i64 p1, .int .i64 c] 182) = wx := ⟨_, rfl⟩
        have hsx : wx.heap.size = w2.heap.size + 1 := by rw [← hwx]; simp
        have HBX : Hid (Below w1.heap.size w1 wx) := by rw [← hwx]; exact hide (HB2.out.alloc hs2 _)
        have HOX : Hid (OR wx w1.heap.size (.slice a1 R.length q1) R) := by rw [← hwx]; exact hide ((HO.out.below hb2 (Nat.le_refl _)).alloc _)
        have hgx : wx.heap[w2.heap.size]? = some (.cells #[.int .i64 p1, .int .i64 c] 182 (0, 0)) := by rw [← hwx]; exact heap_alloc_new w2 _
        obtain ⟨z0, z1⟩ := boxOf hgx
        have HGX := hide hgx
        have HOL : Hid (∀ j, (Value.slice a1 R.length q1).ownBlock = some j → j < w2.heap.size) := fun j hj => by
          have := (HO.out.below hb2 (Nat.le_refl _)).lt j hj
          omega
        have HSX := hide hsx
        have hsx2 : w1.heap.size ≤ wx.heap.size := by omega
        clear hb2 HX hgx hsx
        go_wp2_with (at_builtin; refine wpRun rfl _ _ rfl w1.heap.size (.slice a1 R.length q1) R p1 (c : Int) rfl HOX.out _ rfl (by omega) hsx2 ?_)
        intro v3 w3 ho3 hg3
        have y3 : w3.heap[w2.heap.size]? = some (.cells #[.int .i64 p1, .int .i64 c] 182 (0, 0)) := by
          have e1 := hg3.block w2.heap.size (by simp; have := HSX.out; omega) (fun e => by have := HOL.out _ e.symm; omega)
          rw [e1, Below.heap_alloc wx _ _ (by have := HSX.out; omega)]
          exact HGX.out
        obtain ⟨z3, z4⟩ := boxOf y3
        have HN3 : Hid (OR w3 w1.heap.size v3 (R ++ [(p1, (c : Int))]) ∧ Below w1.heap.size w1 w3) := ⟨ho3, grow_run HBX.out (Nat.le_refl _) HOX.out hg3⟩
        clear ho3 hg3 y3 z0 z1
        go_wp2
        go_roundw
        case rel => exact ⟨k + c, _, hm1, by go_num, hm5, HM4, HN3.out.1, HN3.out.2⟩
        case measure => simp [intOf]; omega
      · obtain rfl : k = l.length := by omega
        have hlt' : ¬ (l.length : Int) < (l.length : Int) := by omega
        have HF : Hid (OR wr w1.heap.size u5 (rnL l)) := by
          have := HR.out
          rw [rnK_end (Nat.le_refl _), List.append_nil] at this
          show OR _ _ _ _
          rw [HE.out.2, this]
          exact HO.out
        go_wp2
        go_ret2
        rw [HE.out.1]
        exact ⟨_, rfl, HF.out, HB.out⟩
  · have HE : Hid (rnE l = 1 ∧ rnL l = []) := ⟨by unfold rnE; rw [if_neg hw], by unfold rnL; rw [if_neg hw]⟩
    have hw' : wthb l = false := by simpa using hw
    rw [hw']
    go_wp2
    go_ret2
    rw [HE.out.1, HE.out.2]
    exact ⟨_, rfl, OR.nil _ _, Below.refl _ _⟩

theorem xfurther_any (s : Nat) (w : World) (hs : s < 19) : Calls Tryz.prog 127 #[.int .i64 s] w fun e w' => e = .returned (.tuple #[.int .i64 (frt s : Nat), .int .i64 (lst s)]) ∧ w' = w := by
  by_cases h16 : s = 16
  · subst h16
    go_enter Tryz.func127, Tryz.ntmps127
    go_wp2
    go_ret2
    exact ⟨rfl, rfl⟩
  · by_cases h17 : s = 17
    · subst h17
      go_enter Tryz.func127, Tryz.ntmps127
      go_wp2
      go_ret2
      exact ⟨rfl, rfl⟩
    · by_cases h18 : s = 18
      · subst h18
        go_enter Tryz.func127, Tryz.ntmps127
        go_wp2
        go_ret2
        exact ⟨rfl, rfl⟩
      · have g1 : ((s : Int) == 16) = false := by simp; omega
        have g2 : ((s : Int) == 17) = false := by simp; omega
        have g3 : ((s : Int) == 18) = false := by simp; omega
        have HE : Hid (frt s = 0 ∧ lst s = 1) := by unfold frt lst; rw [if_pos (by omega), if_pos (by omega)]; exact hide ⟨rfl, rfl⟩
        go_enter Tryz.func127, Tryz.ntmps127
        go_wp2
        go_ret2
        rw [HE.out.1, HE.out.2]
        exact ⟨rfl, rfl⟩

end Go.Proofs.YtfoglaajnlbnbaaGreatDoor

namespace Go.Proofs.YtfoglaajnlbnbaaGreatDoor
open Go.RowKit Go.Maps
set_option maxRecDepth 20000
set_option linter.unusedVariables false

def slnv : Value → Nat | .slice _ n _ => n | _ => 0

theorem OI.cut {w : World} {B g n c k : Nat} {l : List Int} (h : OI w B (.slice (some ⟨g, 0, none⟩) n c) l) (hk : k ≤ l.length) : OI w B (.slice (some ⟨g, 0, none⟩) k c) (l.take k) := by
  have hl : (l.take k).length = k := by rw [List.length_take]; omega
  rcases h.2 with ⟨hv, _⟩ | ⟨g', cap, cur, hv, h1, h2, h3, h4, h5, h6⟩
  · cases hv
  · simp only [Value.slice.injEq, Option.some.injEq, Addr.mk.injEq, and_true] at hv
    obtain ⟨rfl, rfl, rfl⟩ := hv
    refine ⟨by simp, .inr ⟨g, c, cur, by rw [hl], h1, h2, by omega, h4, h5, ?_⟩⟩
    rw [hl]
    have := congrArg (List.take (k * 1)) h6
    rw [List.take_take, show min (k * 1) (l.length * 1) = k * 1 by omega] at this
    rw [this, List.map_take, Nat.mul_one]

theorem cut_trm {l : List Int} {f : Nat} : (l ++ List.replicate (f - l.length) 0).take (tlk (l ++ List.replicate (f - l.length) 0) f (l ++ List.replicate (f - l.length) 0).length) = trm l f := by
  by_cases h : l.length ≤ f
  · have hl : (l ++ List.replicate (f - l.length) (0 : Int)).length = f := by rw [List.length_append, List.length_replicate]; omega
    rw [hl, tl_low _ f f (Nat.le_refl _), List.take_of_length_le (by omega)]
    unfold trm tln
    rw [tl_low l f l.length h, List.take_of_length_le (Nat.le_refl _)]
  · rw [show f - l.length = 0 by omega, List.replicate_zero, List.append_nil]
    unfold trm
    have := tl_ge l f l.length (by omega)
    unfold tln
    rw [show f - tlk l f l.length = 0 by omega, List.replicate_zero, List.append_nil]

set_option maxHeartbeats 2000000 in
theorem xcut_any (v : Value) (l : List Int) (f : Nat) (w : World) (h : SI w v l) (hf1 : 1 ≤ f) (hf : f ≤ 257) (hn : l.length ≤ 286) :
    Calls Tryz.prog 123 #[v, .int .i64 f] w fun e w' => ∃ a c, e = .returned (.slice a (trm l f).length c) ∧ OI w' w.heap.size (.slice a (trm l f).length c) (trm l f) ∧ Below w.heap.size w w' := by
  have HS := hide h
  obtain ⟨ao, cap, rfl, hlc, hcm⟩ := h.open
  clear h
  go_enter Tryz.func123, Tryz.ntmps123
  go_wp2
  go_loopw [5, 6] (fun u i wr => ∃ k : Nat, k ≤ l.length ∧ i = .int .i64 k ∧ Hid (OI wr w.heap.size u (l.take k)) ∧ Hid (Below w.heap.size w wr)) (fun _ i _ => l.length - (intOf i).toNat)
  case atStart => exact ⟨0, Nat.zero_le _, rfl, World.ownsRow_nil _ _ _ _, Below.refl _ _⟩
  case round =>
    obtain ⟨k, hk, rfl, HO, HB⟩ := hrel
    by_cases hlt : k < l.length
    · have hlt' : (k : Int) < (l.length : Int) := by omega
      obtain ⟨b, o, rfl, hc⟩ := HS.out.get HB.out hlt
      have HD : Hid (l.take (k + 1) = l.take k ++ [l.getD k 0]) := by show _ = _; rw [List.take_succ_eq_append_getElem hlt]; simp [hlt]
      obtain ⟨y, HY⟩ : ∃ y, Hid (y = l.getD k 0) := ⟨_, rfl⟩
      rw [← HY.out] at hc HD
      obtain ⟨D, HDD⟩ : ∃ D, Hid (D = l.take k) := ⟨_, rfl⟩
      have hDl : D.length ≤ k := by rw [HDD.out, List.length_take]; omega
      rw [← HDD.out] at HO HD
      have hBw := HB.out.size
      obtain ⟨a1, p1, hu⟩ := HO.out.shape
      subst hu
      have HALC := hide (HO.out.alloc (.cells #[.int .i64 y] 3))
      have HSR := hide (built_srcI wr [y])
      go_wp2_with (at_builtin; refine wpList_appI rfl _ _ 65 rfl w.heap.size _ _ D [y] rfl HALC.out rfl HSR.out (by simp; omega) (by simp; omega) ?_)
      intro v3 w3 ho3 hgr3
      have HN : Hid (OI w3 w.heap.size v3 (l.take (k + 1)) ∧ Below w.heap.size w w3) := ⟨by rw [HD.out]; exact ho3, grow_one7 HB.out (Nat.le_refl _) HO.out hgr3⟩
      clear ho3 hgr3
      go_wp2
      go_roundw
      case rel => exact ⟨k + 1, by omega, by go_num, HN.out.1, HN.out.2⟩
      case measure => simp [intOf]; omega
    · obtain rfl : k = l.length := by omega
      have hlt' : ¬ (l.length : Int) < (l.length : Int) := by omega
      have HF : Hid (OI wr w.heap.size u5 (l ++ List.replicate 0 0)) := by have := HO.out; rw [List.take_of_length_le (Nat.le_refl _)] at this; rw [List.replicate_zero, List.append_nil]; exact hide this
      clear HO
      obtain ⟨a0, p0, hu0⟩ := HF.out.shape
      have HF2 : Hid (∃ M : List Int, ∃ j, M = l ++ List.replicate j 0 ∧ (j = 0 ∨ l.length + j ≤ f) ∧ u5 = .slice a0 M.length p0 ∧ OI wr w.heap.size (.slice a0 M.length p0) M) := ⟨_, 0, rfl, .inl rfl, hu0, by have := HF.out; rwa [hu0] at this⟩
      clear HF hu0
      obtain ⟨M0, j0, hM0, hj0, hu0, hO0⟩ := HF2.out
      subst hu0
      have HO0 := hide hO0
      have HM0 := hide hM0
      have HJ0 := hide hj0
      clear hO0 hM0 hj0 HF2
      go_wp2
      go_loopw [5] (fun u wr => ∃ (M : List Int) (a : Option Addr) (p : Nat), u = .slice a M.length p ∧ Hid (∃ j, M = l ++ List.replicate j 0 ∧ (j = 0 ∨ l.length + j ≤ f)) ∧ M.length ≤ 286 ∧ Hid (OI wr w.heap.size (.slice a M.length p) M) ∧ Hid (Below w.heap.size w wr)) (fun u _ => f - slnv u)
      case atStart => exact ⟨M0, a0, p0, rfl, ⟨j0, HM0.out, HJ0.out⟩, by rw [HM0.out, List.length_append, List.length_replicate]; have := HJ0.out; omega, HO0.out, HB.out⟩
      case round =>
        obtain ⟨M, a1, p1, rfl, HMJ, hMl, HO2, HB2⟩ := hrel
        by_cases hlt2 : M.length < f
        · have hlt2' : (M.length : Int) < (f : Int) := by omega
          have HNX : Hid (∃ j, M ++ [0] = l ++ List.replicate j 0 ∧ (j = 0 ∨ l.length + j ≤ f)) := by
            obtain ⟨j, e, _⟩ := HMJ.out
            refine ⟨j + 1, by rw [e, List.replicate_succ', List.append_assoc], .inr ?_⟩
            have := congrArg List.length e
            rw [List.length_append, List.length_replicate] at this
            omega
          have hBw := HB2.out.size
          have HALC := hide (HO2.out.alloc (.cells #[.int .i64 0] 3))
          have HSR := hide (built_srcI wr [0])
          go_wp2_with (at_builtin; refine wpList_appI rfl _ _ 65 rfl w.heap.size _ _ M [0] rfl HALC.out rfl HSR.out (by simp; omega) (by simp; omega) ?_)
          intro v3 w3 ho3 hgr3
          have HN : Hid (Below w.heap.size w w3) := grow_one7 HB2.out (Nat.le_refl _) HO2.out hgr3
          obtain ⟨a3, p3, hv3⟩ := ho3.shape
          obtain ⟨M3, HM3⟩ : ∃ M3 : List Int, Hid (M3 = M ++ [0]) := ⟨_, hide rfl⟩
          rw [← HM3.out] at hv3 ho3 HNX
          have hM3 : M3.length ≤ M.length + 1 ∧ M.length + 1 ≤ M3.length := by rw [HM3.out, List.length_append, List.length_singleton]; omega
          subst hv3
          have HO3 := hide ho3
          clear ho3 hgr3
          go_wp2
          go_roundw
          case rel => exact ⟨M3, a3, p3, rfl, HNX, by omega, HO3, HN⟩
          case measure => simp only [slnv]; omega
        · have hlt2' : ¬ (M.length : Int) < (f : Int) := by omega
          have HMF : Hid (M = l ++ List.replicate (f - l.length) 0) := by
            obtain ⟨j, e, hj⟩ := HMJ.out
            have := congrArg List.length e
            rw [List.length_append, List.length_replicate] at this
            show _ = _
            rw [e]
            congr 2
            omega
          have HTR : Hid (trm l f = M.take (tlk M f M.length)) := by show _ = _; rw [HMF.out]; exact cut_trm.symm
          obtain ⟨g, cg, hv, hg1, hg2, hg3, hg4⟩ := HO2.out.form (by omega)
          simp only [Value.slice.injEq, true_and] at hv
          obtain ⟨rfl, rfl⟩ := hv
          obtain ⟨ml, hml, HML⟩ : ∃ ml, ml ≤ 286 ∧ Hid (M.length = ml) := ⟨M.length, hMl, rfl⟩
          rw [HML.out] at hlt2 hlt2' hg3 HO2 HTR ⊢
          clear hMl HMJ HMF
          go_wp2
          go_loopw [5] (fun u wr2 => ∃ n : Nat, f ≤ n ∧ n ≤ ml ∧ u = .slice (some ⟨g, 0, none⟩) n p1 ∧ wr2 = wr ∧ Hid (tlk M f ml = tlk M f n)) (fun u _ => slnv u)
          case atStart => exact ⟨ml, by omega, Nat.le_refl _, rfl, rfl, rfl⟩
          case round =>
            obtain ⟨n, hn1, hn2, rfl, hw, HK⟩ := hrel
            subst hw
            by_cases hlt3 : f < n
            · have hlt3' : (f : Int) < (n : Int) := by omega
              obtain ⟨j, rfl⟩ : ∃ j, n = j + 1 := ⟨n - 1, by omega⟩
              have hc := HO2.out.get (b := g) rfl (i := j) (by rw [HML.out]; omega)
              have HT : Hid (tlk M f (j + 1) = if M.getD j 0 = 0 then tlk M f j else j + 1) := by
                show _ = _
                simp only [tlk]
                by_cases q : M.getD j 0 = 0
                · rw [if_pos ⟨hlt3, q⟩, if_pos q]
                · rw [if_neg (fun z => q z.2), if_neg q]
              obtain ⟨y, HY⟩ : ∃ y, Hid (y = M.getD j 0) := ⟨_, rfl⟩
              rw [← HY.out] at hc HT
              have ej : ((j : Int) + 1 - 1) = (j : Int) := by omega
              by_cases hy : y = 0
              · subst hy
                have HK2 : Hid (tlk M f ml = tlk M f j) := by show _ = _; rw [HK.out, HT.out, if_pos rfl]
                go_wp2
                go_roundw
                case rel => exact ⟨j, by omega, by omega, rfl, trivial, HK2⟩
                case measure => simp only [slnv]; omega
              · have hy' : (y == 0) = false := by simpa using hy
                have HFN : Hid (OI wr w.heap.size (.slice (some ⟨g, 0, none⟩) (trm l f).length p1) (trm l f) ∧ (trm l f).length = j + 1) := by
                  have e : trm l f = M.take (j + 1) := by rw [HTR.out, HK.out, HT.out, if_neg hy]
                  have hl : (trm l f).length = j + 1 := by rw [e, List.length_take, HML.out]; omega
                  have := HO2.out.cut (k := j + 1) (by rw [HML.out]; omega)
                  rw [← e] at this
                  exact ⟨by rw [hl]; exact this, hl⟩
                go_wp2
                go_ret
                refine ⟨some ⟨g, 0, none⟩, p1, ?_, HFN.out.1, HB2.out⟩
                rw [HFN.out.2]
                rfl
            · obtain rfl : n = f := by omega
              have hlt3' : ¬ (n : Int) < (n : Int) := by omega
              have hd3 : decide ((n : Int) < (n : Int)) = false := decide_eq_false hlt3'
              have HFN : Hid (OI wr w.heap.size (.slice (some ⟨g, 0, none⟩) (trm l n).length p1) (trm l n) ∧ (trm l n).length = n) := by
                have e : trm l n = M.take n := by rw [HTR.out, HK.out, tl_low M n n (Nat.le_refl _)]
                have hl : (trm l n).length = n := by rw [e, List.length_take, HML.out]; omega
                have := HO2.out.cut (k := n) (by rw [HML.out]; omega)
                rw [← e] at this
                exact ⟨by rw [hl]; exact this, hl⟩
              go_wp2
              go_ret
              refine ⟨some ⟨g, 0, none⟩, p1, ?_, HFN.out.1, HB2.out⟩
              rw [HFN.out.2]
              rfl
end Go.Proofs.YtfoglaajnlbnbaaGreatDoor

namespace Go.Proofs.YtfoglaajnlbnbaaGreatDoor
open Go.RowKit Go.Maps
set_option maxRecDepth 20000
set_option linter.unusedVariables false

set_option maxHeartbeats 1000000 in
theorem zcodes_any (v1 v2 : Value) (l1 l2 : List Int) (w : World) (s1 : SI w v1 l1) (s2 : SI w v2 l2) (hl : 257 ≤ l1.length) :
    Calls Tryz.prog 124 #[v1, v2] w fun e w' => e = .returned (.int .i64 (hck l1 l2)) ∧ w' = w := by
  have H1 := hide s1
  have H2 := hide s2
  obtain ⟨a1, c1, rfl, hc1, hd1⟩ := s1.open
  obtain ⟨a2, c2, rfl, hc2, hd2⟩ := s2.open
  clear s1 s2
  have hl' : (256 : Int) < (l1.length : Int) := by omega
  have hl2 : ¬ (l1.length : Int) < 257 := by omega
  have hl3 : decide ((l1.length : Int) < 257) = false := decide_eq_false hl2
  obtain ⟨b, o, rfl, hc⟩ := H1.out.get (Below.refl _ _) (k := 256) (by omega)
  have HC1 := hide (xcheck_any _ l1 w H1.out)
  have HC2 := hide (xcheck_any _ l2 w H2.out)
  have HK : Hid (hck l1 l2 = if l1.getD 256 0 = 0 ∨ (chkS l1 ≠ 4 ∧ chkS l1 ≠ 1) then 75 else if chkS l2 ≠ 4 ∧ chkS l2 ≠ 1 ∧ chkS l2 ≠ 0 then 76 else 0) := rfl
  obtain ⟨y, HY⟩ : ∃ y, Hid (y = l1.getD 256 0) := ⟨_, rfl⟩
  obtain ⟨S, HSS⟩ : ∃ S, Hid (S = chkS l1) := ⟨_, rfl⟩
  obtain ⟨U, HU⟩ : ∃ U, Hid (U = chkS l2) := ⟨_, rfl⟩
  rw [← HY.out] at hc HK
  rw [← HSS.out] at HK HC1
  rw [← HU.out] at HK HC2
  go_enter Tryz.func124, Tryz.ntmps124
  go_wp2_with fail
  refine HC1.out.mono ?_
  rintro e w1 ⟨rfl, hw1⟩
  rw [hw1]
  clear hw1
  by_cases y0 : y = 0
  · have HR : Hid (hck l1 l2 = 75) := by show _ = _; rw [HK.out, if_pos (.inl y0)]
    subst y0
    go_wp2
    go_ret
    rw [HR.out]
    exact ⟨rfl, rfl⟩
  · have y0' : (y == 0) = false := by simpa using y0
    by_cases sok : S = 4 ∨ S = 1
    · have HK2 : Hid (hck l1 l2 = if U ≠ 4 ∧ U ≠ 1 ∧ U ≠ 0 then 76 else 0) := by show _ = _; rw [HK.out, if_neg (by omega)]
      rcases sok with rfl | rfl
      all_goals
        go_wp2_with fail
        refine HC2.out.mono ?_
        rintro e w2 ⟨rfl, hw2⟩
        rw [hw2]
        clear hw2
        by_cases u4 : U = 4
        · have HR : Hid (hck l1 l2 = 0) := by show _ = _; rw [HK2.out, if_neg (by omega)]
          subst u4
          go_wp2
          go_ret
          rw [HR.out]
          exact ⟨rfl, rfl⟩
        · have u4' : (U != 4) = true := by simpa using u4
          by_cases u1 : U = 1
          · have HR : Hid (hck l1 l2 = 0) := by show _ = _; rw [HK2.out, if_neg (by omega)]
            subst u1
            go_wp2
            go_ret
            rw [HR.out]
            exact ⟨rfl, rfl⟩
          · have u1' : (U != 1) = true := by simpa using u1
            by_cases u0 : U = 0
            · have HR : Hid (hck l1 l2 = 0) := by show _ = _; rw [HK2.out, if_neg (by omega)]
              subst u0
              go_wp2
              go_ret
              rw [HR.out]
              exact ⟨rfl, rfl⟩
            · have u0' : (U != 0) = true := by simpa using u0
              have HR : Hid (hck l1 l2 = 76) := by show _ = _; rw [HK2.out, if_pos ⟨u4, u1, u0⟩]
              go_wp2
              go_ret
              rw [HR.out]
              exact ⟨rfl, rfl⟩
    · have s4 : (S != 4) = true := by simp; omega
      have s1 : (S != 1) = true := by simp; omega
      have HR : Hid (hck l1 l2 = 75) := by show _ = _; rw [HK.out, if_pos (.inr (by omega))]
      go_wp2
      go_ret
      rw [HR.out]
      exact ⟨rfl, rfl⟩

structure Xodr (w : World) : Prop where
  get : ∀ i : Nat, i < 19 → w.cell? ⟨2, i, none⟩ = some (.int .i64 (zor.getD i 0))

theorem Xodr.mono {w w' : World} (h : Xodr w) (hb : Below w.heap.size w w') : Xodr w' := ⟨fun i hi => (hb.cell (World.block_lt_of_cell? w _ (h.get i hi))).trans (h.get i hi)⟩

set_option maxHeartbeats 1000000 in
theorem xwritten_any (v : Value) (c : List Int) (w : World) (h : SI w v c) (O : Xodr w) (hc : c.length = 19) (h0 : ∀ s, 0 ≤ c.getD s 0) :
    Calls Tryz.prog 86 #[v] w fun e w' => e = .returned (.int .i64 (wrt c : Nat)) ∧ w' = w := by
  have HS := hide h
  have HO := hide O
  have H0 := hide h0
  obtain ⟨ao, cap, rfl, hlc, hcm⟩ := h.open
  clear h O h0
  go_enter Tryz.func86, Tryz.ntmps86
  go_wp2
  go_loopw [3, 4] (fun n i wr => ∃ k : Nat, k ≤ 19 ∧ i = .int .i64 k ∧ n = .int .i64 (wfw c k : Nat) ∧ wfw c k ≤ 19 ∧ wr = w) (fun _ i _ => 19 - (intOf i).toNat)
  case atStart => exact ⟨0, Nat.zero_le _, rfl, rfl, by simp [wfw], rfl⟩
  case round =>
    obtain ⟨k, hk, rfl, rfl, hw19, hw⟩ := hrel
    subst hw
    by_cases hlt : k < 19
    · have hlt' : (k : Int) < 19 := by omega
      have o1 := HO.out.get k hlt
      have o2 := zor_at k hlt
      have HT : Hid (wfw c (k + 1) = if 0 < c.getD (zor.getD k 0).toNat 0 ∧ wfw c k < k + 1 then k + 1 else wfw c k) := rfl
      obtain ⟨z', hz⟩ : ∃ z', z' = zor.getD k 0 := ⟨_, rfl⟩
      rw [← hz] at o1 o2 HT
      obtain ⟨z, rfl⟩ := Int.eq_ofNat_of_zero_le o2.1
      rw [Int.toNat_natCast] at HT
      have hzl : (z : Int) < (c.length : Int) := by rw [hc]; exact o2.2
      obtain ⟨b, o, rfl, hcz⟩ := HS.out.get (Below.refl _ _) (k := z) (by omega)
      have hy0 := H0.out z
      obtain ⟨y, HY⟩ : ∃ y, Hid (y = c.getD z 0) := ⟨_, rfl⟩
      rw [← HY.out] at hcz HT hy0
      obtain ⟨W, HW⟩ : ∃ W, Hid (W = wfw c k) := ⟨_, rfl⟩
      rw [← HW.out] at HT hw19 ⊢
      clear hz o2
      by_cases hy : y = 0
      · subst hy
        have HK2 : Hid (wfw c (k + 1) = W) := by show _ = _; rw [HT.out, if_neg (by omega)]
        go_wp2
        go_roundw
        case rel => exact ⟨k + 1, by omega, by go_num, by rw [HK2.out], by rw [HK2.out]; omega, trivial⟩
        case measure => simp [intOf]; omega
      · have hy' : (y != 0) = true := by simpa using hy
        by_cases hwk : W < k + 1
        · have hwk' : (W : Int) < (k : Int) + 1 := by omega
          have HK2 : Hid (wfw c (k + 1) = k + 1) := by show _ = _; rw [HT.out, if_pos ⟨by omega, hwk⟩]
          go_wp2
          go_roundw
          case rel => exact ⟨k + 1, by omega, by go_num, by rw [HK2.out]; go_num, by rw [HK2.out]; omega, trivial⟩
          case measure => simp [intOf]; omega
        · have hwk' : ¬ (W : Int) < (k : Int) + 1 := by omega
          have HK2 : Hid (wfw c (k + 1) = W) := by show _ = _; rw [HT.out, if_neg (by omega)]
          go_wp2
          go_roundw
          case rel => exact ⟨k + 1, by omega, by go_num, by rw [HK2.out], by rw [HK2.out]; omega, trivial⟩
          case measure => simp [intOf]; omega
    · obtain rfl : k = 19 := by omega
      have HF : Hid (wfw c 19 = wrt c) := wfw_wrt H0.out
      rw [HF.out]
      go_wp2
      go_ret
      exact ⟨rfl, rfl⟩

set_option maxHeartbeats 2000000 in
theorem often_any (v : Value) (R : List Rn) (w : World) (h : SR w v R) (hok : ∀ r ∈ R, Okr r) (hn : R.length ≤ 1048576) :
    Calls Tryz.prog 126 #[v] w fun e w' => ∃ g, e = .returned (.slice (some ⟨g, 0, none⟩) 19 19) ∧ OI w' w.heap.size (.slice (some ⟨g, 0, none⟩) 19 19) (usg R) ∧ Below w.heap.size w w' := by
  have HS := hide h
  have HOK := hide hok
  obtain ⟨ao, cap, rfl, hlc, hcm⟩ := h.open
  clear h hok
  go_enter Tryz.func126, Tryz.ntmps126
  go_wp2_with (at_make; refine wpList_mkI rfl _ _ rfl _ _ _ _ 19 19 rfl rfl rfl rfl (Nat.le_refl _) (by omega) ?_)
  intro w1 hg1 hb1
  have HO1 : Hid (OI w1 w.heap.size (.slice (some ⟨w.heap.size, 0, none⟩) 19 19) (usg [])) := by
    rw [usg_nil]
    exact hide (OI.of_full (l := List.replicate 19 0) (by rw [hg1]; rfl) (Nat.le_refl _) (by unfold maxLen; simp))
  have HB1 := hide hb1
  clear hg1 hb1
  go_wp2
  go_loopw [4] (fun i wr => ∃ k : Nat, k ≤ R.length ∧ i = .int .i64 k ∧ Hid (OI wr w.heap.size (.slice (some ⟨w.heap.size, 0, none⟩) 19 19) (usg (R.take k))) ∧ Hid (Below w.heap.size w wr)) (fun i _ => R.length - (intOf i).toNat)
  case atStart => exact ⟨0, Nat.zero_le _, rfl, HO1.out, HB1.out⟩
  case round =>
    obtain ⟨k, hk, rfl, HO, HB⟩ := hrel
    by_cases hlt : k < R.length
    · have hlt' : (k : Int) < (R.length : Int) := by omega
      obtain ⟨b, o, rfl, c1, c2⟩ := HS.out.get HB.out hlt
      have ok : Okr (R.getD k rn0) := HOK.out _ (by rw [show R.getD k rn0 = R[k] by simp [hlt]]; exact List.getElem_mem hlt)
      have h1 := ok.1
      have h2 := ok.2.1
      have HSN : Hid (R.take (k + 1) = R.take k ++ [R.getD k rn0]) := by show _ = _; rw [List.take_succ_eq_append_getElem hlt]; simp [hlt]
      obtain ⟨r, hr⟩ : ∃ r, r = R.getD k rn0 := ⟨_, rfl⟩
      rw [← hr] at c1 c2 h1 h2 HSN
      obtain ⟨s', c⟩ := r
      simp only at c1 c2 h1 h2
      obtain ⟨s, rfl⟩ := Int.eq_ofNat_of_zero_le h1
      have hs : s < 19 := by omega
      have hs' : (s : Int) < 19 := by omega
      clear hr ok h1 h2
      have y0 := HO.out.get (b := w.heap.size) rfl (i := s) (by rw [usg_len]; exact hs)
      have hbd := usg_le (R.take k) s hs
      obtain ⟨g, cc, hv, _, hfz, hput⟩ := HO.out.put (k := s) (by rw [usg_len]; exact hs) ((usg (R.take k)).getD s 0 + 1)
      simp only [Value.slice.injEq, Option.some.injEq, Addr.mk.injEq, and_true] at hv
      obtain ⟨rfl, -, -⟩ := hv
      rw [← usg_snoc (R.take k) s c hs, ← HSN.out] at hput
      have hRl : (R.take k).length ≤ 1048576 := by rw [List.length_take]; omega
      obtain ⟨Y, hY⟩ : ∃ Y, Y = (usg (R.take k)).getD s 0 := ⟨_, rfl⟩
      rw [← hY] at y0 hbd hput
      have hY1 : 0 ≤ Y := hbd.1
      have hY2 : Y ≤ 1048576 := by omega
      have HP : Hid (OI (wr.setCell ⟨w.heap.size, s, none⟩ (.int .i64 (Y + 1))).drew w.heap.size (.slice (some ⟨w.heap.size, 0, none⟩) 19 19) (usg (R.take (k + 1)))) := hput.move fun _ _ => rfl
      have HBN : Hid (Below w.heap.size w (wr.setCell ⟨w.heap.size, s, none⟩ (.int .i64 (Y + 1))).drew) := (HB.out.setCell (p := ⟨w.heap.size, s, none⟩) (Nat.le_refl _) _).drew
      clear hput hY hbd
      go_wp2
      go_region
      go_wp2
      go_roundw
      case rel => exact ⟨k + 1, by omega, by go_num, HP, HBN⟩
      case measure => simp [intOf]; omega
    · obtain rfl : k = R.length := by omega
      have hlt' : ¬ (R.length : Int) < (R.length : Int) := by omega
      have HF : Hid (OI wr w.heap.size (.slice (some ⟨w.heap.size, 0, none⟩) 19 19) (usg R)) := by have := HO.out; rwa [List.take_of_length_le (Nat.le_refl _)] at this
      go_wp2
      go_ret
      exact ⟨_, rfl, HF.out, HB.out⟩
end Go.Proofs.YtfoglaajnlbnbaaGreatDoor

