import Derived.Test.YthlbmpmbbdaboabXdc
import Derived.Test.YthlbmpmbbdaboabWrx
import Derived.Test.YthlbmpmbbdaboabEnc
namespace Go.Proofs.Ythlbmpmbbdaboab
open Go.RowKit Go.Maps
set_option maxRecDepth 20000

/-- The document's encoder. -/
structure Ex (w : World) (K : Nat → Nat) (g : Nat) (l : List Int) : Prop where
  d : ∃ vl vw, w.heap[g]? = some (.cells #[vl, vw] 106 (0, 0)) ∧ OI w 0 vl l ∧ OI w 0 vw (wds l) ∧ (∀ k, vl.ownBlock = some k → K k ≠ 0) ∧ (∀ k, vw.ownBlock = some k → K k ≠ 0)
  k : K g ≠ 0
  sup : ∀ k, K k ≠ 0 → k < w.heap.size
  ok : bkE l = 0

theorem Ex.far {w w' : World} {K : Nat → Nat} {g : Nat} {l : List Int} (h : Ex w K g l) (hsz : w.heap.size ≤ w'.heap.size) (hb : ∀ k, K k ≠ 0 → w'.heap[k]? = w.heap[k]?) : Ex w' K g l := by
  obtain ⟨vl, vw, a1, a2, a3, a4, a5⟩ := h.d
  exact ⟨⟨vl, vw, (hb g h.k).trans a1, a2.move fun k hk => hb k (a4 k hk), a3.move fun k hk => hb k (a5 k hk), a4, a5⟩, h.k, fun k hk => Nat.lt_of_lt_of_le (h.sup k hk) hsz, h.ok⟩

def tex (g : Nat) (l : List Int) : Thing := ⟨fun w K => Ex w K g l, fun h a b => h.far a b, fun h => h.sup⟩

def MadeEx (w : World) (l : List Int) (e : Ending) (w' : World) : Prop := Below w.heap.size w w' ∧ ((bkE l ≠ 0 ∧ e = .returned (.tuple #[.pointer none, .int .i64 (bkE l)])) ∨ (bkE l = 0 ∧ ∃ g K, e = .returned (.tuple #[.pointer (some ⟨g, 0, none⟩), .int .i64 0]) ∧ Ex w' K g l ∧ ∀ k, K k ≠ 0 → w.heap.size ≤ k))

theorem cd_of_bk {l : List Int} (h0 : chkE l = 0) (h3 : shp l ≠ 3) : cdE l = 0 ∧ cdL l = wds l := by
  have e : cdE l = 0 := by unfold cdE; rw [if_neg (by simp [h0]), if_neg h3]
  exact ⟨e, if_pos e⟩

set_option maxHeartbeats 1000000 in
theorem xnewEncoder_any (v : Value) (l : List Int) (w : World) (h : SI w v l) :
    Calls Try.prog 30 #[v] w fun e w' => MadeEx w l e w' := by
  have HS := hide h
  obtain ⟨ao, cap, rfl, hlc, hcm⟩ := h.open
  clear h
  by_cases h0 : chkE l = 0
  case neg =>
    have h1 : (chkE l == 0) = false := by simpa using h0
    have hE : bkE l = chkE l := if_pos h0
    have HE := hide hE
    have HNE : Hid (bkE l ≠ 0) := by show _ ≠ _; rw [hE]; exact h0
    obtain ⟨q, HQ⟩ : ∃ q, Hid (q = chkE l) := ⟨_, rfl⟩
    obtain ⟨r, HR⟩ : ∃ q, Hid (q = chkS l) := ⟨_, rfl⟩
    rw [← HQ.out] at h0 h1 HE
    clear hE
    go_enter Try.func30, Try.ntmps30
    go_wp2_with fail
    refine (xcheck_any _ l _ HS.out).mono ?_
    rintro e w1 ⟨rfl, rfl⟩
    rw [← HQ.out, ← HR.out]
    go_wp2
    go_ret2
    exact ⟨Below.refl _ _, .inl ⟨HNE.out, by rw [HE.out]; rfl⟩⟩
  obtain ⟨hl, hs⟩ := chkE_zero h0
  have HL := hide hl
  have h288 := hl.1
  have HR := hide hs
  have HQ := hide h0
  have hbk : bkE l = if shp l = 2 then 52 else if shp l = 3 then 51 else 0 := by unfold bkE; rw [if_neg (by simp [h0])]
  clear hl hs
  by_cases c2 : shp l = 2
  · have hE : bkE l = 52 := by rw [hbk, if_pos c2]
    have HE := hide hE
    clear hE hbk h0
    go_enter Try.func30, Try.ntmps30
    go_wp2_with fail
    refine (xcheck_any _ l _ HS.out).mono ?_
    rintro e w1 ⟨rfl, rfl⟩
    rw [HQ.out, HR.out, c2]
    go_wp2
    go_ret2
    exact ⟨Below.refl _ _, .inl ⟨by rw [HE.out]; decide, by rw [HE.out]; rfl⟩⟩
  by_cases c3 : shp l = 3
  · have hE : bkE l = 51 := by rw [hbk, if_neg c2, if_pos c3]
    have HE := hide hE
    clear hE hbk c2 h0
    go_enter Try.func30, Try.ntmps30
    go_wp2_with fail
    refine (xcheck_any _ l _ HS.out).mono ?_
    rintro e w1 ⟨rfl, rfl⟩
    rw [HQ.out, HR.out, c3]
    go_wp2
    go_ret2
    exact ⟨Below.refl _ _, .inl ⟨by rw [HE.out]; decide, by rw [HE.out]; rfl⟩⟩
  have hE : bkE l = 0 := by rw [hbk, if_neg c2, if_neg c3]
  have HE := hide hE
  have HCD := hide (cd_of_bk h0 c3)
  obtain ⟨r, HR2⟩ : ∃ q, Hid (q = shp l) := ⟨_, rfl⟩
  rw [← HR2.out] at c2 c3
  have c2' : (r == 2) = false := by simpa using c2
  have c3' : (r == 3) = false := by simpa using c3
  clear hE hbk h0
  go_enter Try.func30, Try.ntmps30
  go_wp2_with fail
  refine (xcheck_any _ l _ HS.out).mono ?_
  rintro e w1 ⟨rfl, rfl⟩
  rw [HQ.out, HR.out, ← HR2.out]
  go_wp2_with fail
  refine (xcodes_any _ l _ HS.out).mono ?_
  rintro e w2 ⟨a2, c2, rfl, ho2, hb2⟩
  rw [HCD.out.2, wds_len] at ho2
  rw [HCD.out.1, HCD.out.2, wds_len]
  have HO2 := hide ho2
  have HB2 := hide hb2
  have HS2 := hide (HS.out.below hb2)
  clear ho2 hb2
  obtain ⟨V, HV⟩ : ∃ V, Hid (V = w2.alloc (.cells #[.slice none 0 0, .slice a2 l.length c2] 106)) := ⟨_, rfl⟩
  have hbox : V.heap[w2.heap.size]? = some (.cells #[.slice none 0 0, .slice a2 l.length c2] 106 (0, 0)) := by rw [HV.out]; exact heap_alloc_new w2 _
  have hbV : Below w2.heap.size w2 V := by rw [HV.out]; exact (Below.refl _ _).alloc (Nat.le_refl _) _
  have HBOX := hide hbox
  have HSR : Hid (Src Try.prog 1 22 (.slice ao l.length cap) l.length (l.map (Value.int .i64)) (w2.alloc (.cells #[.slice none 0 0, .slice a2 l.length c2] 106))) := by rw [← HV.out]; exact (HS2.out.below hbV).src
  have HOV := hide (HO2.out.below hbV (Nat.le_refl _))
  have HBV := hide (HB2.out.trans (hbV.mono HB2.out.size))
  have HSZ : Hid (V.heap.size = w2.heap.size + 1) := by show _ = _; rw [HV.out]; simp
  have hw12 : w1.heap.size ≤ w2.heap.size := HB2.out.size
  clear hbox hbV
  go_wp2_with (at_builtin; refine wpList_appI rfl _ _ 22 rfl w1.heap.size _ _ [] l rfl (World.ownsRow_nil _ _ _ _) rfl HSR.out (by simp; omega) (by simp; omega) ?_)
  rw [← HV.out]
  intro v3 w3 ho3 hgr3
  have hB3 : w3.heap[w2.heap.size]? = some (.cells #[.slice none 0 0, .slice a2 l.length c2] 106 (0, 0)) := (hgr3.by.block _ (by rw [HSZ.out]; omega) (by simp [Value.ownBlock])).trans HBOX.out
  have k0 : w3.cell? ⟨w2.heap.size, 0, none⟩ = some (.slice none 0 0) := by rw [cell_of_row _ _ _ _ _ _ hB3]; rfl
  have f0 : w3.frozen? ⟨w2.heap.size, 0, none⟩ = false := frozen_of_row _ _ _ _ _ hB3
  obtain ⟨a3, c3', hv3⟩ := ho3.shape
  have HF : Hid (MadeEx w1 l (.returned (.tuple #[.pointer (some ⟨w2.heap.size, 0, none⟩), .int .i64 0])) (w3.setCell ⟨w2.heap.size, 0, none⟩ v3)) := by
    have hnb : ∀ k, v3.ownBlock = some k → k ≠ w2.heap.size := fun k hk e => by
      rcases hgr3.at with h | h
      · rw [h, HSZ.out] at hk; simp at hk; omega
      · rw [h] at hk; simp [Value.ownBlock] at hk
    have p1 : OI (w3.setCell ⟨w2.heap.size, 0, none⟩ v3) w1.heap.size v3 l := (show OI w3 w1.heap.size v3 l from ho3).move fun k hk => setCell_others w3 _ _ _ _ (hnb k hk)
    have q2 : OI w3 w1.heap.size (.slice a2 l.length c2) (wds l) := HOV.out.move fun k hk => hgr3.by.block k (HOV.out.lt k hk).2 (by simp [Value.ownBlock])
    have p2 : OI (w3.setCell ⟨w2.heap.size, 0, none⟩ v3) w1.heap.size (.slice a2 l.length c2) (wds l) := q2.move fun k hk => setCell_others w3 _ _ _ _ (fun e => by have := (HO2.out.lt k hk).2; omega)
    have hsz3 : w2.heap.size < w3.heap.size := by have := hgr3.by.size; rw [HSZ.out] at this; omega
    have hbel : Below w1.heap.size w1 (w3.setCell ⟨w2.heap.size, 0, none⟩ v3) := by
      have h1 : Below w1.heap.size w1 w3 := HBV.out.grown hgr3.by HBV.out.size (fun k hk => by simp [Value.ownBlock] at hk)
      exact h1.setCell (by show _ ≤ w2.heap.size; omega) _
    refine ⟨hbel, .inr ⟨HE.out, w2.heap.size, fun k => if k = w2.heap.size ∨ v3.ownBlock = some k ∨ (Value.slice a2 l.length c2).ownBlock = some k then 1 else 0, rfl, ⟨⟨v3, .slice a2 l.length c2, ?_, p1.base (Nat.zero_le _), p2.base (Nat.zero_le _), fun k hk => by simp [hk], fun k hk => by simp [hk]⟩, by simp, fun k hk => ?_, HE.out⟩, fun k hk => ?_⟩⟩
    · rw [heap_setCell_same _ _ _ _ _ _ hB3]; rfl
    · by_cases c : k = w2.heap.size ∨ v3.ownBlock = some k ∨ (Value.slice a2 l.length c2).ownBlock = some k
      · rcases c with rfl | c | c
        · rw [size_setCell]; exact hsz3
        · exact (p1.lt k c).2
        · exact (p2.lt k c).2
      · simp [c] at hk
    · by_cases c : k = w2.heap.size ∨ v3.ownBlock = some k ∨ (Value.slice a2 l.length c2).ownBlock = some k
      · rcases c with rfl | c | c
        · exact hw12
        · exact (p1.lt k c).1
        · exact (p2.lt k c).1
      · simp [c] at hk
  subst hv3
  clear ho3 hgr3 hB3
  go_wp2
  go_ret2
  exact HF.out

theorem hxencode {W w : World} {xs : List ((Nat → Nat) × Thing)} (H : Herd W w xs) (v : Value) (l : List Int) (h : SI w v l) :
    Calls Try.prog 30 #[v] w fun e w' => (bkE l ≠ 0 ∧ e = .returned (.tuple #[.pointer none, .int .i64 (bkE l)]) ∧ Herd W w' xs) ∨ (bkE l = 0 ∧ ∃ g K, e = .returned (.tuple #[.pointer (some ⟨g, 0, none⟩), .int .i64 0]) ∧ Herd W w' (xs ++ [(K, tex g l)])) := by
  refine (xnewEncoder_any v l w h).mono ?_
  rintro e w1 ⟨hb, h | ⟨h0, g, K, rfl, hd, hk⟩⟩
  · exact .inl ⟨h.1, h.2, H.below hb⟩
  · exact .inr ⟨h0, g, K, rfl, H.push hb hd hk⟩

theorem xelen_any {w : World} {K : Nat → Nat} {g : Nat} {l : List Int} (h : Ex w K g l) (s : Int) (hs0 : -9223372036854775808 ≤ s) (hs1 : s ≤ 9223372036854775807) :
    Calls Try.prog 35 #[.pointer (some ⟨g, 0, none⟩), .int .i64 s] w fun e w' => e = .returned (.int .i64 (lnI l s)) ∧ w' = w := by
  obtain ⟨vl, vw, a1, a2, a3, _⟩ := h.d
  have hl := (bkE_zero h.ok).1
  have HL := hide hl
  have h288 := hl.1
  have c0 : w.cell? ⟨g, 0, none⟩ = some vl := by rw [cell_of_row _ _ _ _ _ _ a1]; rfl
  obtain ⟨al, cl, hvl⟩ := a2.shape
  have HO := hide a2
  obtain ⟨q1, q2⟩ : l.length ≤ cl ∧ cl ≤ 9223372036854775807 := by
    have hsb := a2.sb
    rw [hvl] at hsb
    obtain ⟨_, _, e1, e2, e3⟩ := hsb.open
    simp only [Value.slice.injEq] at e1
    obtain ⟨-, -, rfl⟩ := e1
    exact ⟨e2, e3⟩
  clear h a1 a2 a3 hl
  by_cases hs : 0 ≤ s ∧ s < l.length
  · have HE : Hid (lnI l s = ln l s.toNat) := if_pos hs
    rw [HE.out]
    obtain ⟨n, rfl⟩ : ∃ n : Nat, s = n := ⟨s.toNat, by omega⟩
    have hn : n < l.length := by omega
    obtain ⟨b, c, hv, _⟩ := HO.out.form (by omega)
    have hc := HO.out.get (b := b) (by rw [hv]; rfl) hn
    rw [(HL.out.ln n).1] at hc
    rw [hv] at c0
    simp only [Int.toNat_natCast]
    rw [hvl] at hv
    simp only [Value.slice.injEq] at hv
    obtain ⟨rfl, -, rfl⟩ := hv
    have h1 : ¬ (n : Int) < 0 := by omega
    have h2 : ¬ (l.length : Int) ≤ n := by omega
    clear hs hvl
    go_enter Try.func35, Try.ntmps35
    go_wp2
    go_ret
    exact ⟨rfl, rfl⟩
  · have HE : Hid (lnI l s = 0) := if_neg hs
    rw [HE.out]
    rw [hvl] at c0
    by_cases h1 : s < 0
    · clear hs
      go_enter Try.func35, Try.ntmps35
      go_wp2
      go_ret
      exact ⟨rfl, rfl⟩
    · have h2 : (l.length : Int) ≤ s := by omega
      clear hs
      go_enter Try.func35, Try.ntmps35
      go_wp2
      go_ret
      exact ⟨rfl, rfl⟩

theorem elen_any {w : World} {K : Nat → Nat} {g : Nat} {l : List Int} (h : Ep w K g l) (s : Int) (hs0 : -9223372036854775808 ≤ s) (hs1 : s ≤ 9223372036854775807) :
    Calls Try.prog 34 #[.pointer (some ⟨g, 0, none⟩), .int .i64 s] w fun e w' => e = .returned (.int .i64 (lnI l s)) ∧ w' = w := by
  have HEE := hide h
  clear h
  go_enter Try.func34, Try.ntmps34
  go_wp2_with fail
  refine (length_any HEE.out s hs0 hs1).mono ?_
  rintro e w1 ⟨rfl, rfl⟩
  go_wp2
  go_ret
  exact ⟨rfl, rfl⟩

set_option maxHeartbeats 2000000 in
theorem hxeput {W w : World} {xs : List ((Nat → Nat) × Thing)} (H : Herd W w xs) (i j : Nat) {K Kw : Nat → Nat} {g r : Nat} {l row : List Int} (hi : xs[i]? = some (K, tex g l)) (hj : xs[j]? = some (Kw, tx r row)) (s : Int) (hs0 : -9223372036854775808 ≤ s) (hs1 : s ≤ 9223372036854775807) :
    Calls Try.prog 33 #[.pointer (some ⟨g, 0, none⟩), .pointer (some ⟨r, 0, none⟩), .int .i64 s] w fun e w' => e = .returned (.int .i64 (epE l row s)) ∧ ∃ K', Herd W w' (xs.set j (K', tx r (epR l row s))) := by
  have hE : Ex w K g l := H.rep i _ hi
  have hl := (bkE_zero hE.ok).1
  have HL := hide hl
  have hu := us_le hE.ok
  have HH := hide H
  have HI := hide hi
  have HJ := hide hj
  have HEE := hide hE
  have hset : xs.set j (Kw, tx r row) = xs := by
    apply List.ext_getElem?
    intro n
    rw [List.getElem?_set]
    by_cases c : j = n
    · subst c
      rw [if_pos rfl, hj, if_pos (List.getElem?_eq_some_iff.1 hj).1]
    · rw [if_neg c]
  have HST := hide hset
  by_cases h0 : lnI l s = 0
  · have HE : Hid (epE l row s = 56) := if_pos h0
    have HR : Hid (epR l row s = row) := if_neg (by rw [HE.out]; decide)
    rw [HE.out, HR.out]
    have HN := hide h0
    clear hE hl hu H hi hj hset h0
    go_enter Try.func33, Try.ntmps33
    go_wp2_with fail
    refine (xelen_any HEE.out s hs0 hs1).mono ?_
    rintro e w1 ⟨rfl, rfl⟩
    rw [HN.out]
    go_wp2
    go_ret
    exact ⟨rfl, Kw, by rw [HST.out]; exact HH.out⟩
  · obtain ⟨b0, b1, b2⟩ := lnI_pos h0
    obtain ⟨n, rfl⟩ : ∃ n : Nat, s = n := ⟨s.toNat, by omega⟩
    simp only [Int.toNat_natCast] at b2
    have hn : n < l.length := by omega
    have hlt := word_lt hl hu (s := n)
    have h15 := (hl.ln n).2
    have HEQ : Hid (epE l row n = putE row (val (wb l n)) (ln l n) ∧ epR l row n = putRow row (val (wb l n)) (ln l n)) := by
      have hvb := val_bound (wb_bit l n)
      rw [wb_len] at hvb
      have hbv : bts (val (wb l n)) (ln l n) = wb l n := by have := bts_val (wb_bit l n); rwa [wb_len] at this
      have hfit : Fit (val (wb l n)) (ln l n) := ⟨⟨by omega, by omega⟩, by simp; exact hvb.2⟩
      have hE1 : epE l row n = if row.length + ln l n ≤ 268435456 then 0 else 1 := by unfold epE; rw [if_neg h0, b2]
      by_cases c : row.length + ln l n ≤ 268435456
      · have hok : putOk row (val (wb l n)) (ln l n) := ⟨hfit, by omega⟩
        have e1 : epE l row n = 0 := by rw [hE1, if_pos c]
        refine ⟨by rw [e1]; unfold putE; rw [if_pos hok], ?_⟩
        unfold epR putRow
        rw [if_pos e1, if_pos hok, Int.toNat_natCast, Int.toNat_natCast, hbv]
      · have hok : ¬ putOk row (val (wb l n)) (ln l n) := fun h => c (by have := h.2; omega)
        have e1 : epE l row n = 1 := by rw [hE1, if_neg c]
        refine ⟨by rw [e1]; unfold putE; rw [if_neg hok], ?_⟩
        unfold epR putRow
        rw [if_neg (by rw [e1]; decide), if_neg hok]
    obtain ⟨vl, vw, a1, a2, a3, _⟩ := hE.d
    have c1 : w.cell? ⟨g, 1, none⟩ = some vw := by rw [cell_of_row _ _ _ _ _ _ a1]; rfl
    obtain ⟨bw, cw, hvw, _, _, q1, q2⟩ := a3.form (by rw [wds_len]; omega)
    have cw1 := a3.get (b := bw) (by rw [hvw]; rfl) (i := n) (by rw [wds_len]; exact hn)
    rw [wds_get hn] at cw1
    rw [wds_len] at hvw q1
    subst hvw
    rw [HEQ.out.1, HEQ.out.2]
    have hwb : val (wb l n) = val (bts (wd l n) (ln l n)).reverse := rfl
    rw [hwb]
    have h2n : 2 ^ ln l n ≤ 2 ^ 15 := Nat.pow_le_pow_right (by decide) h15
    have hm0 : ln l n ≠ 0 := by rw [← b2]; exact h0
    obtain ⟨m, HM⟩ : ∃ m : Nat, Hid (m = ln l n) := ⟨_, rfl⟩
    obtain ⟨y, HY⟩ : ∃ y : Nat, Hid (y = wd l n) := ⟨_, rfl⟩
    rw [← HM.out] at h15 hm0 b2 ⊢
    rw [← HY.out] at cw1 ⊢
    have hy : y < 32768 := by rw [HY.out]; omega
    have HB2 : Hid (lnI l (n : Int) = m) := b2
    have hmz : ((m : Int) == 0) = false := by simp; omega
    have h288 := hl.1
    clear hE hl hu H hi hj hset h0 hlt a1 a2 a3 h2n b2 hwb
    go_enter Try.func33, Try.ntmps33
    go_wp2_with fail
    refine (xelen_any HEE.out n hs0 hs1).mono ?_
    rintro e w1 ⟨rfl, rfl⟩
    rw [HB2.out]
    go_wp2
    go_loopw [8, 9, 10] (fun a b q wr => ∃ k : Nat, k ≤ m ∧ q = .int .i64 k ∧ a = .int .u32 (val (bts (y : Int) k).reverse) ∧ b = .int .i64 ((y : Int) / 2 ^ k) ∧ wr = w1) (fun _ _ q _ => m - (intOf q).toNat)
    case atStart => exact ⟨0, Nat.zero_le _, rfl, rfl, by simp, rfl⟩
    case round =>
      obtain ⟨k, hk, rfl, rfl, rfl, rfl⟩ := hrel
      by_cases hkm : k < m
      · have hkm' : (k : Int) < (m : Int) := by omega
        have hb := rev_bound (y : Int) k
        have hp2 : (2 : Int) ^ k ≤ 2 ^ 15 := pow_le (by omega)
        have HSN := hide (rev_snoc (y : Int) k)
        have hpk := pow_pos k
        have hd0 : 0 ≤ (y : Int) / 2 ^ k := Int.ediv_nonneg (by omega) (Int.le_of_lt hpk)
        have hd1 : (y : Int) / 2 ^ k ≤ y := Int.ediv_le_self _ (by omega)
        have HDD : Hid ((y : Int) / 2 ^ (k + 1) = (y : Int) / 2 ^ k / 2) := by
          show _ = _
          rw [pow_add1, Int.mul_comm, Int.ediv_ediv_of_nonneg (Int.le_of_lt hpk)]
        obtain ⟨R, HR⟩ : ∃ R, Hid (R = val (bts (y : Int) k).reverse) := ⟨_, rfl⟩
        obtain ⟨D, HD⟩ : ∃ D, Hid (D = (y : Int) / 2 ^ k) := ⟨_, rfl⟩
        rw [← HR.out] at hb HSN ⊢
        rw [← HD.out] at HSN HDD hd0 hd1 ⊢
        have hR1 : R < 32768 := by omega
        have hR0 : 0 ≤ R := hb.1
        have tm : D.tmod 2 = D % 2 := Int.tmod_eq_emod_of_nonneg hd0
        have tdv : D.tdiv 2 = D / 2 := Int.tdiv_eq_ediv_of_nonneg hd0
        have hw1' : IntKind.u32.wrap (2 * R) = 2 * R := by rw [IntKind.wrap_u32]; omega
        have hw2' : IntKind.u32.wrap (D % 2) = D % 2 := by rw [IntKind.wrap_u32]; omega
        have hw3' : IntKind.u32.wrap (2 * R + D % 2) = 2 * R + D % 2 := by rw [IntKind.wrap_u32]; omega
        clear hb hp2 hpk
        go_wp2
        go_roundw
        case rel => exact ⟨k + 1, by omega, by go_num, by first | (rw [HSN.out, Int.add_comm]; done) | (rw [HSN.out]; congr 1; simp only [*]; omega) , by rw [HDD.out], by trivial⟩
        case measure => simp [intOf]; omega
      · obtain rfl : k = m := by omega
        have hkm' : ¬ (k : Int) < (k : Int) := by omega
        have hb := rev_bound (y : Int) k
        have hp2 : (2 : Int) ^ k ≤ 2 ^ 15 := pow_le (by omega)
        obtain ⟨R, HR⟩ : ∃ R, Hid (R = val (bts (y : Int) k).reverse) := ⟨_, rfl⟩
        rw [← HR.out] at hb ⊢
        have hR1 : R < 4294967296 := by omega
        have hR0 : 0 ≤ R := hb.1
        clear hb hp2
        go_wp2_with fail
        refine (hxput HH.out j HJ.out R k hR0 hR1).mono ?_
        rintro e w3 ⟨rfl, K', h3⟩
        have HX := hide h3
        clear h3
        go_wp2
        go_ret
        rw [← HR.out]
        exact ⟨rfl, K', HX.out⟩
end Go.Proofs.Ythlbmpmbbdaboab
