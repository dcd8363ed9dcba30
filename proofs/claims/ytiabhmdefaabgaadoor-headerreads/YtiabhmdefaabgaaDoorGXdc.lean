import Derived.Test.YtiabhmdefaabgaaDoorGXck
import Derived.Test.YtiabhmdefaabgaaDoorGNxt
import Derived.Test.YtiabhmdefaabgaaDoorGDcd
import Derived.Test.YtiabhmdefaabgaaDoorGRds
namespace Go.Proofs.YtiabhmdefaabgaaDoor
open Go.RowKit Go.Maps
set_option maxRecDepth 20000

/-- The document's decoder. -/
structure Dx (w : World) (K : Nat → Nat) (g : Nat) (l : List Int) : Prop where
  d : ∃ vl vw, w.heap[g]? = some (.cells #[vl, vw, .int .i64 (shp l)] 143 (0, 0)) ∧ OI w 0 vl l ∧ OI w 0 vw (wds l) ∧ (∀ k, vl.ownBlock = some k → K k ≠ 0) ∧ (∀ k, vw.ownBlock = some k → K k ≠ 0)
  k : K g ≠ 0
  sup : ∀ k, K k ≠ 0 → k < w.heap.size
  ok : dcE l = 0

theorem Dx.far {w w' : World} {K : Nat → Nat} {g : Nat} {l : List Int} (h : Dx w K g l) (hsz : w.heap.size ≤ w'.heap.size) (hb : ∀ k, K k ≠ 0 → w'.heap[k]? = w.heap[k]?) : Dx w' K g l := by
  obtain ⟨vl, vw, a1, a2, a3, a4, a5⟩ := h.d
  exact ⟨⟨vl, vw, (hb g h.k).trans a1, a2.move fun k hk => hb k (a4 k hk), a3.move fun k hk => hb k (a5 k hk), a4, a5⟩, h.k, fun k hk => Nat.lt_of_lt_of_le (h.sup k hk) hsz, h.ok⟩

def tdx (g : Nat) (l : List Int) : Thing := ⟨fun w K => Dx w K g l, fun h a b => h.far a b, fun h => h.sup⟩

def MadeDx (w : World) (l : List Int) (e : Ending) (w' : World) : Prop := Below w.heap.size w w' ∧ ((dcE l ≠ 0 ∧ e = .returned (.tuple #[.pointer none, .int .i64 (dcE l)])) ∨ (dcE l = 0 ∧ ∃ g K, e = .returned (.tuple #[.pointer (some ⟨g, 0, none⟩), .int .i64 0]) ∧ Dx w' K g l ∧ ∀ k, K k ≠ 0 → w.heap.size ≤ k))

theorem cd_of_dc {l : List Int} (h : dcE l = 0) : cdE l = 0 ∧ cdL l = wds l := by
  obtain ⟨h1, h2⟩ := (dcE_iff l).1 h
  have e : cdE l = 0 := by unfold cdE; rw [if_neg (by simp [h1]), if_neg (by omega)]
  exact ⟨e, if_pos e⟩

set_option maxHeartbeats 1000000 in
theorem xnewDecoder_any (v : Value) (l : List Int) (w : World) (h : SI w v l) :
    Calls Tryd.prog 77 #[v] w fun e w' => MadeDx w l e w' := by
  have HS := hide h
  obtain ⟨ao, cap, rfl, hlc, hcm⟩ := h.open
  clear h
  by_cases h0 : chkE l = 0
  case neg =>
    have h1 : (chkE l == 0) = false := by simpa using h0
    have hb : bkE l = chkE l := if_pos h0
    have hE : dcE l = chkE l := by unfold dcE; rw [if_pos (by rw [hb]; exact h0), hb]
    have HE := hide hE
    have HNE : Hid (dcE l ≠ 0) := by show _ ≠ _; rw [hE]; exact h0
    obtain ⟨q, HQ⟩ : ∃ q, Hid (q = chkE l) := ⟨_, rfl⟩
    obtain ⟨r, HR⟩ : ∃ q, Hid (q = chkS l) := ⟨_, rfl⟩
    rw [← HQ.out] at h0 h1 HE
    clear hb hE
    go_enter Tryd.func77, Tryd.ntmps77
    go_wp2_with fail
    refine (xcheck_any _ l _ HS.out).mono ?_
    rintro e w1 ⟨rfl, rfl⟩
    rw [← HQ.out, ← HR.out]
    go_wp2
    go_ret2
    exact ⟨Below.refl _ _, .inl ⟨HNE.out, by rw [HE.out]; rfl⟩⟩
  obtain ⟨hl, hs⟩ := chkE_zero h0
  have HL := hide hl
  have h288 := hl.1
  have HR := hide hs
  have HQ := hide h0
  have hbk : bkE l = if shp l = 2 then 52 else if shp l = 3 then 51 else 0 := by unfold bkE; rw [if_neg (by simp [h0])]
  clear hl hs h0
  by_cases c0 : shp l = 0
  · have hE : dcE l = 53 := by unfold dcE; rw [if_neg (by rw [hbk, if_neg (by omega), if_neg (by omega)]; simp), if_pos c0]
    have HE := hide hE
    clear hE hbk
    go_enter Tryd.func77, Tryd.ntmps77
    go_wp2_with fail
    refine (xcheck_any _ l _ HS.out).mono ?_
    rintro e w1 ⟨rfl, rfl⟩
    rw [HQ.out, HR.out, c0]
    go_wp2
    go_ret2
    exact ⟨Below.refl _ _, .inl ⟨by rw [HE.out]; decide, by rw [HE.out]; rfl⟩⟩
  by_cases c2 : shp l = 2
  · have hE : dcE l = 52 := by unfold dcE; rw [if_pos (by rw [hbk, if_pos c2]; decide), hbk, if_pos c2]
    have HE := hide hE
    clear hE hbk c0
    go_enter Tryd.func77, Tryd.ntmps77
    go_wp2_with fail
    refine (xcheck_any _ l _ HS.out).mono ?_
    rintro e w1 ⟨rfl, rfl⟩
    rw [HQ.out, HR.out, c2]
    go_wp2
    go_ret2
    exact ⟨Below.refl _ _, .inl ⟨by rw [HE.out]; decide, by rw [HE.out]; rfl⟩⟩
  by_cases c3 : shp l = 3
  · have hE : dcE l = 51 := by unfold dcE; rw [if_pos (by rw [hbk, if_neg c2, if_pos c3]; decide), hbk, if_neg c2, if_pos c3]
    have HE := hide hE
    clear hE hbk c0 c2
    go_enter Tryd.func77, Tryd.ntmps77
    go_wp2_with fail
    refine (xcheck_any _ l _ HS.out).mono ?_
    rintro e w1 ⟨rfl, rfl⟩
    rw [HQ.out, HR.out, c3]
    go_wp2
    go_ret2
    exact ⟨Below.refl _ _, .inl ⟨by rw [HE.out]; decide, by rw [HE.out]; rfl⟩⟩
  have hE : dcE l = 0 := by unfold dcE; rw [if_neg (by rw [hbk, if_neg c2, if_neg c3]; simp), if_neg c0]
  have HE := hide hE
  have HCD := hide (cd_of_dc hE)
  obtain ⟨r, HR2⟩ : ∃ q, Hid (q = shp l) := ⟨_, rfl⟩
  rw [← HR2.out] at c0 c2 c3
  have c0' : (r == 0) = false := by simpa using c0
  have c2' : (r == 2) = false := by simpa using c2
  have c3' : (r == 3) = false := by simpa using c3
  clear hE hbk
  go_enter Tryd.func77, Tryd.ntmps77
  go_wp2_with fail
  refine (xcheck_any _ l _ HS.out).mono ?_
  rintro e w1 ⟨rfl, rfl⟩
  rw [HQ.out, HR.out, ← HR2.out]
  go_wp2_with fail
  refine (xcodes_any _ l _ HS.out).mono ?_
  rintro e w2 ⟨a2, c2, rfl, ho2, hb2⟩
  rw [HCD.out.2, wds_len] at ho2
  rw [HCD.out.1, HCD.out.2, wds_len]
  have HO2 := hide ho2
  have HB2 := hide hb2
  have HS2 := hide (HS.out.below hb2)
  clear ho2 hb2
  obtain ⟨V, HV⟩ : ∃ V, Hid (V = w2.alloc (.cells #[.slice none 0 0, .slice a2 l.length c2, .int .i64 r] 143)) := ⟨_, rfl⟩
  have hbox : V.heap[w2.heap.size]? = some (.cells #[.slice none 0 0, .slice a2 l.length c2, .int .i64 r] 143 (0, 0)) := by rw [HV.out]; exact heap_alloc_new w2 _
  have hbV : Below w2.heap.size w2 V := by rw [HV.out]; exact (Below.refl _ _).alloc (Nat.le_refl _) _
  have HBOX := hide hbox
  have HSR : Hid (Src Tryd.prog 1 26 (.slice ao l.length cap) l.length (l.map (Value.int .i64)) (w2.alloc (.cells #[.slice none 0 0, .slice a2 l.length c2, .int .i64 r] 143))) := by rw [← HV.out]; exact (HS2.out.below hbV).src
  have HOV := hide (HO2.out.below hbV (Nat.le_refl _))
  have HBV := hide (HB2.out.trans (hbV.mono HB2.out.size))
  have HSZ : Hid (V.heap.size = w2.heap.size + 1) := by show _ = _; rw [HV.out]; simp
  have hw12 : w1.heap.size ≤ w2.heap.size := HB2.out.size
  clear hbox hbV
  go_wp2_with (at_builtin; refine wpList_appI rfl _ _ 26 rfl w1.heap.size _ _ [] l rfl (World.ownsRow_nil _ _ _ _) rfl HSR.out (by simp; omega) (by simp; omega) ?_)
  rw [← HV.out]
  intro v3 w3 ho3 hgr3
  have hB3 : w3.heap[w2.heap.size]? = some (.cells #[.slice none 0 0, .slice a2 l.length c2, .int .i64 r] 143 (0, 0)) := (hgr3.by.block _ (by rw [HSZ.out]; omega) (by simp [Value.ownBlock])).trans HBOX.out
  have k0 : w3.cell? ⟨w2.heap.size, 0, none⟩ = some (.slice none 0 0) := by rw [cell_of_row _ _ _ _ _ _ hB3]; rfl
  have f0 : w3.frozen? ⟨w2.heap.size, 0, none⟩ = false := frozen_of_row _ _ _ _ _ hB3
  obtain ⟨a3, c3', hv3⟩ := ho3.shape
  have HF : Hid (MadeDx w1 l (.returned (.tuple #[.pointer (some ⟨w2.heap.size, 0, none⟩), .int .i64 0])) (w3.setCell ⟨w2.heap.size, 0, none⟩ v3)) := by
    have hnb : ∀ k, v3.ownBlock = some k → k ≠ w2.heap.size := fun k hk e => by
      rcases hgr3.at with h | h
      · rw [h, HSZ.out] at hk; simp at hk; omega
      · rw [h] at hk; simp [Value.ownBlock] at hk
    have p1 : OI (w3.setCell ⟨w2.heap.size, 0, none⟩ v3) w1.heap.size v3 l := (show OI w3 w1.heap.size v3 l from ho3).move fun k hk => setCell_others w3 _ _ _ _ (hnb k hk)
    have q2 : OI w3 w1.heap.size (.slice a2 l.length c2) (wds l) := HOV.out.move fun k hk => hgr3.by.block k (HOV.out.lt k hk).2 (by simp [Value.ownBlock])
    have p2 : OI (w3.setCell ⟨w2.heap.size, 0, none⟩ v3) w1.heap.size (.slice a2 l.length c2) (wds l) := q2.move fun k hk => setCell_others w3 _ _ _ _ (fun e => by have := (HO2.out.lt k hk).2; omega)
    have hsz3 : w2.heap.size < w3.heap.size := by have := hgr3.by.size; rw [HSZ.out] at this; omega
    have hbel : Below w1.heap.size w1 (w3.setCell ⟨w2.heap.size, 0, none⟩ v3) := by
      have h1 : Below w1.heap.size w1 w3 := HBV.out.grown hgr3.by HBV.out.size (fun k hk => by simp [Value.ownBlock] at hk)
      exact h1.setCell (by show _ ≤ w2.heap.size; omega) _
    refine ⟨hbel, .inr ⟨HE.out, w2.heap.size, fun k => if k = w2.heap.size ∨ v3.ownBlock = some k ∨ (Value.slice a2 l.length c2).ownBlock = some k then 1 else 0, rfl, ⟨⟨v3, .slice a2 l.length c2, ?_, p1.base (Nat.zero_le _), p2.base (Nat.zero_le _), fun k hk => by simp [hk], fun k hk => by simp [hk]⟩, by simp, fun k hk => ?_, HE.out⟩, fun k hk => ?_⟩⟩
    · rw [heap_setCell_same _ _ _ _ _ _ hB3, ← HR2.out]; rfl
    · by_cases c : k = w2.heap.size ∨ v3.ownBlock = some k ∨ (Value.slice a2 l.length c2).ownBlock = some k
      · rcases c with rfl | c | c
        · rw [size_setCell]; exact hsz3
        · exact (p1.lt k c).2
        · exact (p2.lt k c).2
      · simp [c] at hk
    · by_cases c : k = w2.heap.size ∨ v3.ownBlock = some k ∨ (Value.slice a2 l.length c2).ownBlock = some k
      · rcases c with rfl | c | c
        · exact hw12
        · exact (p1.lt k c).1
        · exact (p2.lt k c).1
      · simp [c] at hk
  subst hv3
  clear ho3 hgr3 hB3
  go_wp2
  go_ret2
  exact HF.out

/-- The first symbol of a length with a word. -/
def At (l : List Int) (n y s : Nat) : Prop := s < l.length ∧ ln l s = n ∧ wd l s = y

theorem at_hit {l : List Int} (v : Int) {n s : Nat} (hn : n ≤ 15) (h0 : 0 < n) {y : Nat} (hy : mir v n = (y : Int)) : At l n y s ↔ Hit l (rowN v) s ∧ ln l s = n := by
  have hr := mir_row v hn
  rw [hy] at hr
  have hr' : rowN v / 2 ^ (15 - n) = y := by exact_mod_cast hr.symm
  rw [hit_iff]
  constructor
  · rintro ⟨h1, h2, h3⟩
    exact ⟨⟨⟨h1, by omega⟩, by rw [h2, h3]; exact hr'⟩, h2⟩
  · rintro ⟨⟨h1, h2⟩, h3⟩
    exact ⟨h1.1, h3, by rw [← h2, h3]; exact hr'⟩

theorem ahead_mod {row : List Int} (hb : Bit row) (p : Nat) {n : Nat} (h : n ≤ 15) : bts (ahead row p n) n = bts (ahead row p 15) n := by
  have e : ahead row p n = ahead row p 15 % 2 ^ n := by
    unfold ahead
    rw [← val_take ((hb.drop p).take 15), List.take_take, Nat.min_eq_left h]
  rw [e, bts_mod]

theorem mir_ahead {row : List Int} (hb : Bit row) (p : Nat) {n : Nat} (h : n ≤ 15) : mir (ahead row p n) n = mir (ahead row p 15) n := by unfold mir; rw [ahead_mod hb p h]

theorem top_bit {v : Int} {n : Nat} (h0 : 0 ≤ v) (h1 : v < 2 ^ (n + 1)) : v / 2 ^ n = v / 2 ^ n % 2 := by
  have hp := pow_pos n
  rw [pow_add1] at h1
  have : v / 2 ^ n < 2 := by rw [Int.ediv_lt_iff_lt_mul hp]; omega
  have h2 := Int.ediv_nonneg h0 (Int.le_of_lt hp)
  omega
end Go.Proofs.YtiabhmdefaabgaaDoor

