import Derived.Test.YtdpoggapenjjfaaGreatDoorG06Rhn
import Derived.Test.YtdpoggapenjjfaaGreatDoorG14Qr4
import Derived.Test.YtdpoggapenjjfaaGreatDoorG10Rpt
import Init
namespace Go.Proofs.YtdpoggapenjjfaaGreatDoor
open Go.RowKit Go.Maps
set_option maxRecDepth 20000

structure It where
  kind : Int
  v : Int
  n : Int
  d : Value
  l : List Int

def ISc (w : World) (v : Value) (ops : List It) : Prop :=
  ∃ ao cap, v = .slice ao ops.length cap ∧ ops.length ≤ cap ∧ cap ≤ maxLen ∧ ∀ (i : Nat) (o : It), ops[i]? = some o → ∃ b of, ao = some ⟨b, of, none⟩ ∧ w.cell? ⟨b, of + i * 4, none⟩ = some (.int .i64 o.kind) ∧ w.cell? ⟨b, of + i * 4 + 1, none⟩ = some (.int .u32 o.v) ∧ w.cell? ⟨b, of + i * 4 + 2, none⟩ = some (.int .i64 o.n) ∧ w.cell? ⟨b, of + i * 4 + 3, none⟩ = some o.d

def IOk (w : World) (ops : List It) : Prop := ∀ o ∈ ops, (0 ≤ o.v ∧ o.v < 4294967296) ∧ SB w o.d o.l ∧ Byt o.l ∧ o.l.length ≤ 1048576

def wid (o : It) : Nat := (o.n % 33).toNat
def low (o : It) : Int := o.v % 2 ^ wid o

theorem IOk.take {w : World} {ops : List It} (h : IOk w ops) (k : Nat) : IOk w (ops.take k) := fun o ho => h o (List.mem_of_mem_take ho)

theorem ISc.len {w : World} {v : Value} {ops : List It} (h : ISc w v ops) : ∃ a c, v = .slice a ops.length c ∧ ops.length ≤ c ∧ c ≤ 9223372036854775807 := by
  obtain ⟨a, c, h, h1, h2, _⟩ := h
  unfold maxLen at h2
  exact ⟨a, c, h, h1, h2⟩

end Go.Proofs.YtdpoggapenjjfaaGreatDoor

namespace Go.Proofs.YtdpoggapenjjfaaGreatDoor
open Go.RowKit Go.Maps
set_option maxRecDepth 20000

theorem Herd.only {W w : World} {xs : List ((Nat → Nat) × Thing)} (h : Herd W w xs) (i : Nat) {d : (Nat → Nat) × Thing} (hi : xs[i]? = some d) : Herd W w [d] := by
  have e : ∀ (j : Nat) (d' : (Nat → Nat) × Thing), [d][j]? = some d' → j = 0 ∧ d' = d := fun j d' h => by
    cases j with
    | zero => simp at h; exact ⟨rfl, h.symm⟩
    | succ j => simp at h
  refine ⟨h.bel, fun j d' hd => ?_, fun j d' hd => ?_, fun j j' d' e' hd he hne => ?_⟩
  · obtain ⟨_, rfl⟩ := e j d' hd; exact h.rep i _ hi
  · obtain ⟨_, rfl⟩ := e j d' hd; exact h.up i _ hi
  · have := (e j d' hd).1; have := (e j' e' he).1; omega

end Go.Proofs.YtdpoggapenjjfaaGreatDoor

namespace Go.Proofs.YtdpoggapenjjfaaGreatDoor
open Go.RowKit Go.Maps
set_option maxRecDepth 20000

def tq (g : Nat) (row : List Int) (p : Nat) : Thing := ⟨fun w K => Rq w K g row p, fun h a b => h.far a b, fun h => h.sup⟩

theorem hqnew {W w : World} {xs : List ((Nat → Nat) × Thing)} (H : Herd W w xs) (u : Value) (l : List Int) (h : SB w u l) (hB : Byt l) (hl : l.length ≤ 33554432) :
    Calls Tryz.prog 19 #[u] w fun e w' => ∃ g K, e = .returned (.pointer (some ⟨g, 0, none⟩)) ∧ Herd W w' (xs ++ [(K, tq g (unpack l) 0)]) := by
  refine (qnewReader_any u l w h hB hl).mono ?_
  rintro e w1 ⟨g, K, rfl, hR, hn, hb⟩
  exact ⟨g, K, rfl, H.push hb hR hn⟩

theorem hqtake {W w : World} {xs : List ((Nat → Nat) × Thing)} (H : Herd W w xs) (i : Nat) {K : Nat → Nat} {g : Nat} {row : List Int} {p : Nat} (hi : xs[i]? = some (K, tq g row p)) (n : Int) :
    Calls Tryz.prog 32 #[.pointer (some ⟨g, 0, none⟩), .int .i64 n] w fun e w' => e = .returned (.tuple #[.int .u32 (takeV row p n), .int .i64 (takeE row p n)]) ∧ Herd W w' (xs.set i (K, tq g row (takeP row p n))) := by
  have hw : Rq w K g row p := H.rep i _ hi
  refine (qtake_any hw n).mono ?_
  rintro e w1 ⟨rfl, h1, h2⟩
  exact ⟨rfl, H.op i hi (x' := tq g row (takeP row p n)) h1 h2⟩

theorem hqpeek {W w : World} {xs : List ((Nat → Nat) × Thing)} (H : Herd W w xs) (i : Nat) {K : Nat → Nat} {g : Nat} {row : List Int} {p : Nat} (hi : xs[i]? = some (K, tq g row p)) (n : Int) :
    Calls Tryz.prog 51 #[.pointer (some ⟨g, 0, none⟩), .int .i64 n] w fun e w' => e = .returned (.tuple #[.int .u32 (peekV row p n), .int .i64 (peekK row p n)]) ∧ Herd W w' xs := by
  have hw : Rq w K g row p := H.rep i _ hi
  refine (qpeek_any hw n).mono ?_
  rintro e w1 ⟨rfl, q, rfl⟩
  exact ⟨rfl, H.drewN q⟩

theorem hqskip {W w : World} {xs : List ((Nat → Nat) × Thing)} (H : Herd W w xs) (i : Nat) {K : Nat → Nat} {g : Nat} {row : List Int} {p : Nat} (hi : xs[i]? = some (K, tq g row p)) (n : Int) :
    Calls Tryz.prog 95 #[.pointer (some ⟨g, 0, none⟩), .int .i64 n] w fun e w' => e = .returned (.int .i64 (skipE row p n)) ∧ Herd W w' (xs.set i (K, tq g row (skipP row p n))) := by
  have hw : Rq w K g row p := H.rep i _ hi
  refine (qskip_any hw n).mono ?_
  rintro e w1 ⟨rfl, h1, h2⟩
  exact ⟨rfl, H.op i hi (x' := tq g row (skipP row p n)) h1 h2⟩

theorem hqalign {W w : World} {xs : List ((Nat → Nat) × Thing)} (H : Herd W w xs) (i : Nat) {K : Nat → Nat} {g : Nat} {row : List Int} {p : Nat} (hi : xs[i]? = some (K, tq g row p)) :
    Calls Tryz.prog 52 #[.pointer (some ⟨g, 0, none⟩)] w fun e w' => e = .returned (.tuple #[]) ∧ Herd W w' (xs.set i (K, tq g row (algn p))) := by
  have hw : Rq w K g row p := H.rep i _ hi
  refine (qalign_any hw).mono ?_
  rintro e w1 ⟨rfl, h1, h2⟩
  exact ⟨rfl, H.op i hi (x' := tq g row (algn p)) h1 h2⟩

theorem hqleft {W w : World} {xs : List ((Nat → Nat) × Thing)} (H : Herd W w xs) (i : Nat) {K : Nat → Nat} {g : Nat} {row : List Int} {p : Nat} (hi : xs[i]? = some (K, tq g row p)) :
    Calls Tryz.prog 53 #[.pointer (some ⟨g, 0, none⟩)] w fun e w' => e = .returned (.int .i64 ((row.length : Int) - p)) ∧ Herd W w' xs := by
  have hw : Rq w K g row p := H.rep i _ hi
  refine (qleft_any hw).mono ?_
  rintro e w1 ⟨rfl, q, rfl⟩
  exact ⟨rfl, H.drewN q⟩

end Go.Proofs.YtdpoggapenjjfaaGreatDoor

namespace Go.Proofs.YtdpoggapenjjfaaGreatDoor
open Go.RowKit Go.Maps
set_option maxRecDepth 20000

structure Dx (w : World) (K : Nat → Nat) (g : Nat) (l : List Int) : Prop where
  d : ∃ vl vw, w.heap[g]? = some (.cells #[vl, vw, .int .i64 (shp l)] 115 (0, 0)) ∧ OI w 0 vl l ∧ OI w 0 vw (wds l) ∧ (∀ k, vl.ownBlock = some k → K k ≠ 0) ∧ (∀ k, vw.ownBlock = some k → K k ≠ 0)
  k : K g ≠ 0
  sup : ∀ k, K k ≠ 0 → k < w.heap.size
  ok : dcE l = 0

theorem Dx.far {w w' : World} {K : Nat → Nat} {g : Nat} {l : List Int} (h : Dx w K g l) (hsz : w.heap.size ≤ w'.heap.size) (hb : ∀ k, K k ≠ 0 → w'.heap[k]? = w.heap[k]?) : Dx w' K g l := by
  obtain ⟨vl, vw, a1, a2, a3, a4, a5⟩ := h.d
  exact ⟨⟨vl, vw, (hb g h.k).trans a1, a2.move fun k hk => hb k (a4 k hk), a3.move fun k hk => hb k (a5 k hk), a4, a5⟩, h.k, fun k hk => Nat.lt_of_lt_of_le (h.sup k hk) hsz, h.ok⟩

def tdx (g : Nat) (l : List Int) : Thing := ⟨fun w K => Dx w K g l, fun h a b => h.far a b, fun h => h.sup⟩

def MadeDx (w : World) (l : List Int) (e : Ending) (w' : World) : Prop := Below w.heap.size w w' ∧ ((dcE l ≠ 0 ∧ e = .returned (.tuple #[.pointer none, .int .i64 (dcE l)])) ∨ (dcE l = 0 ∧ ∃ g K, e = .returned (.tuple #[.pointer (some ⟨g, 0, none⟩), .int .i64 0]) ∧ Dx w' K g l ∧ ∀ k, K k ≠ 0 → w.heap.size ≤ k))

theorem cd_of_dc {l : List Int} (h : dcE l = 0) : cdE l = 0 ∧ cdL l = wds l := by
  obtain ⟨h1, h2⟩ := (dcE_iff l).1 h
  have e : cdE l = 0 := by unfold cdE; rw [if_neg (by simp [h1]), if_neg (by omega)]
  exact ⟨e, if_pos e⟩

set_option maxHeartbeats 1000000 in
theorem xnewDecoder_any (v : Value) (l : List Int) (w : World) (h : SI w v l) :
    Calls Tryz.prog 54 #[v] w fun e w' => MadeDx w l e w' := by
  have HS := hide h
  obtain ⟨ao, cap, rfl, hlc, hcm⟩ := h.open
  clear h
  by_cases h0 : chkE l = 0
  case neg =>
    have h1 : (chkE l == 0) = false := by simpa using h0
    have hb : bkE l = chkE l := if_pos h0
    have hE : dcE l = chkE l := by unfold dcE; rw [if_pos (by rw [hb]; exact h0), hb]
    have HE := hide hE
    have HNE : Hid (dcE l ≠ 0) := by show _ ≠ _; rw [hE]; exact h0
    obtain ⟨q, HQ⟩ : ∃ q, Hid (q = chkE l) := ⟨_, rfl⟩
    obtain ⟨r, HR⟩ : ∃ q, Hid (q = chkS l) := ⟨_, rfl⟩
    rw [← HQ.out] at h0 h1 HE
    clear hb hE
    go_enter Tryz.func54, Tryz.ntmps54
    go_wp2_with fail
    refine (xcheck_any _ l _ HS.out).mono ?_
    rintro e w1 ⟨rfl, rfl⟩
    rw [← HQ.out, ← HR.out]
    go_wp2
    go_ret2
    exact ⟨Below.refl _ _, .inl ⟨HNE.out, by rw [HE.out]; rfl⟩⟩
  obtain ⟨hl, hs⟩ := chkE_zero h0
  have HL := hide hl
  have h288 := hl.1
  have HR := hide hs
  have HQ := hide h0
  have hbk : bkE l = if shp l = 2 then 52 else if shp l = 3 then 51 else 0 := by unfold bkE; rw [if_neg (by simp [h0])]
  clear hl hs h0
  by_cases c0 : shp l = 0
  · have hE : dcE l = 53 := by unfold dcE; rw [if_neg (by rw [hbk, if_neg (by omega), if_neg (by omega)]; simp), if_pos c0]
    have HE := hide hE
    clear hE hbk
    go_enter Tryz.func54, Tryz.ntmps54
    go_wp2_with fail
    refine (xcheck_any _ l _ HS.out).mono ?_
    rintro e w1 ⟨rfl, rfl⟩
    rw [HQ.out, HR.out, c0]
    go_wp2
    go_ret2
    exact ⟨Below.refl _ _, .inl ⟨by rw [HE.out]; decide, by rw [HE.out]; rfl⟩⟩
  by_cases c2 : shp l = 2
  · have hE : dcE l = 52 := by unfold dcE; rw [if_pos (by rw [hbk, if_pos c2]; decide), hbk, if_pos c2]
    have HE := hide hE
    clear hE hbk c0
    go_enter Tryz.func54, Tryz.ntmps54
    go_wp2_with fail
    refine (xcheck_any _ l _ HS.out).mono ?_
    rintro e w1 ⟨rfl, rfl⟩
    rw [HQ.out, HR.out, c2]
    go_wp2
    go_ret2
    exact ⟨Below.refl _ _, .inl ⟨by rw [HE.out]; decide, by rw [HE.out]; rfl⟩⟩
  by_cases c3 : shp l = 3
  · have hE : dcE l = 51 := by unfold dcE; rw [if_pos (by rw [hbk, if_neg c2, if_pos c3]; decide), hbk, if_neg c2, if_pos c3]
    have HE := hide hE
    clear hE hbk c0 c2
    go_enter Tryz.func54, Tryz.ntmps54
    go_wp2_with fail
    refine (xcheck_any _ l _ HS.out).mono ?_
    rintro e w1 ⟨rfl, rfl⟩
    rw [HQ.out, HR.out, c3]
    go_wp2
    go_ret2
    exact ⟨Below.refl _ _, .inl ⟨by rw [HE.out]; decide, by rw [HE.out]; rfl⟩⟩
  have hE : dcE l = 0 := by unfold dcE; rw [if_neg (by rw [hbk, if_neg c2, if_neg c3]; simp), if_neg c0]
  have HE := hide hE
  have HCD := hide (cd_of_dc hE)
  obtain ⟨r, HR2⟩ : ∃ q, Hid (q = shp l) := ⟨_, rfl⟩
  rw [← HR2.out] at c0 c2 c3
  have c0' : (r == 0) = false := by simpa using c0
  have c2' : (r == 2) = false := by simpa using c2
  have c3' : (r == 3) = false := by simpa using c3
  clear hE hbk
  go_enter Tryz.func54, Tryz.ntmps54
  go_wp2_with fail
  refine (xcheck_any _ l _ HS.out).mono ?_
  rintro e w1 ⟨rfl, rfl⟩
  rw [HQ.out, HR.out, ← HR2.out]
  go_wp2_with fail
  refine (xcodes_any _ l _ HS.out).mono ?_
  rintro e w2 ⟨a2, c2, rfl, ho2, hb2⟩
  rw [HCD.out.2, wds_len] at ho2
  rw [HCD.out.1, HCD.out.2, wds_len]
  have HO2 := hide ho2
  have HB2 := hide hb2
  have HS2 := hide (HS.out.below hb2)
  clear ho2 hb2
  obtain ⟨V, HV⟩ : ∃ V, Hid (V = w2.alloc (.cells #[.slice none 0 0, .slice a2 l.length c2, .int .i64 r] 115)) := ⟨_, rfl⟩
  have hbox : V.heap[w2.heap.size]? = some (.cells #[.slice none 0 0, .slice a2 l.length c2, .int .i64 r] 115 (0, 0)) := by rw [HV.out]; exact heap_alloc_new w2 _
  have hbV : Below w2.heap.size w2 V := by rw [HV.out]; exact (Below.refl _ _).alloc (Nat.le_refl _) _
  have HBOX := hide hbox
  have HSR : Hid (Src Tryz.prog 1 70 (.slice ao l.length cap) l.length (l.map (Value.int .i64)) (w2.alloc (.cells #[.slice none 0 0, .slice a2 l.length c2, .int .i64 r] 115))) := by rw [← HV.out]; exact (HS2.out.below hbV).src
  have HOV := hide (HO2.out.below hbV (Nat.le_refl _))
  have HBV := hide (HB2.out.trans (hbV.mono HB2.out.size))
  have HSZ : Hid (V.heap.size = w2.heap.size + 1) := by show _ = _; rw [HV.out]; simp
  have hw12 : w1.heap.size ≤ w2.heap.size := HB2.out.size
  clear hbox hbV
  go_wp2_with (at_builtin; refine wpList_appI rfl _ _ 70 rfl w1.heap.size _ _ [] l rfl (World.ownsRow_nil _ _ _ _) rfl HSR.out (by simp; omega) (by simp; omega) ?_)
  rw [← HV.out]
  intro v3 w3 ho3 hgr3
  have hB3 : w3.heap[w2.heap.size]? = some (.cells #[.slice none 0 0, .slice a2 l.length c2, .int .i64 r] 115 (0, 0)) := (hgr3.by.block _ (by rw [HSZ.out]; omega) (by simp [Value.ownBlock])).trans HBOX.out
  have k0 : w3.cell? ⟨w2.heap.size, 0, none⟩ = some (.slice none 0 0) := by rw [cell_of_row _ _ _ _ _ _ hB3]; rfl
  have f0 : w3.frozen? ⟨w2.heap.size, 0, none⟩ = false := frozen_of_row _ _ _ _ _ hB3
  obtain ⟨a3, c3', hv3⟩ := ho3.shape
  have HF : Hid (MadeDx w1 l (.returned (.tuple #[.pointer (some ⟨w2.heap.size, 0, none⟩), .int .i64 0])) (w3.setCell ⟨w2.heap.size, 0, none⟩ v3)) := by
    have hnb : ∀ k, v3.ownBlock = some k → k ≠ w2.heap.size := fun k hk e => by
      rcases hgr3.at with h | h
      · rw [h, HSZ.out] at hk; simp at hk; omega
      · rw [h] at hk; simp [Value.ownBlock] at hk
    have p1 : OI (w3.setCell ⟨w2.heap.size, 0, none⟩ v3) w1.heap.size v3 l := (show OI w3 w1.heap.size v3 l from ho3).move fun k hk => setCell_others w3 _ _ _ _ (hnb k hk)
    have q2 : OI w3 w1.heap.size (.slice a2 l.length c2) (wds l) := HOV.out.move fun k hk => hgr3.by.block k (HOV.out.lt k hk).2 (by simp [Value.ownBlock])
    have p2 : OI (w3.setCell ⟨w2.heap.size, 0, none⟩ v3) w1.heap.size (.slice a2 l.length c2) (wds l) := q2.move fun k hk => setCell_others w3 _ _ _ _ (fun e => by have := (HO2.out.lt k hk).2; omega)
    have hsz3 : w2.heap.size < w3.heap.size := by have := hgr3.by.size; rw [HSZ.out] at this; omega
    have hbel : Below w1.heap.size w1 (w3.setCell ⟨w2.heap.size, 0, none⟩ v3) := by
      have h1 : Below w1.heap.size w1 w3 := HBV.out.grown hgr3.by HBV.out.size (fun k hk => by simp [Value.ownBlock] at hk)
      exact h1.setCell (by show _ ≤ w2.heap.size; omega) _
    refine ⟨hbel, .inr ⟨HE.out, w2.heap.size, fun k => if k = w2.heap.size ∨ v3.ownBlock = some k ∨ (Value.slice a2 l.length c2).ownBlock = some k then 1 else 0, rfl, ⟨⟨v3, .slice a2 l.length c2, ?_, p1.base (Nat.zero_le _), p2.base (Nat.zero_le _), fun k hk => by simp [hk], fun k hk => by simp [hk]⟩, by simp, fun k hk => ?_, HE.out⟩, fun k hk => ?_⟩⟩
    · rw [heap_setCell_same _ _ _ _ _ _ hB3, ← HR2.out]; rfl
    · by_cases c : k = w2.heap.size ∨ v3.ownBlock = some k ∨ (Value.slice a2 l.length c2).ownBlock = some k
      · rcases c with rfl | c | c
        · rw [size_setCell]; exact hsz3
        · exact (p1.lt k c).2
        · exact (p2.lt k c).2
      · simp [c] at hk
    · by_cases c : k = w2.heap.size ∨ v3.ownBlock = some k ∨ (Value.slice a2 l.length c2).ownBlock = some k
      · rcases c with rfl | c | c
        · exact hw12
        · exact (p1.lt k c).1
        · exact (p2.lt k c).1
      · simp [c] at hk
  subst hv3
  clear ho3 hgr3 hB3
  go_wp2
  go_ret2
  exact HF.out

def At (l : List Int) (n y s : Nat) : Prop := s < l.length ∧ ln l s = n ∧ wd l s = y

theorem at_hit {l : List Int} (v : Int) {n s : Nat} (hn : n ≤ 15) (h0 : 0 < n) {y : Nat} (hy : mir v n = (y : Int)) : At l n y s ↔ Hit l (rowN v) s ∧ ln l s = n := by
  have hr := mir_row v hn
  rw [hy] at hr
  have hr' : rowN v / 2 ^ (15 - n) = y := by exact_mod_cast hr.symm
  rw [hit_iff]
  constructor
  · rintro ⟨h1, h2, h3⟩
    exact ⟨⟨⟨h1, by omega⟩, by rw [h2, h3]; exact hr'⟩, h2⟩
  · rintro ⟨⟨h1, h2⟩, h3⟩
    exact ⟨h1.1, h3, by rw [← h2, h3]; exact hr'⟩

theorem ahead_mod {row : List Int} (hb : Bit row) (p : Nat) {n : Nat} (h : n ≤ 15) : bts (ahead row p n) n = bts (ahead row p 15) n := by
  have e : ahead row p n = ahead row p 15 % 2 ^ n := by
    unfold ahead
    rw [← val_take ((hb.drop p).take 15), List.take_take, Nat.min_eq_left h]
  rw [e, bts_mod]

theorem mir_ahead {row : List Int} (hb : Bit row) (p : Nat) {n : Nat} (h : n ≤ 15) : mir (ahead row p n) n = mir (ahead row p 15) n := by unfold mir; rw [ahead_mod hb p h]

theorem top_bit {v : Int} {n : Nat} (h0 : 0 ≤ v) (h1 : v < 2 ^ (n + 1)) : v / 2 ^ n = v / 2 ^ n % 2 := by
  have hp := pow_pos n
  rw [pow_add1] at h1
  have : v / 2 ^ n < 2 := by rw [Int.ediv_lt_iff_lt_mul hp]; omega
  have h2 := Int.ediv_nonneg h0 (Int.le_of_lt hp)
  omega
end Go.Proofs.YtdpoggapenjjfaaGreatDoor

namespace Go.Proofs.YtdpoggapenjjfaaGreatDoor
open Go.RowKit Go.Maps
set_option maxRecDepth 20000

theorem us_four {l : List Int} (hl : Lens l) (h : shp l = 4) : us l 16 = 32768 := by
  rw [us_sum hl.2]
  unfold shp at h
  by_cases c0 : tsum l = 0
  · rw [if_pos c0] at h; omega
  · rw [if_neg c0] at h
    by_cases c1 : tsum l = 1 ∧ usum l = 16384
    · rw [if_pos c1] at h; omega
    · rw [if_neg c1] at h
      by_cases c2 : 32768 < usum l
      · rw [if_pos c2] at h; omega
      · rw [if_neg c2] at h
        by_cases c3 : usum l = 32768
        · exact c3
        · rw [if_neg c3] at h; omega

theorem us_one {l : List Int} (hl : Lens l) (h : shp l = 1) : us l 16 = 16384 ∧ ∀ s, Has l s → ln l s = 1 := by
  have hs : tsum l = 1 ∧ usum l = 16384 := by
    unfold shp at h
    by_cases c0 : tsum l = 0
    · rw [if_pos c0] at h; omega
    · rw [if_neg c0] at h
      by_cases c1 : tsum l = 1 ∧ usum l = 16384
      · exact c1
      · rw [if_neg c1] at h
        by_cases c2 : 32768 < usum l
        · rw [if_pos c2] at h; omega
        · rw [if_neg c2] at h
          by_cases c3 : usum l = 32768
          · rw [if_pos c3] at h; omega
          · rw [if_neg c3] at h; omega
  refine ⟨by rw [us_sum hl.2]; exact hs.2, fun s hh => ?_⟩
  have h1 := (single_iff hl).1 hs (ln l s) (by have := (hl.ln s).2; omega)
  have h2 := hh.rk_lt hl
  by_cases e : ln l s = 1
  · exact e
  · rw [if_neg e] at h1; omega

theorem nx_end {l row : List Int} {p k : Nat} (hd : dcE l = 0) (hpl : p ≤ row.length) (h : row.length < p + (k + 1)) (hinv : ∀ s, Hit l (rowAt row p) s → k < ln l s) (h1 : shp l = 1 → k = 0) : nxE l row p = 54 ∧ nxS l row p = 0 ∧ nxP l row p = p := by
  obtain ⟨_, hs⟩ := (dcE_iff l).1 hd
  have hl := (dcE_zero hd).1
  have hR : rowAt row p < us l 16 := by
    rcases hs with hs | hs
    · have hk := h1 hs
      have hp : row.length = p := by omega
      have : rowAt row p = 0 := by
        unfold rowAt ahead
        rw [List.drop_of_length_le (by omega)]
        show rowN 0 = 0
        unfold rowN mir
        rw [bts_zero, List.reverse_replicate, val_zeros]
        rfl
      rw [this, (us_one hl hs).1]; omega
    · rw [us_four hl hs]; exact row_lt _
  obtain ⟨s, hs'⟩ := hit_ex hR
  obtain ⟨f1, f2⟩ := fd_hit hl hs'
  have := hinv s hs'
  have hE : nxE l row p = 54 := by unfold nxE; rw [if_pos f2, f1, if_neg (by omega)]
  exact ⟨hE, by unfold nxS; rw [if_neg (by rw [hE]; decide)], by unfold nxP; rw [if_neg (by rw [hE]; decide)]⟩

theorem nx_none {l row : List Int} {p : Nat} (h : ¬ ∃ s, Hit l (rowAt row p) s) : nxE l row p = 55 ∧ nxS l row p = 0 ∧ nxP l row p = p := by
  have hE : nxE l row p = 55 := by unfold nxE; rw [if_neg (by rw [(fd_none h).2]; decide)]
  exact ⟨hE, by unfold nxS; rw [if_neg (by rw [hE]; decide)], by unfold nxP; rw [if_neg (by rw [hE]; decide)]⟩

theorem nx_found {l row : List Int} {p s : Nat} (hl : Lens l) (h : Hit l (rowAt row p) s) (hp : p + ln l s ≤ row.length) : nxE l row p = 0 ∧ nxS l row p = s ∧ nxP l row p = p + ln l s := by
  obtain ⟨f1, f2⟩ := fd_hit hl h
  have hE : nxE l row p = 0 := by unfold nxE; rw [if_pos f2, f1, if_pos hp]
  exact ⟨hE, by unfold nxS; rw [if_pos hE, f1], by unfold nxP; rw [if_pos hE, f1]⟩

theorem tk_step {row : List Int} (hb : Bit row) {p k : Nat} (hk : k < 15) : mir (ahead row p 15) (k + 1) = 2 * mir (ahead row p 15) k + ahead row p (k + 1) / 2 ^ k ∧ 0 ≤ ahead row p (k + 1) ∧ ahead row p (k + 1) < 2 ^ (k + 1) := by
  have hbd := ahead_bound hb p (k + 1)
  have h1 := mir_ahead hb p (n := k + 1) (by omega)
  have h2 := mir_succ (ahead row p (k + 1)) k
  have h3 : mir (ahead row p (k + 1)) k = mir (ahead row p 15) k := by
    unfold mir
    rw [← bts_take (ahead row p (k + 1)) (show k ≤ k + 1 by omega), ahead_mod hb p (show k + 1 ≤ 15 by omega), bts_take _ (by omega)]
  have h4 := top_bit hbd.1 hbd.2
  rw [h1, h3] at h2
  exact ⟨by rw [h2, ← h4]; omega, hbd⟩

set_option maxHeartbeats 4000000 in
theorem hxnext {W w : World} {xs : List ((Nat → Nat) × Thing)} (H : Herd W w xs) (i j : Nat) {K Kr : Nat → Nat} {g r : Nat} {l row : List Int} {p : Nat} (hi : xs[i]? = some (K, tdx g l)) (hj : xs[j]? = some (Kr, tq r row p)) :
    Calls Tryz.prog 73 #[.pointer (some ⟨g, 0, none⟩), .pointer (some ⟨r, 0, none⟩)] w fun e w' => e = .returned (.tuple #[.int .i64 (nxS l row p), .int .i64 (nxE l row p)]) ∧ Herd W w' (xs.set j (Kr, tq r row (nxP l row p))) := by
  have hD : Dx w K g l := H.rep i _ hi
  have hR : Rq w Kr r row p := H.rep j _ hj
  have HD := hide hD.ok
  have HL := hide (dcE_zero hD.ok).1
  have hle : p ≤ row.length ∧ row.length ≤ 268435456 := by obtain ⟨_, _, _, h1, h2, _⟩ := hR; exact ⟨h1, h2⟩
  have HBI : Hid (Bit row) := by obtain ⟨_, _, h1, _⟩ := hR; exact h1
  have HI := hide hi
  have HJ := hide hj
  have h288 := HL.out.1
  have HSET : Hid (xs.set j (Kr, tq r row p) = xs) := by
    show _ = _
    apply List.ext_getElem?
    intro n
    rw [List.getElem?_set]
    by_cases c : j = n
    · subst c
      rw [if_pos rfl, hj, if_pos (List.getElem?_eq_some_iff.1 hj).1]
    · rw [if_neg c]
  have HH := hide H
  have hsh : shp l = 1 ∨ shp l = 4 := ((dcE_iff l).1 HD.out).2
  clear hD hR H hi hj
  obtain ⟨V, HV⟩ : ∃ V, Hid (V = ahead row p 15) := ⟨_, rfl⟩
  have HRV : Hid (rowN V = rowAt row p) := by show _ = _; rw [HV.out]; rfl
  obtain ⟨S, HSP⟩ : ∃ S, Hid (S = shp l) := ⟨_, rfl⟩
  rw [← HSP.out] at hsh
  go_enter Tryz.func73, Tryz.ntmps73
  go_wp2
  go_loopw [6, 7] (fun t i wr => ∃ k : Nat, k ≤ 15 ∧ i = .int .i64 ((k : Int) + 1) ∧ t = .int .i64 (mir V k) ∧ p + k ≤ row.length ∧ (S = 1 → k = 0) ∧ Hid (Herd W wr xs) ∧ Hid (∀ s, Hit l (rowAt row p) s → k < ln l s)) (fun _ i _ => 16 - (intOf i).toNat)
  case atStart => exact ⟨0, Nat.zero_le _, rfl, rfl, by omega, fun _ => rfl, HH, fun s hs => hs.1.2⟩
  case round =>
    clear HH
    obtain ⟨k, hk, rfl, rfl, hpk, hS1, HT, HINV⟩ := hrel
    by_cases hlt : k < 15
    · have hlt' : (k : Int) + 1 ≤ 15 := by omega
      have hks : (k : Int) + 1 = ((k + 1 : Nat) : Int) := by omega
      have hpv : peekV row p ((k : Int) + 1) = ahead row p (k + 1) ∧ peekK row p ((k : Int) + 1) = min ((k : Int) + 1) ((row.length : Int) - p) := by
        have hc : Cnt ((k : Int) + 1) := ⟨by omega, by omega⟩
        refine ⟨?_, if_pos hc⟩
        unfold peekV
        rw [if_pos hc, hks]; rfl
      have HPV := hide hpv
      clear hks hpv
      go_wp2_with fail
      refine (hqpeek HT.out j HJ.out ((k : Int) + 1)).mono ?_
      rintro e w1 ⟨rfl, h1⟩
      have H1 := hide h1
      rw [HPV.out.1, HPV.out.2]
      clear h1
      by_cases hfit : p + (k + 1) ≤ row.length
      case neg =>
        have hmin : min ((k : Int) + 1) ((row.length : Int) - p) = (row.length : Int) - p := by omega
        have hlt2 : (row.length : Int) - p < (k : Int) + 1 := by omega
        rw [hmin]
        have HN := hide (nx_end HD.out hle.1 (by omega) HINV.out (by rw [← HSP.out]; exact hS1))
        obtain ⟨z, HZ⟩ : ∃ z, Hid (z = ahead row p (k + 1)) := ⟨_, rfl⟩
        rw [← HZ.out]
        clear hmin
        go_wp2
        go_ret2
        rw [HN.out.1, HN.out.2.1, HN.out.2.2, HSET.out]
        exact ⟨rfl, H1.out⟩
      have hmin : min ((k : Int) + 1) ((row.length : Int) - p) = (k : Int) + 1 := by omega
      rw [hmin]
      obtain ⟨t1, t2, t3⟩ := tk_step HBI.out (p := p) hlt
      have hmb := mir_bound V k
      have hmb1 := mir_bound V (k + 1)
      have hp15 : (2 : Int) ^ k ≤ 2 ^ 15 := pow_le (by omega)
      have hp16 : (2 : Int) ^ (k + 1) ≤ 2 ^ 15 := pow_le (by omega)
      rw [← HV.out] at t1
      obtain ⟨y, hy⟩ : ∃ y : Nat, mir V (k + 1) = (y : Int) := ⟨(mir V (k + 1)).toNat, by omega⟩
      have HY := hide hy
      obtain ⟨z, HZ⟩ : ∃ z, Hid (z = ahead row p (k + 1)) := ⟨_, rfl⟩
      obtain ⟨t, HTK⟩ : ∃ t, Hid (t = mir V k) := ⟨_, rfl⟩
      rw [← HZ.out] at t1 t2 t3 ⊢
      rw [← HTK.out] at t1 hmb ⊢
      rw [hy] at t1 hmb1
      obtain ⟨q, hq⟩ : ∃ q, q = z / 2 ^ k := ⟨_, rfl⟩
      have hq0 : 0 ≤ q := by rw [hq]; exact Int.ediv_nonneg t2 (Int.le_of_lt (pow_pos k))
      rw [← hq] at t1
      have hqe : z / 2 ^ k = q := hq.symm
      have hq1 : q ≤ 1 := by
        have : z / 2 ^ k < 2 := by rw [Int.ediv_lt_iff_lt_mul (pow_pos k)]; rw [pow_add1] at t3; omega
        omega
      have hsum : 2 * t + q = (y : Int) := by omega
      have hwq : IntKind.i64.wrap q = q := by rw [IntKind.wrap_i64]; omega
      have hyb : (y : Int) < 32768 := by omega
      have hz32 : z < 4294967296 := by omega
      have ek : (k : Int) + 1 - 1 = k := by omega
      have hDx : Dx w1 K g l := H1.out.rep i _ HI.out
      obtain ⟨vl, vw, a1, a2, a3, _⟩ := hDx.d
      rw [← HSP.out] at a1
      have c0 : w1.cell? ⟨g, 0, none⟩ = some vl := by rw [cell_of_row _ _ _ _ _ _ a1]; rfl
      have c1 : w1.cell? ⟨g, 1, none⟩ = some vw := by rw [cell_of_row _ _ _ _ _ _ a1]; rfl
      have c2 : w1.cell? ⟨g, 2, none⟩ = some (.int .i64 S) := by rw [cell_of_row _ _ _ _ _ _ a1]; rfl
      have HOL := hide a2
      have HOW := hide a3
      obtain ⟨al, cl, hvl⟩ := a2.shape
      obtain ⟨aw, cw, hvw⟩ := a3.shape
      rw [wds_len] at hvw
      subst hvl hvw
      have hcl : l.length ≤ cl ∧ cl ≤ 9223372036854775807 := by
        obtain ⟨_, _, e1, e2, e3⟩ := a2.sb.open
        simp only [Value.slice.injEq] at e1
        obtain ⟨-, -, rfl⟩ := e1
        exact ⟨e2, e3⟩
      have hcw : l.length ≤ cw ∧ cw ≤ 9223372036854775807 := by
        obtain ⟨_, _, e1, e2, e3⟩ := a3.sb.open
        simp only [Value.slice.injEq] at e1
        obtain ⟨-, e4, rfl⟩ := e1
        rw [← e4] at e2
        exact ⟨e2, e3⟩
      obtain ⟨hcl1, hcl2⟩ := hcl
      obtain ⟨hcw1, hcw2⟩ := hcw
      have HAT : Hid (∀ s, At l (k + 1) y s ↔ Hit l (rowAt row p) s ∧ ln l s = k + 1) := fun s => by
        rw [← HRV.out]
        exact at_hit V (by omega) (by omega) HY.out
      clear a1 a2 a3 hDx t1 hmb hmb1 hp15 hp16 hmin hq HT HPV t3 hy
      go_wp2
      go_loopw [10] (fun i wr2 => ∃ s : Nat, s ≤ l.length ∧ i = .int .i64 s ∧ wr2 = w1 ∧ Hid (∀ t, t < s → ¬ At l (k + 1) y t)) (fun i _ => l.length - (intOf i).toNat)
      case atStart => exact ⟨0, Nat.zero_le _, rfl, rfl, fun t ht => by omega⟩
      case round =>
        obtain ⟨s, hs, rfl, rfl, HNA⟩ := hrel
        by_cases hsl : s < l.length
        · have hsl' : (s : Int) < (l.length : Int) := by omega
          obtain ⟨bl, _, hal, _⟩ := HOL.out.form (by omega)
          simp only [Value.slice.injEq] at hal
          obtain ⟨rfl, -, rfl⟩ := hal
          obtain ⟨bw, _, haw, _⟩ := HOW.out.form (by rw [wds_len]; omega)
          simp only [Value.slice.injEq] at haw
          obtain ⟨rfl, -, rfl⟩ := haw
          have d1 := HOL.out.get (b := bl) rfl hsl
          have d2 := HOW.out.get (b := bw) rfl (i := s) (by rw [wds_len]; exact hsl)
          rw [(HL.out.ln s).1] at d1
          rw [wds_get hsl] at d2
          obtain ⟨A, HA⟩ : ∃ A, Hid (ln l s = A) := ⟨_, rfl⟩
          obtain ⟨X, HX⟩ : ∃ X, Hid (wd l s = X) := ⟨_, rfl⟩
          rw [HA.out] at d1
          rw [HX.out] at d2
          by_cases hA : A = k + 1
          · have hA' : ((A : Int) == (k : Int) + 1) = true := by simp; omega
            have hAe : (A : Int) = (k : Int) + 1 := by omega
            rw [hAe] at d1
            by_cases hX : X = y
            · subst hX
              have hat : At l (k + 1) X s := ⟨hsl, by rw [HA.out]; exact hA, HX.out⟩
              have hhit := ((HAT.out s).1 hat).1
              have HNF := hide (nx_found HL.out hhit (by rw [HA.out, hA]; exact hfit))
              have hsk : skipE row p ((k : Int) + 1) = 0 ∧ skipP row p ((k : Int) + 1) = p + (k + 1) := ⟨by unfold skipE; rw [if_neg (by omega), if_pos (by omega)], by unfold skipP; rw [if_neg (by omega), if_pos (by omega)]; omega⟩
              have HSK := hide hsk
              clear hat hhit hsk HNA hA'
              go_wp2_with fail
              refine (hqskip H1.out j HJ.out ((k : Int) + 1)).mono ?_
              rintro e w5 ⟨rfl, h5⟩
              rw [HSK.out.2] at h5
              rw [HSK.out.1]
              have H5 := hide h5
              clear h5
              go_wp2
              go_ret2
              rw [HNF.out.1, HNF.out.2.1, HNF.out.2.2, HA.out, hA]
              exact ⟨rfl, H5.out⟩
            · have hX' : ((X : Int) == (y : Int)) = false := by simp; omega
              have hXn : ¬ (X : Int) = (y : Int) := by omega
              have HN : Hid (∀ t, t < s + 1 → ¬ At l (k + 1) y t) := fun t ht hat => by
                by_cases e : t = s
                · subst e; exact hX (by rw [← HX.out]; exact hat.2.2)
                · exact HNA.out t (by omega) hat
              clear HNA hA'
              go_wp2
              go_roundw
              case rel => exact ⟨s + 1, by omega, by go_num, by trivial, HN⟩
              case measure => simp [intOf]; omega
          · have hA' : ((A : Int) == (k : Int) + 1) = false := by simp; omega
            have hAn : ¬ (A : Int) = (k : Int) + 1 := by omega
            have HN : Hid (∀ t, t < s + 1 → ¬ At l (k + 1) y t) := fun t ht hat => by
              by_cases e : t = s
              · subst e; exact hA (by rw [← HA.out]; exact hat.2.1)
              · exact HNA.out t (by omega) hat
            clear HNA
            go_wp2
            go_roundw
            case rel => exact ⟨s + 1, by omega, by go_num, by trivial, HN⟩
            case measure => simp [intOf]; omega
        · obtain rfl : s = l.length := by omega
          have hsl' : ¬ (l.length : Int) < (l.length : Int) := by omega
          have HNV : Hid (∀ s, Hit l (rowAt row p) s → k + 1 < ln l s) := fun s hh => by
            have h1 := HINV.out s hh
            have h2 : ¬ ln l s = k + 1 := fun e => HNA.out s hh.1.1 ((HAT.out s).2 ⟨hh, e⟩)
            omega
          rcases hsh with hsh | hsh
          · subst hsh
            have hno : ¬ ∃ s, Hit l (rowAt row p) s := fun ⟨s, hs⟩ => by
              have h1 := HNV.out s hs
              have h2 := (us_one HL.out HSP.out.symm).2 s hs.1
              omega
            have HN := hide (nx_none hno)
            clear hno HNA
            go_wp2
            go_ret2
            rw [HN.out.1, HN.out.2.1, HN.out.2.2, HSET.out]
            exact ⟨rfl, H1.out⟩
          · subst hsh
            clear HNA
            go_wp2
            go_roundw
            case rel => exact ⟨k + 1, by omega, by go_num, by rw [HY.out], by omega, fun h => by omega, H1, HNV⟩
            case measure => simp [intOf]; omega
    · obtain rfl : k = 15 := by omega
      have hlt' : ¬ ((15 : Nat) : Int) + 1 ≤ 15 := by omega
      have hno : ¬ ∃ s, Hit l (rowAt row p) s := fun ⟨s, hs⟩ => by have h1 := HINV.out s hs; have h2 := (HL.out.ln s).2; omega
      have HN := hide (nx_none hno)
      clear hno
      go_wp2
      go_ret2
      rw [HN.out.1, HN.out.2.1, HN.out.2.2, HSET.out]
      exact ⟨rfl, HT.out⟩
end Go.Proofs.YtdpoggapenjjfaaGreatDoor

namespace Go.Proofs.YtdpoggapenjjfaaGreatDoor
open Go.RowKit Go.Maps
set_option maxRecDepth 20000

theorem hxdecode {W w : World} {xs : List ((Nat → Nat) × Thing)} (H : Herd W w xs) (v : Value) (l : List Int) (h : SI w v l) :
    Calls Tryz.prog 54 #[v] w fun e w' => (dcE l ≠ 0 ∧ e = .returned (.tuple #[.pointer none, .int .i64 (dcE l)]) ∧ Herd W w' xs) ∨ (dcE l = 0 ∧ ∃ g K, e = .returned (.tuple #[.pointer (some ⟨g, 0, none⟩), .int .i64 0]) ∧ Herd W w' (xs ++ [(K, tdx g l)])) := by
  refine (xnewDecoder_any v l w h).mono ?_
  rintro e w1 ⟨hb, h | ⟨h0, g, K, rfl, hd, hk⟩⟩
  · exact .inl ⟨h.1, h.2, H.below hb⟩
  · exact .inr ⟨h0, g, K, rfl, H.push hb hd hk⟩

end Go.Proofs.YtdpoggapenjjfaaGreatDoor

namespace Go.Proofs.YtdpoggapenjjfaaGreatDoor

/-! The coin collector's theorem (package-merge), in numbers: leaves w by rising weight; a row is leaves and packages merged. -/

def pks : List Nat → List Nat
  | a :: b :: r => (a + b) :: pks r
  | _ => []

def mrg : List Nat → List Nat → List Nat
  | [], p => p
  | a :: w, [] => a :: w
  | a :: w, b :: p => if a ≤ b then a :: mrg w (b :: p) else b :: mrg (a :: w) p
termination_by w p => w.length + p.length

def cnt : List Nat → List Nat → Nat → Nat
  | _, _, 0 => 0
  | [], _, _ => 0
  | _ :: w, [], m + 1 => cnt w [] m + 1
  | a :: w, b :: p, m + 1 => if a ≤ b then cnt w (b :: p) m + 1 else cnt (a :: w) p m
termination_by w p _ => w.length + p.length

def row (w : List Nat) : Nat → List Nat
  | 0 => []
  | k + 1 => mrg w (pks (row w k))

end Go.Proofs.YtdpoggapenjjfaaGreatDoor

