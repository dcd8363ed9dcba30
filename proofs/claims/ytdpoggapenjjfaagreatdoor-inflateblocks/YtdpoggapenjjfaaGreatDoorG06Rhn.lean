import Derived.Test.YtdpoggapenjjfaaGreatDoorG05Wr3
import Derived.Test.YtdpoggapenjjfaaGreatDoorG02Bok
import Derived.Test.YtdpoggapenjjfaaGreatDoorG00Rev
import Derived.Test.YtdpoggapenjjfaaGreatDoorG01Rw1
namespace Go.Proofs.YtdpoggapenjjfaaGreatDoor
open Go.RowKit Go.Maps
set_option maxRecDepth 20000

structure Thing where
  P : World → (Nat → Nat) → Prop
  far : ∀ {w w' : World} {K : Nat → Nat}, P w K → w.heap.size ≤ w'.heap.size → (∀ k, K k ≠ 0 → w'.heap[k]? = w.heap[k]?) → P w' K
  sup : ∀ {w : World} {K : Nat → Nat}, P w K → ∀ k, K k ≠ 0 → k < w.heap.size

def tr (g : Nat) (row : List Int) (p : Nat) : Thing := ⟨fun w K => Rp w K g row p, fun h a b => h.far a b, fun h => h.sup⟩

def tl (v : Value) (l : List Int) : Thing :=
  ⟨fun w K => OB w 0 v l ∧ (∀ k, v.ownBlock = some k → K k ≠ 0) ∧ ∀ k, K k ≠ 0 → k < w.heap.size,
   fun h a b => ⟨h.1.move fun k hk => b k (h.2.1 k hk), h.2.1, fun k hk => Nat.lt_of_lt_of_le (h.2.2 k hk) a⟩, fun h => h.2.2⟩

def tb (g : Nat) (o : Obj) : Thing :=
  ⟨fun w K => w.heap[g]? = some o ∧ K g ≠ 0 ∧ ∀ k, K k ≠ 0 → k < w.heap.size,
   fun h a b => ⟨(b g h.2.1).trans h.1, h.2.1, fun k hk => Nat.lt_of_lt_of_le (h.2.2 k hk) a⟩, fun h => h.2.2⟩

structure Herd (W w : World) (xs : List ((Nat → Nat) × Thing)) : Prop where
  bel : Below W.heap.size W w
  rep : ∀ (i : Nat) (d : (Nat → Nat) × Thing), xs[i]? = some d → d.2.P w d.1
  up : ∀ (i : Nat) (d : (Nat → Nat) × Thing), xs[i]? = some d → ∀ k, d.1 k ≠ 0 → W.heap.size ≤ k
  sep : ∀ (i j : Nat) (d e : (Nat → Nat) × Thing), xs[i]? = some d → xs[j]? = some e → i ≠ j → ∀ k, d.1 k ≠ 0 → e.1 k = 0

theorem Thing.zero {x : Thing} {w : World} {K : Nat → Nat} (h : x.P w K) {k : Nat} (hk : w.heap.size ≤ k) : K k = 0 := by
  by_cases e : K k = 0
  · exact e
  · have := x.sup h k e; omega

theorem get_set {α : Type} {l : List α} {x y : α} {i j : Nat} (h : (l.set j x)[i]? = some y) : (i ≠ j ∧ l[i]? = some y) ∨ (i = j ∧ y = x) := by
  by_cases e : j = i
  · subst e
    rw [List.getElem?_set_self'] at h
    obtain ⟨u, hu, e⟩ := Option.map_eq_some_iff.1 h
    exact .inr ⟨rfl, e.symm⟩
  · rw [List.getElem?_set_ne e] at h
    exact .inl ⟨fun e2 => e e2.symm, h⟩

theorem Herd.nil (W : World) : Herd W W [] := ⟨Below.refl _ _, (fun i d hd => by simp at hd), (fun i d hd => by simp at hd), (fun i j d e hd => by simp at hd)⟩

theorem Herd.below {W w w' : World} {xs : List ((Nat → Nat) × Thing)} (h : Herd W w xs) (hb : Below w.heap.size w w') : Herd W w' xs :=
  ⟨h.bel.trans (hb.mono h.bel.size), fun i d hd => d.2.far (h.rep i d hd) hb.size fun k hk => hb.block k (d.2.sup (h.rep i d hd) k hk), h.up, h.sep⟩

theorem Herd.drewN {W w : World} {xs : List ((Nat → Nat) × Thing)} (h : Herd W w xs) (n : Nat) : Herd W (w.drewN n) xs := h.below (below_drewN (Below.refl _ _) n)

theorem Herd.op {W w w' : World} {xs : List ((Nat → Nat) × Thing)} (h : Herd W w xs) (n : Nat) {K K' : Nat → Nat} {x x' : Thing} (hn : xs[n]? = some (K, x)) (hr : x'.P w' K') (hF : Fr K K' w w') : Herd W w' (xs.set n (K', x')) := by
  have hs := h.bel.size
  have hup := h.up n _ hn
  refine ⟨h.bel.trans (hF.below hup hs), fun i d hd => ?_, fun i d hd k hk => ?_, fun i j d e hd he hne k hk => ?_⟩
  · rcases get_set hd with ⟨hne, hd⟩ | ⟨_, rfl⟩
    · exact d.2.far (h.rep i d hd) hF.size fun k hk => hF.block k (d.2.sup (h.rep i d hd) k hk) (h.sep i n d _ hd hn hne k hk)
    · exact hr
  · rcases get_set hd with ⟨hne, hd⟩ | ⟨_, rfl⟩
    · exact h.up i d hd k hk
    · exact hF.up hup hs k hk
  · rcases get_set hd with ⟨hn1, hd⟩ | ⟨e1, rfl⟩
    · rcases get_set he with ⟨hn2, he⟩ | ⟨e2, rfl⟩
      · exact h.sep i j d e hd he hne k hk
      · exact (hF.role k (d.2.sup (h.rep i d hd) k hk)).trans (h.sep i n d _ hd hn hn1 k hk)
    · rcases get_set he with ⟨hn2, he⟩ | ⟨e2, rfl⟩
      · by_cases hl : k < w.heap.size
        · exact h.sep n j _ e hn he (fun e3 => hn2 e3.symm) k (fun e0 => hk ((hF.role k hl).trans e0))
        · exact Thing.zero (h.rep j e he) (by omega)
      · omega

theorem get_snoc {α : Type} {l : List α} {x y : α} {i : Nat} (h : (l ++ [x])[i]? = some y) : (l[i]? = some y) ∨ (i = l.length ∧ y = x) := by
  by_cases hi : i < l.length
  · rw [List.getElem?_append_left hi] at h
    exact .inl h
  · rw [List.getElem?_append_right (by omega)] at h
    have := (List.getElem?_eq_some_iff.1 h).1
    simp at this
    have e : i = l.length := by omega
    subst e
    simp at h
    exact .inr ⟨rfl, h.symm⟩

theorem Herd.push {W w w' : World} {xs : List ((Nat → Nat) × Thing)} (h : Herd W w xs) (hb : Below w.heap.size w w') {K : Nat → Nat} {x : Thing} (hr : x.P w' K) (hu : ∀ k, K k ≠ 0 → w.heap.size ≤ k) : Herd W w' (xs ++ [(K, x)]) := by
  have h' := h.below hb
  have hs := h.bel.size
  refine ⟨h'.bel, fun i d hd => ?_, fun i d hd k hk => ?_, fun i j d e hd he hne k hk => ?_⟩
  · rcases get_snoc hd with hd | ⟨_, rfl⟩
    · exact h'.rep i d hd
    · exact hr
  · rcases get_snoc hd with hd | ⟨_, rfl⟩
    · exact h.up i d hd k hk
    · have := hu k hk; omega
  · rcases get_snoc hd with hd | ⟨e1, rfl⟩
    · rcases get_snoc he with he | ⟨e2, rfl⟩
      · exact h.sep i j d e hd he hne k hk
      · by_cases e0 : K k = 0
        · exact e0
        · exact absurd (Thing.zero (h.rep i d hd) (hu k e0)) hk
    · rcases get_snoc he with he | ⟨e2, rfl⟩
      · exact Thing.zero (h.rep j e he) (hu k hk)
      · omega

theorem Herd.sb {W w : World} {xs : List ((Nat → Nat) × Thing)} (H : Herd W w xs) (i : Nat) {K : Nat → Nat} {v : Value} {l : List Int} (hi : xs[i]? = some (K, tl v l)) : SB w v l := by
  have h : (tl v l).P w K := H.rep i _ hi
  exact h.1.sb

theorem hnewR {W w : World} {xs : List ((Nat → Nat) × Thing)} (H : Herd W w xs) (u : Value) (l : List Int) (h : SB w u l) (hB : Byt l) (hl : l.length ≤ 33554432) :
    Calls Tryz.prog 22 #[u] w fun e w' => ∃ g K, e = .returned (.pointer (some ⟨g, 0, none⟩)) ∧ Herd W w' (xs ++ [(K, tr g (unpack l) 0)]) := by
  refine (newReader_any u l w h hB hl).mono ?_
  rintro e w1 ⟨g, K, rfl, hR, hn, hb⟩
  exact ⟨g, K, rfl, H.push hb hR hn⟩

theorem htake {W w : World} {xs : List ((Nat → Nat) × Thing)} (H : Herd W w xs) (i : Nat) {K : Nat → Nat} {g : Nat} {row : List Int} {p : Nat} (hi : xs[i]? = some (K, tr g row p)) (n : Int) :
    Calls Tryz.prog 39 #[.pointer (some ⟨g, 0, none⟩), .int .i64 n] w fun e w' => e = .returned (.tuple #[.int .u32 (takeV row p n), .int .i64 (takeE row p n)]) ∧ Herd W w' (xs.set i (K, tr g row (takeP row p n))) := by
  have hw : Rp w K g row p := H.rep i _ hi
  refine (rdtake_any hw n).mono ?_
  rintro e w1 ⟨rfl, h1, h2⟩
  exact ⟨rfl, H.op i hi (x' := tr g row (takeP row p n)) h1 h2⟩

theorem hskip {W w : World} {xs : List ((Nat → Nat) × Thing)} (H : Herd W w xs) (i : Nat) {K : Nat → Nat} {g : Nat} {row : List Int} {p : Nat} (hi : xs[i]? = some (K, tr g row p)) (n : Int) :
    Calls Tryz.prog 83 #[.pointer (some ⟨g, 0, none⟩), .int .i64 n] w fun e w' => e = .returned (.int .i64 (skipE row p n)) ∧ Herd W w' (xs.set i (K, tr g row (skipP row p n))) := by
  have hw : Rp w K g row p := H.rep i _ hi
  refine (rdskip_any hw n).mono ?_
  rintro e w1 ⟨rfl, h1, h2⟩
  exact ⟨rfl, H.op i hi (x' := tr g row (skipP row p n)) h1 h2⟩

theorem hralign {W w : World} {xs : List ((Nat → Nat) × Thing)} (H : Herd W w xs) (i : Nat) {K : Nat → Nat} {g : Nat} {row : List Int} {p : Nat} (hi : xs[i]? = some (K, tr g row p)) :
    Calls Tryz.prog 40 #[.pointer (some ⟨g, 0, none⟩)] w fun e w' => e = .returned (.tuple #[]) ∧ Herd W w' (xs.set i (K, tr g row (algn p))) := by
  have hw : Rp w K g row p := H.rep i _ hi
  refine (rdalign_any hw).mono ?_
  rintro e w1 ⟨rfl, h1, h2⟩
  exact ⟨rfl, H.op i hi (x' := tr g row (algn p)) h1 h2⟩

theorem hat {W w : World} {xs : List ((Nat → Nat) × Thing)} (H : Herd W w xs) (i : Nat) {K : Nat → Nat} {g : Nat} {row : List Int} {p : Nat} (hi : xs[i]? = some (K, tr g row p)) :
    Calls Tryz.prog 24 #[.pointer (some ⟨g, 0, none⟩)] w fun e w' => e = .returned (.int .i64 p) ∧ Herd W w' xs := by
  have hw : Rp w K g row p := H.rep i _ hi
  refine (rdat_any hw).mono ?_
  rintro e w1 ⟨rfl, rfl⟩
  exact ⟨rfl, H⟩

theorem Herd.one {W w w' : World} {xs : List ((Nat → Nat) × Thing)} (h : Herd W w xs) (hb : Below w.heap.size w w') {K : Nat → Nat} {x : Thing} (hr : x.P w' K) (hu : ∀ k, K k ≠ 0 → w.heap.size ≤ k) : Herd W w' (xs ++ [(K, x)]) := h.push hb hr hu

theorem hrraw {W w : World} {xs : List ((Nat → Nat) × Thing)} (H : Herd W w xs) (i : Nat) {K : Nat → Nat} {g : Nat} {row : List Int} {p : Nat} (hi : xs[i]? = some (K, tr g row p)) (n : Int) :
    Calls Tryz.prog 42 #[.pointer (some ⟨g, 0, none⟩), .int .i64 n] w fun e w' => ∃ a c K', e = .returned (.tuple #[.slice a (rrawL row p n).length c, .int .i64 (rrawE row p n)]) ∧ Herd W w' (xs.set i (K, tr g row (rrawP row p n)) ++ [(K', tl (.slice a (rrawL row p n).length c) (rrawL row p n))]) := by
  have hw : Rp w K g row p := H.rep i _ hi
  refine (rdraw_any hw n).mono ?_
  rintro e w1 ⟨a, c, rfl, h0, h1, h2⟩
  have H1 := H.op i hi (x' := tr g row (rrawP row p n)) h1 h2
  refine ⟨a, c, fun k => if (Value.slice a (rrawL row p n).length c).ownBlock = some k then 1 else 0, rfl, H1.bel, fun j d hd => ?_, fun j d hd k hk => ?_, fun j j' d e hd he hne k hk => ?_⟩
  · rcases get_snoc hd with hd | ⟨_, rfl⟩
    · exact H1.rep j d hd
    · refine ⟨h0.base (Nat.zero_le _), fun k hk => by simp [hk], fun k hk => ?_⟩
      by_cases e : (Value.slice a (rrawL row p n).length c).ownBlock = some k
      · exact (h0.lt k e).2
      · simp [e] at hk
  · rcases get_snoc hd with hd | ⟨_, rfl⟩
    · exact H1.up j d hd k hk
    · by_cases e : (Value.slice a (rrawL row p n).length c).ownBlock = some k
      · have := (h0.lt k e).1; have := H.bel.size; omega
      · simp [e] at hk
  · have old : ∀ j' (e' : (Nat → Nat) × Thing), (xs.set i (K, tr g row (rrawP row p n)))[j']? = some e' → ∀ k, e'.1 k ≠ 0 → k < w.heap.size := fun j' e' he' k hk => by
      rcases get_set he' with ⟨_, he2⟩ | ⟨_, rfl⟩
      · exact e'.2.sup (H.rep j' e' he2) k hk
      · exact hw.sup k hk
    rcases get_snoc hd with hd | ⟨e1, rfl⟩
    · rcases get_snoc he with he | ⟨e2, rfl⟩
      · exact H1.sep j j' d e hd he hne k hk
      · by_cases e0 : (Value.slice a (rrawL row p n).length c).ownBlock = some k
        · have := (h0.lt k e0).1; have := old j d hd k hk; omega
        · simp [e0]
    · rcases get_snoc he with he | ⟨e2, rfl⟩
      · by_cases e0 : (Value.slice a (rrawL row p n).length c).ownBlock = some k
        · by_cases ez : e.1 k = 0
          · exact ez
          · have := (h0.lt k e0).1; have := old j' e he k ez; omega
        · simp [e0] at hk
      · omega
end Go.Proofs.YtdpoggapenjjfaaGreatDoor

namespace Go.Proofs.YtdpoggapenjjfaaGreatDoor
open Go.RowKit Go.Maps
set_option maxRecDepth 20000

def td (g : Nat) (l : List Int) : Thing := ⟨fun w K => Dp w K g l, fun h a b => h.far a b, fun h => h.sup⟩

def rowAt (row : List Int) (p : Nat) : Nat := rowN (ahead row p 15)

noncomputable def nxE (l row : List Int) (p : Nat) : Int := if fdB l (rowAt row p) = true then (if p + ln l (fdS l (rowAt row p)) ≤ row.length then 0 else 54) else 55
noncomputable def nxS (l row : List Int) (p : Nat) : Nat := if nxE l row p = 0 then fdS l (rowAt row p) else 0
noncomputable def nxP (l row : List Int) (p : Nat) : Nat := if nxE l row p = 0 then p + ln l (fdS l (rowAt row p)) else p

theorem fd_has {l : List Int} (hl : Lens l) {R : Nat} (h : fdB l R = true) : Hit l R (fdS l R) := by
  have he : ∃ s, Hit l R s := by
    unfold fdB at h
    exact @of_decide_eq_true _ (Classical.propDecidable _) h
  obtain ⟨s, hs⟩ := he
  rw [(fd_hit hl hs).1]
  exact hs

set_option maxHeartbeats 1000000 in
theorem hnext {W w : World} {xs : List ((Nat → Nat) × Thing)} (H : Herd W w xs) (i j : Nat) {K Kr : Nat → Nat} {g r : Nat} {l row : List Int} {p : Nat} (hi : xs[i]? = some (K, td g l)) (hj : xs[j]? = some (Kr, tr r row p)) :
    Calls Tryz.prog 61 #[.pointer (some ⟨g, 0, none⟩), .pointer (some ⟨r, 0, none⟩)] w fun e w' => e = .returned (.tuple #[.int .i64 (nxS l row p), .int .i64 (nxE l row p)]) ∧ Herd W w' (xs.set j (Kr, tr r row (nxP l row p))) := by
  have hD : Dp w K g l := H.rep i _ hi
  have hR : Rp w Kr r row p := H.rep j _ hj
  have hl := (dcE_zero hD.ok).1
  have HL := hide hl
  have hle := hR.le
  have HH := hide H
  have HI := hide hi
  have HJ := hide hj
  have hab := ahead_bound hR.bit p 15
  have HE0 : Hid (nxE l row p = if fdB l (rowAt row p) = true then (if p + ln l (fdS l (rowAt row p)) ≤ row.length then 0 else 54) else 55) := rfl
  have hpk : peekV row p 15 = ahead row p 15 ∧ peekK row p 15 = min 15 ((row.length : Int) - p) := ⟨if_pos ⟨by omega, by omega⟩, if_pos ⟨by omega, by omega⟩⟩
  have HPK := hide hpk
  obtain ⟨v, HV⟩ : ∃ v, Hid (v = ahead row p 15) := ⟨_, rfl⟩
  have HRV : Hid (rowN v = rowAt row p) := by show _ = _; rw [HV.out]; rfl
  rw [← HV.out] at hab HPK
  obtain ⟨vl, vw, vs, sy, a1, a2, _⟩ := hD.d
  have c0 : ∀ q, (w.drewN q).cell? ⟨g, 0, none⟩ = some vl := fun q => by
    have : (w.drewN q).heap[g]? = some (.cells (dv vl vw vs (shf l) (en l)) 127 (0, 0)) := a1
    rw [cell_of_row _ _ _ _ _ _ this, dv_0]
  have HVL := hide a2
  clear hD hR hl H hi hj a1 a2 hpk
  have HLEAVE : Hid (∀ q, Herd W (w.drewN q) (xs.set j (Kr, tr r row p))) := fun q => by
    have e : xs.set j (Kr, tr r row p) = xs := by
      apply List.ext_getElem?
      intro n
      rw [List.getElem?_set]
      by_cases c : j = n
      · subst c
        rw [if_pos rfl, HJ.out, if_pos (List.getElem?_eq_some_iff.1 HJ.out).1]
      · rw [if_neg c]
    rw [e]
    exact HH.out.drewN q
  obtain ⟨R, HR⟩ : ∃ R, Hid (R = rowAt row p) := ⟨_, rfl⟩
  rw [← HR.out] at HRV HE0
  by_cases hb : fdB l R = true
  case neg =>
    have hb' : fdB l R = false := by simpa using hb
    have HE : Hid (nxE l row p = 55) := by show _ = _; rw [HE0.out, if_neg hb]
    have HSP : Hid (nxS l row p = 0 ∧ nxP l row p = p) := by
      have := HE.out
      exact ⟨if_neg (by rw [this]; decide), if_neg (by rw [this]; decide)⟩
    rw [HE.out, HSP.out.1, HSP.out.2]
    clear hb
    obtain ⟨q1, HQ1⟩ : ∃ q, Hid (q = min (15 : Int) ((row.length : Int) - p)) := ⟨_, rfl⟩
    rw [← HQ1.out] at HPK
    go_enter Tryz.func61, Tryz.ntmps61
    go_wp2_with fail
    refine (rdpeek_any (HH.out.rep j _ HJ.out : Rp w Kr r row p) 15).mono ?_
    rintro e w1 ⟨rfl, n1, rfl⟩
    rw [HPK.out.1, HPK.out.2]
    go_wp2_with fail
    refine (find_any ((HH.out.drewN n1).rep i _ HI.out : Dp (w.drewN n1) K g l) v hab.1 (by have := hab.2; omega)).mono ?_
    rintro e w2 ⟨rfl, n2, rfl⟩
    rw [HRV.out, hb']
    have HX := hide (HLEAVE.out (n1 + n2))
    rw [World.drewN_drewN]
    go_wp2
    go_ret2
    exact ⟨rfl, HX.out⟩
  have hit := fd_has HL.out hb
  obtain ⟨s, HSS⟩ : ∃ s, Hid (s = fdS l R) := ⟨_, rfl⟩
  rw [← HSS.out] at hit
  have hs : s < l.length := hit.1.1
  have hn := HL.out.ln s
  obtain ⟨n, HN⟩ : ∃ n, Hid (n = ln l s) := ⟨_, rfl⟩
  rw [← HN.out] at hn
  obtain ⟨bl, cl, hvl, _, _, hc1, hc2⟩ := HVL.out.form (by omega)
  have cl0 : ∀ q, (w.drewN q).cell? ⟨bl, s, none⟩ = some (.int .i64 n) := fun q => by
    have := HVL.out.get (b := bl) (by rw [hvl]; rfl) hs
    rw [hn.1] at this
    exact this
  subst hvl
  have h288 := HL.out.1
  have hn15 := hn.2
  have HNE : Hid (fdB l R = true) := hb
  clear hit hn hb
  rw [← HSS.out, ← HN.out] at HE0
  by_cases hfit : p + n ≤ row.length
  · have HE : Hid (nxE l row p = 0) := by show _ = _; rw [HE0.out, if_pos HNE.out, if_pos hfit]
    have HSP : Hid (nxS l row p = s ∧ nxP l row p = p + n) := by
      have := HE.out
      refine ⟨?_, ?_⟩
      · unfold nxS; rw [if_pos this, ← HR.out, ← HSS.out]
      · unfold nxP; rw [if_pos this, ← HR.out, ← HSS.out, ← HN.out]
    have hsk : skipE row p n = 0 ∧ skipP row p n = p + n := ⟨by unfold skipE; rw [if_neg (by omega), if_pos (by omega)], by unfold skipP; rw [if_neg (by omega), if_pos (by omega)]; rfl⟩
    have HSK := hide hsk
    rw [HE.out, HSP.out.1, HSP.out.2]
    obtain ⟨q1, HQ1⟩ : ∃ q, Hid (q = min (15 : Int) ((row.length : Int) - p)) := ⟨_, rfl⟩
    rw [← HQ1.out] at HPK
    have hq1 : ¬ q1 < (n : Int) := by rw [HQ1.out]; omega
    clear hsk hfit
    go_enter Tryz.func61, Tryz.ntmps61
    go_wp2_with fail
    refine (rdpeek_any (HH.out.rep j _ HJ.out : Rp w Kr r row p) 15).mono ?_
    rintro e w1 ⟨rfl, n1, rfl⟩
    rw [HPK.out.1, HPK.out.2]
    go_wp2_with fail
    refine (find_any ((HH.out.drewN n1).rep i _ HI.out : Dp (w.drewN n1) K g l) v hab.1 (by have := hab.2; omega)).mono ?_
    rintro e w2 ⟨rfl, n2, rfl⟩
    rw [HRV.out, HNE.out, ← HSS.out, World.drewN_drewN]
    have d0 := c0 (n1 + n2)
    have d1 := cl0 (n1 + n2)
    have hs' : (s : Int) < l.length := by omega
    clear c0 cl0
    go_wp2_with fail
    refine (hskip (HH.out.drewN (n1 + n2)) j HJ.out n).mono ?_
    rintro e w3 ⟨rfl, h3⟩
    rw [HSK.out.1]
    have HX : Hid (Herd W w3 (xs.set j (Kr, tr r row (p + n)))) := by rw [← HSK.out.2]; exact h3
    clear h3
    go_wp2
    go_ret2
    exact ⟨rfl, HX.out⟩
  · have HE : Hid (nxE l row p = 54) := by show _ = _; rw [HE0.out, if_pos HNE.out, if_neg hfit]
    have HSP : Hid (nxS l row p = 0 ∧ nxP l row p = p) := by
      have := HE.out
      exact ⟨if_neg (by rw [this]; decide), if_neg (by rw [this]; decide)⟩
    rw [HE.out, HSP.out.1, HSP.out.2]
    obtain ⟨q1, HQ1⟩ : ∃ q, Hid (q = min (15 : Int) ((row.length : Int) - p)) := ⟨_, rfl⟩
    rw [← HQ1.out] at HPK
    have hq1 : q1 < (n : Int) := by rw [HQ1.out]; omega
    clear hfit
    go_enter Tryz.func61, Tryz.ntmps61
    go_wp2_with fail
    refine (rdpeek_any (HH.out.rep j _ HJ.out : Rp w Kr r row p) 15).mono ?_
    rintro e w1 ⟨rfl, n1, rfl⟩
    rw [HPK.out.1, HPK.out.2]
    go_wp2_with fail
    refine (find_any ((HH.out.drewN n1).rep i _ HI.out : Dp (w.drewN n1) K g l) v hab.1 (by have := hab.2; omega)).mono ?_
    rintro e w2 ⟨rfl, n2, rfl⟩
    rw [HRV.out, HNE.out, ← HSS.out, World.drewN_drewN]
    have d0 := c0 (n1 + n2)
    have d1 := cl0 (n1 + n2)
    have hs' : (s : Int) < l.length := by omega
    have HX := hide (HLEAVE.out (n1 + n2))
    clear c0 cl0
    go_wp2
    go_ret2
    exact ⟨rfl, HX.out⟩

theorem hdecode {W w : World} {xs : List ((Nat → Nat) × Thing)} (H : Herd W w xs) (v : Value) (l : List Int) (h : SI w v l) :
    Calls Tryz.prog 64 #[v] w fun e w' => (dcE l ≠ 0 ∧ e = .returned (.tuple #[.pointer none, .int .i64 (dcE l)]) ∧ Herd W w' xs) ∨ (dcE l = 0 ∧ ∃ g K, e = .returned (.tuple #[.pointer (some ⟨g, 0, none⟩), .int .i64 0]) ∧ Herd W w' (xs ++ [(K, td g l)])) := by
  refine (newDecoder_any v l w h).mono ?_
  rintro e w1 ⟨hb, h | ⟨h0, g, K, rfl, hd, hk⟩⟩
  · exact .inl ⟨h.1, h.2, H.below hb⟩
  · exact .inr ⟨h0, g, K, rfl, H.push hb hd hk⟩
end Go.Proofs.YtdpoggapenjjfaaGreatDoor

namespace Go.Proofs.YtdpoggapenjjfaaGreatDoor
open Go.RowKit Go.Maps
set_option maxRecDepth 20000

def wb (l : List Int) (s : Nat) : List Int := (bts (wd l s) (ln l s)).reverse

end Go.Proofs.YtdpoggapenjjfaaGreatDoor

namespace Go.Proofs.YtdpoggapenjjfaaGreatDoor
open Go.RowKit Go.Maps
set_option maxRecDepth 20000

def ti (v : Value) (l : List Int) : Thing :=
  ⟨fun w K => OI w 0 v l ∧ (∀ k, v.ownBlock = some k → K k ≠ 0) ∧ ∀ k, K k ≠ 0 → k < w.heap.size,
   fun h a b => ⟨h.1.move fun k hk => b k (h.2.1 k hk), h.2.1, fun k hk => Nat.lt_of_lt_of_le (h.2.2 k hk) a⟩, fun h => h.2.2⟩

theorem Herd.ilist {W w w' : World} {xs : List ((Nat → Nat) × Thing)} (h : Herd W w xs) (hb : Below w.heap.size w w') {v : Value} {l : List Int} (ho : OI w' w.heap.size v l) : ∃ K, Herd W w' (xs ++ [(K, ti v l)]) := by
  refine ⟨fun k => if v.ownBlock = some k then 1 else 0, h.push hb ⟨ho.base (Nat.zero_le _), fun k hk => by simp [hk], fun k hk => ?_⟩ fun k hk => ?_⟩
  · by_cases e : v.ownBlock = some k
    · exact (ho.lt k e).2
    · simp [e] at hk
  · by_cases e : v.ownBlock = some k
    · exact (ho.lt k e).1
    · simp [e] at hk

theorem Herd.isi {W w : World} {xs : List ((Nat → Nat) × Thing)} (H : Herd W w xs) (i : Nat) {K : Nat → Nat} {v : Value} {l : List Int} (hi : xs[i]? = some (K, ti v l)) : SI w v l := by
  have h : (ti v l).P w K := H.rep i _ hi
  exact h.1.sb

theorem Herd.ioi {W w : World} {xs : List ((Nat → Nat) × Thing)} (H : Herd W w xs) (i : Nat) {K : Nat → Nat} {v : Value} {l : List Int} (hi : xs[i]? = some (K, ti v l)) : OI w 0 v l := by
  have h : (ti v l).P w K := H.rep i _ hi
  exact h.1

end Go.Proofs.YtdpoggapenjjfaaGreatDoor

namespace Go.Proofs.YtdpoggapenjjfaaGreatDoor
open Go.RowKit Go.Maps
set_option maxRecDepth 20000

theorem shp_cases (l : List Int) : shp l = 0 ∨ shp l = 1 ∨ shp l = 2 ∨ shp l = 3 ∨ shp l = 4 := by
  unfold shp
  by_cases c0 : tsum l = 0
  · rw [if_pos c0]; omega
  · rw [if_neg c0]
    by_cases c1 : tsum l = 1 ∧ usum l = 16384
    · rw [if_pos c1]; omega
    · rw [if_neg c1]
      by_cases c2 : 32768 < usum l
      · rw [if_pos c2]; omega
      · rw [if_neg c2]
        by_cases c3 : usum l = 32768
        · rw [if_pos c3]; omega
        · rw [if_neg c3]; omega

theorem dcE_iff (l : List Int) : dcE l = 0 ↔ chkE l = 0 ∧ (shp l = 1 ∨ shp l = 4) := by
  constructor
  · intro h
    obtain ⟨h1, h2, h3, h4⟩ := dcE_zero h
    have hc := shp_cases l
    refine ⟨?_, by omega⟩
    unfold chkE
    rw [if_neg (by have := h1.1; omega), if_pos h1]
  · rintro ⟨h1, h2⟩
    have hb : bkE l = 0 := by unfold bkE; rw [if_neg (by simp [h1]), if_neg (by omega), if_neg (by omega)]
    unfold dcE
    rw [if_neg (by simp [hb]), if_neg (by omega)]

theorem bts_take (v : Int) {n m : Nat} (h : n ≤ m) : (bts v m).take n = bts v n := by
  obtain ⟨k, rfl⟩ : ∃ k, m = n + k := ⟨m - n, by omega⟩
  rw [bts_split, List.take_append_of_le_length (by rw [length_bts]; omega), List.take_of_length_le (by rw [length_bts]; omega)]

theorem Herd.nilI {W w : World} {xs : List ((Nat → Nat) × Thing)} (H : Herd W w xs) : Herd W w (xs ++ [(fun _ => 0, ti (.slice none 0 0) [])]) :=
  H.push (Below.refl _ _) ⟨World.ownsRow_nil _ _ _ _, fun k hk => by simp [Value.ownBlock] at hk, fun k hk => absurd rfl hk⟩ fun k hk => absurd rfl hk

end Go.Proofs.YtdpoggapenjjfaaGreatDoor

namespace Go.Proofs.YtdpoggapenjjfaaGreatDoor
open Go.RowKit Go.Maps
set_option maxRecDepth 20000

theorem takeOk_of {row : List Int} {p n : Nat} (h1 : n ≤ 32) (h2 : p + n ≤ row.length) : takeOk row p n := ⟨⟨by omega, by omega⟩, by omega⟩

theorem take_ok {row : List Int} {p n : Nat} (h : takeOk row p n) : takeE row p n = 0 ∧ takeV row p n = ahead row p n ∧ takeP row p n = p + n :=
  ⟨by unfold takeE; rw [if_pos h.1, if_pos h.2], by unfold takeV; rw [if_pos h]; rfl, by unfold takeP; rw [if_pos h]; rfl⟩

theorem bts_get (v : Int) {n j : Nat} (h : j < n) : (bts v n)[j]? = some (v / 2 ^ j % 2) := by
  have hs := bts_split v j (n - j)
  rw [show j + (n - j) = n by omega] at hs
  rw [hs, List.getElem?_append_right (by rw [length_bts]; omega), length_bts, Nat.sub_self]
  obtain ⟨m, hm⟩ : ∃ m, n - j = m + 1 := ⟨n - j - 1, by omega⟩
  rw [hm]
  rfl

theorem unpack_get {l : List Int} {k j : Nat} {b : Int} (hk : l[k]? = some b) (hj : j < 8) : (unpack l)[8 * k + j]? = some (b / 2 ^ j % 2) := by
  obtain ⟨hkl, rfl⟩ := List.getElem?_eq_some_iff.1 hk
  have e : unpack l = unpack (l.take k) ++ (bts l[k] 8 ++ unpack (l.drop (k + 1))) := by
    conv => lhs; rw [← List.take_append_drop k l]
    rw [unpack_append, List.drop_eq_getElem_cons hkl, unpack_cons]
  have hl : (unpack (l.take k)).length = 8 * k := by rw [length_unpack, List.length_take]; omega
  rw [e, List.getElem?_append_right (by omega), hl, show 8 * k + j - 8 * k = j by omega, List.getElem?_append_left (by rw [length_bts]; exact hj)]
  exact bts_get _ hj

theorem take_one {U : List Int} {p : Nat} {x : Int} (h : U[p]? = some x) : U.take (p + 1) = U.take p ++ [x] := by
  obtain ⟨hp, rfl⟩ := List.getElem?_eq_some_iff.1 h
  exact List.take_succ_eq_append_getElem hp

theorem SB.byte {W w : World} {ao : Option Addr} {cap : Nat} {l : List Int} (h : SB W (.slice ao l.length cap) l) (hb : Below W.heap.size W w) {k : Nat} (hk : k < l.length) : ∃ b o, ao = some ⟨b, o, none⟩ ∧ w.cell? ⟨b, o + k, none⟩ = some (.int .u8 (l.getD k 0)) := by
  obtain ⟨ao', cap', hue, hc1, hc2, hc3, hc4⟩ := h
  simp only [Value.slice.injEq] at hue
  obtain ⟨rfl, -, rfl⟩ := hue
  cases ao with
  | none => have := hc3 rfl; omega
  | some x0 =>
    obtain ⟨b, o, rfl⟩ := addr_lit (hc4 x0 rfl 0 (by omega))
    have hc := hc4 _ rfl k hk
    have hbl := World.block_lt_of_cell? _ _ hc
    rw [Addr.add_lit] at hc hbl
    exact ⟨b, o, rfl, (hb.cell hbl).trans hc⟩

theorem SB.cap {W : World} {ao : Option Addr} {cap : Nat} {l : List Int} (h : SB W (.slice ao l.length cap) l) : l.length ≤ cap ∧ cap ≤ 9223372036854775807 := by
  obtain ⟨ao', cap', hue, hc1, hc2, _⟩ := h
  simp only [Value.slice.injEq] at hue
  obtain ⟨-, -, rfl⟩ := hue
  unfold maxLen at hc2
  exact ⟨hc1, hc2⟩

end Go.Proofs.YtdpoggapenjjfaaGreatDoor

namespace Go.Proofs.YtdpoggapenjjfaaGreatDoor
open Go.RowKit Go.Maps
set_option linter.unusedVariables false

def rcL (row : List Int) (p : Nat) : Nat := 257 + (ahead row p 14 % 32).toNat
def rcD (row : List Int) (p : Nat) : Nat := 1 + (ahead row p 14 / 32 % 32).toNat
def rcN (row : List Int) (p : Nat) : Nat := 4 + (ahead row p 14 / 1024).toNat
def rcE (row : List Int) (p : Nat) : Int := if row.length < p + 14 then 70 else if 286 < rcL row p ∨ 30 < rcD row p then 71 else 0

def smC (row : List Int) (p : Nat) : Nat → List Int
  | 0 => List.replicate 19 0
  | n + 1 => (smC row p n).set (zor.getD n 0).toNat (ahead row (p + 3 * n) 3)
def smE (row : List Int) (p n : Nat) : Int := if row.length < p + 3 * n then 70 else if chkS (smC row p n) ≠ 4 then 72 else 0

noncomputable def trE (C row : List Int) (p : Nat) : Int := if nxE C row p ≠ 0 then 70 else if row.length < nxP C row p + frt (nxS C row p : Nat) then 70 else 0
noncomputable def trC (C row : List Int) (p : Nat) : Int := lst (nxS C row p : Nat) + ahead row (nxP C row p) (frt (nxS C row p : Nat))
noncomputable def trP (C row : List Int) (p : Nat) : Nat := nxP C row p + frt (nxS C row p : Nat)

noncomputable def rl (C row : List Int) (want : Nat) : Nat → List Int → Nat → Int × List Int × Nat
  | 0, acc, p => (0, acc, p)
  | f + 1, acc, p =>
    if acc.length < want then
      if trE C row p ≠ 0 then (70, [], p)
      else if nxS C row p = 16 ∧ acc = [] then (73, [], p)
      else if (want : Int) < acc.length + trC C row p then (74, [], p)
      else rl C row want f (lay acc ((nxS C row p : Nat), trC C row p)) (trP C row p)
    else (0, acc, p)

noncomputable def rdA (row : List Int) (p : Nat) : Int × List Int × List Int × Nat :=
  if rcE row p ≠ 0 then (rcE row p, [], [], p) else
  if smE row (p + 14) (rcN row p) ≠ 0 then (smE row (p + 14) (rcN row p), [], [], p) else
  if (rl (smC row (p + 14) (rcN row p)) row (rcL row p + rcD row p) (rcL row p + rcD row p) [] (p + 14 + 3 * rcN row p)).1 ≠ 0 then ((rl (smC row (p + 14) (rcN row p)) row (rcL row p + rcD row p) (rcL row p + rcD row p) [] (p + 14 + 3 * rcN row p)).1, [], [], p) else
  if hck ((rl (smC row (p + 14) (rcN row p)) row (rcL row p + rcD row p) (rcL row p + rcD row p) [] (p + 14 + 3 * rcN row p)).2.1.take (rcL row p)) ((rl (smC row (p + 14) (rcN row p)) row (rcL row p + rcD row p) (rcL row p + rcD row p) [] (p + 14 + 3 * rcN row p)).2.1.drop (rcL row p)) ≠ 0 then (hck ((rl (smC row (p + 14) (rcN row p)) row (rcL row p + rcD row p) (rcL row p + rcD row p) [] (p + 14 + 3 * rcN row p)).2.1.take (rcL row p)) ((rl (smC row (p + 14) (rcN row p)) row (rcL row p + rcD row p) (rcL row p + rcD row p) [] (p + 14 + 3 * rcN row p)).2.1.drop (rcL row p)), [], [], p) else
  (0, (rl (smC row (p + 14) (rcN row p)) row (rcL row p + rcD row p) (rcL row p + rcD row p) [] (p + 14 + 3 * rcN row p)).2.1.take (rcL row p), (rl (smC row (p + 14) (rcN row p)) row (rcL row p + rcD row p) (rcL row p + rcD row p) [] (p + 14 + 3 * rcN row p)).2.1.drop (rcL row p), (rl (smC row (p + 14) (rcN row p)) row (rcL row p + rcD row p) (rcL row p + rcD row p) [] (p + 14 + 3 * rcN row p)).2.2)

theorem rd_c {row : List Int} {p : Nat} (h : rcE row p ≠ 0) : rdA row p = (rcE row p, [], [], p) := by unfold rdA; rw [if_pos h]
theorem rd_s {row : List Int} {p : Nat} (h : rcE row p = 0) (h2 : smE row (p + 14) (rcN row p) ≠ 0) : rdA row p = (smE row (p + 14) (rcN row p), [], [], p) := by unfold rdA; rw [if_neg (by simp [h]), if_pos h2]
theorem rd_l {row : List Int} {p : Nat} {x : Int × List Int × Nat} (h : rcE row p = 0) (h2 : smE row (p + 14) (rcN row p) = 0) (hx : rl (smC row (p + 14) (rcN row p)) row (rcL row p + rcD row p) (rcL row p + rcD row p) [] (p + 14 + 3 * rcN row p) = x) :
    rdA row p = if x.1 ≠ 0 then (x.1, [], [], p) else if hck (x.2.1.take (rcL row p)) (x.2.1.drop (rcL row p)) ≠ 0 then (hck (x.2.1.take (rcL row p)) (x.2.1.drop (rcL row p)), [], [], p) else (0, x.2.1.take (rcL row p), x.2.1.drop (rcL row p), x.2.2) := by
  unfold rdA
  rw [if_neg (by simp [h]), if_neg (by simp [h2]), hx]

theorem lst_pos (s : Int) : 1 ≤ lst s ∧ lst s ≤ 11 := by unfold lst; split <;> (try split) <;> omega

theorem tr_bound {C row : List Int} (hb : Bit row) (p : Nat) : 1 ≤ trC C row p ∧ trC C row p ≤ 138 := by
  unfold trC
  have h1 := ahead_bound hb (nxP C row p) (frt (nxS C row p : Nat))
  have h2 := lst_pos (nxS C row p : Nat)
  refine ⟨by omega, ?_⟩
  by_cases c : ((nxS C row p : Nat) : Int) < 16
  · have e1 : frt (nxS C row p : Nat) = 0 := by unfold frt; rw [if_pos c]
    rw [e1] at h1 ⊢
    have := h1.2
    simp at this
    omega
  · by_cases c2 : ((nxS C row p : Nat) : Int) < 18
    · have e1 : frt (nxS C row p : Nat) ≤ 3 := by unfold frt; rw [if_neg c]; split; omega; split <;> omega
      have := pow_le e1
      have e3 : (2 : Int) ^ 3 = 8 := by decide
      omega
    · have e1 : frt (nxS C row p : Nat) = 7 := by unfold frt; rw [if_neg c, if_neg (by omega), if_neg (by omega)]
      rw [e1] at h1 ⊢
      have e3 : (2 : Int) ^ 7 = 128 := by decide
      omega

theorem lay_in {a : List Int} {r : Rn} (h : ∀ x ∈ a, 0 ≤ x ∧ x ≤ 15) (h0 : 0 ≤ r.1) : ∀ x ∈ lay a r, 0 ≤ x ∧ x ≤ 15 := by
  intro x hx
  unfold lay at hx
  rcases List.mem_append.1 hx with q | q
  · exact h x q
  · rw [List.eq_of_mem_replicate q]
    unfold mnt
    split
    · omega
    · split
      · rw [List.getD_eq_getElem?_getD]
        cases e : a[a.length - 1]? with
        | none => simp
        | some y => exact h y (List.mem_of_getElem? e)
      · omega

theorem rl_facts {C row : List Int} (hb : Bit row) (want : Nat) : ∀ f acc p, want - acc.length ≤ f → acc.length ≤ want → (∀ x ∈ acc, 0 ≤ x ∧ x ≤ 15) → (rl C row want f acc p).1 = 0 → (rl C row want f acc p).2.1.length = want ∧ ∀ x ∈ (rl C row want f acc p).2.1, 0 ≤ x ∧ x ≤ 15
  | 0, acc, p, hf, hl, ha, _ => ⟨by show acc.length = want; omega, ha⟩
  | f + 1, acc, p, hf, hl, ha, h0 => by
    by_cases c : acc.length < want
    · rw [rl, if_pos c] at h0 ⊢
      by_cases c1 : trE C row p ≠ 0
      · rw [if_pos c1] at h0; simp at h0
      · rw [if_neg c1] at h0 ⊢
        by_cases c2 : nxS C row p = 16 ∧ acc = []
        · rw [if_pos c2] at h0; simp at h0
        · rw [if_neg c2] at h0 ⊢
          by_cases c3 : (want : Int) < acc.length + trC C row p
          · rw [if_pos c3] at h0; simp at h0
          · rw [if_neg c3] at h0 ⊢
            have ht := tr_bound (C := C) hb p
            refine rl_facts hb want f _ _ ?_ ?_ (lay_in ha (by show (0 : Int) ≤ (nxS C row p : Nat); omega)) h0
            · rw [lay_len]; show want - (acc.length + (trC C row p).toNat) ≤ f; omega
            · rw [lay_len]; show acc.length + (trC C row p).toNat ≤ want; omega
    · rw [rl, if_neg c]
      exact ⟨by show acc.length = want; omega, ha⟩

end Go.Proofs.YtdpoggapenjjfaaGreatDoor

