import Derived.Test.YteiajeeincapoacRuns
import Derived.Test.YteiajeeincapoacMakes
namespace Go.Proofs.Yteiajeeincapoac
open Go.RowKit Go.Maps

structure RSt where
  room : Nat
  now : List Int
  dur : List Int
  rps : List (Nat × Nat × List Int)
  sizes : List Nat
  calls : Nat
  fuse : Int
  live : Bool

def RowP (w : World) (K : Nat → Nat) (v : Value) (ps : List (Nat × Nat × List Int)) : Prop := ∃ cs, PcsOK w K cs ps ∧ w.ownsRow 0 79 3 v ps.length cs

structure RRepV (w : World) (K : Nat → Nat) (g : Nat) (st : RSt) (vn vd vp vs : Value) : Prop where
  rc : RC w g st.room vn vd vp vs st.calls st.fuse st.live
  kg : K g = 1
  hn : OB w 0 vn st.now
  kn : Role K vn 2
  hd : OB w 0 vd st.dur
  kd : Role K vd 3
  hp : RowP w K vp st.rps
  kp : Role K vp 4
  hs : OI w vs st.sizes
  ks : Role K vs 5
  sup : ∀ k, K k ≠ 0 → k < w.heap.size

def RRep (w : World) (K : Nat → Nat) (g : Nat) (st : RSt) : Prop := ∃ vn vd vp vs, RRepV w K g st vn vd vp vs

theorem RC.at {w : World} {g : Nat} {cap : Int} {vn vd vp vs : Value} {calls fuse : Int} {live : Bool} (h : RC w g cap vn vd vp vs calls fuse live) :
    w.cell? ⟨g, 0, none⟩ = some (.int .i64 cap) ∧ w.cell? ⟨g, 1, none⟩ = some vn ∧ w.cell? ⟨g, 2, none⟩ = some vd ∧ w.cell? ⟨g, 3, none⟩ = some vp ∧ w.cell? ⟨g, 4, none⟩ = some vs ∧
    w.cell? ⟨g, 5, none⟩ = some (.int .i64 calls) ∧ w.cell? ⟨g, 6, none⟩ = some (.int .i64 fuse) ∧ w.cell? ⟨g, 7, none⟩ = some (.bool live) := by
  unfold RC at h
  simp [World.cell?, h]

theorem RC.set {w : World} {g : Nat} {cap : Int} {vn vd vp vs : Value} {calls fuse : Int} {live : Bool} (h : RC w g cap vn vd vp vs calls fuse live) :
    (∀ u, RC (w.setCell ⟨g, 1, none⟩ u) g cap u vd vp vs calls fuse live) ∧ (∀ u, RC (w.setCell ⟨g, 2, none⟩ u) g cap vn u vp vs calls fuse live) ∧ (∀ u, RC (w.setCell ⟨g, 3, none⟩ u) g cap vn vd u vs calls fuse live) ∧
    (∀ u, RC (w.setCell ⟨g, 4, none⟩ u) g cap vn vd vp u calls fuse live) ∧ (∀ u, RC (w.setCell ⟨g, 5, none⟩ (.int .i64 u)) g cap vn vd vp vs u fuse live) ∧ (∀ u, RC (w.setCell ⟨g, 6, none⟩ (.int .i64 u)) g cap vn vd vp vs calls u live) ∧
    (∀ u, RC (w.setCell ⟨g, 7, none⟩ (.bool u)) g cap vn vd vp vs calls fuse u) := by
  unfold RC at h ⊢
  have hlt := (Array.getElem?_eq_some_iff.1 h).1
  refine ⟨?_, ?_, ?_, ?_, ?_, ?_, ?_⟩ <;> intro u <;> simp [World.setCell, Array.getElem?_modify, h]

theorem RC.free {w : World} {g : Nat} {cap : Int} {vn vd vp vs : Value} {calls fuse : Int} {live : Bool} (h : RC w g cap vn vd vp vs calls fuse live) : ∀ o, w.frozen? ⟨g, o, none⟩ = false := by
  intro o
  unfold RC at h
  simp [World.frozen?, h]

theorem RowP.same {w w' : World} {K : Nat → Nat} {v : Value} {ps : List (Nat × Nat × List Int)} (h : RowP w K v ps) (h6 : ∀ k, K k = 6 → w'.heap[k]? = w.heap[k]?) (hv : ∀ k, v.ownBlock = some k → w'.heap[k]? = w.heap[k]?) : RowP w' K v ps := by
  obtain ⟨cs, h1, h2⟩ := h
  exact ⟨cs, h1.move h6, ownsRow_same h2 hv⟩

theorem RowP.roles {w : World} {K K' : Nat → Nat} {v : Value} {ps : List (Nat × Nat × List Int)} (h : RowP w K v ps) (h6 : ∀ k, K k = 6 → K' k = 6) : RowP w K' v ps := by
  obtain ⟨cs, h1, h2⟩ := h
  exact ⟨cs, PcsOK.roles h6 _ _ h1, h2⟩

theorem RRepV.move {w w' : World} {K : Nat → Nat} {g : Nat} {st : RSt} {vn vd vp vs : Value} (h : RRepV w K g st vn vd vp vs) (hsz : w.heap.size ≤ w'.heap.size)
    (hb : ∀ k, K k ≠ 0 → K k ≠ 1 → w'.heap[k]? = w.heap[k]?) {calls : Nat} {fuse : Int} {live : Bool} (hrc : RC w' g st.room vn vd vp vs calls fuse live) :
    RRepV w' K g { st with calls := calls, fuse := fuse, live := live } vn vd vp vs where
  rc := hrc
  kg := h.kg
  hn := h.hn.move fun k hk => hb k (by rw [h.kn k hk]; omega) (by rw [h.kn k hk]; omega)
  kn := h.kn
  hd := h.hd.move fun k hk => hb k (by rw [h.kd k hk]; omega) (by rw [h.kd k hk]; omega)
  kd := h.kd
  hp := h.hp.same (fun k hk => hb k (by omega) (by omega)) (fun k hk => hb k (by rw [h.kp k hk]; omega) (by rw [h.kp k hk]; omega))
  kp := h.kp
  hs := ownsRow_same h.hs fun k hk => hb k (by rw [h.ks k hk]; omega) (by rw [h.ks k hk]; omega)
  ks := h.ks
  sup := fun k hk => Nat.lt_of_lt_of_le (h.sup k hk) hsz

theorem RRep.far {w w' : World} {K : Nat → Nat} {g : Nat} {st : RSt} (h : RRep w K g st) (hsz : w.heap.size ≤ w'.heap.size) (hb : ∀ k, K k ≠ 0 → w'.heap[k]? = w.heap[k]?) : RRep w' K g st := by
  obtain ⟨vn, vd, vp, vs, h⟩ := h
  exact ⟨vn, vd, vp, vs, h.move hsz (fun k hk _ => hb k hk) ((hb g (by rw [h.kg]; omega)).trans h.rc)⟩

theorem RRep.sup {w : World} {K : Nat → Nat} {g : Nat} {st : RSt} (h : RRep w K g st) : ∀ k, K k ≠ 0 → k < w.heap.size := by
  obtain ⟨_, _, _, _, h⟩ := h
  exact h.sup

theorem RRep.below {w w' : World} {K : Nat → Nat} {g : Nat} {st : RSt} (h : RRep w K g st) (hb : Below w.heap.size w w') : RRep w' K g st :=
  h.far hb.size fun k hk => hb.block k (h.sup k hk)

theorem Rep.sup {w : World} {K : Nat → Nat} {g : Nat} {st : St} (h : Rep w K g st) : ∀ k, K k ≠ 0 → k < w.heap.size := by
  obtain ⟨_, _, _, _, _, h⟩ := h
  exact h.sup

structure Both (W w : World) (K KR : Nat → Nat) (g gr : Nat) (st : St) (rs : RSt) : Prop where
  d : Rep w K g st
  r : RRep w KR gr rs
  up : ∀ k, K k ≠ 0 → W.heap.size ≤ k
  upr : ∀ k, KR k ≠ 0 → W.heap.size ≤ k
  z : ∀ k, K k ≠ 0 → KR k = 0
  bel : Below W.heap.size W w

theorem fr_zero {K K' KR : Nat → Nat} {w w' : World} (hF : Fr K K' w w') (hz : ∀ k, K k ≠ 0 → KR k = 0) (hs : ∀ k, KR k ≠ 0 → k < w.heap.size) : ∀ k, K' k ≠ 0 → KR k = 0 := by
  intro k hk
  by_cases e : KR k = 0
  · exact e
  · exact hz k (by rw [← hF.role k (hs k e)]; exact hk)

theorem Both.left {W w w' : World} {K K' KR : Nat → Nat} {g gr : Nat} {st st' : St} {rs : RSt} (h : Both W w K KR g gr st rs) (hr : Rep w' K' g st') (hF : Fr K K' w w') : Both W w' K' KR g gr st' rs :=
  ⟨hr, h.r.far hF.size fun k hk => hF.block k (h.r.sup k hk) (.inl (flip_zero h.z k hk)), hF.up h.up h.bel.size, h.upr, fr_zero hF h.z h.r.sup, h.bel.trans (hF.below h.up h.bel.size)⟩

theorem Both.right {W w w' : World} {K KR KR' : Nat → Nat} {g gr : Nat} {st : St} {rs rs' : RSt} (h : Both W w K KR g gr st rs) (hr : RRep w' KR' gr rs') (hF : Fr KR KR' w w') : Both W w' K KR' g gr st rs' :=
  ⟨h.d.far hF.size fun k hk => hF.block k (h.d.sup k hk) (.inl (h.z k hk)), hr, h.up, hF.up h.upr h.bel.size, flip_zero (fr_zero hF (flip_zero h.z) h.d.sup), h.bel.trans (hF.below h.upr h.bel.size)⟩

theorem Both.below {W w w' : World} {K KR : Nat → Nat} {g gr : Nat} {st : St} {rs : RSt} (h : Both W w K KR g gr st rs) (hb : Below w.heap.size w w') : Both W w' K KR g gr st rs :=
  ⟨h.d.below hb, h.r.below hb, h.up, h.upr, h.z, h.bel.trans (hb.mono h.bel.size)⟩

theorem rsize_any {w : World} {K : Nat → Nat} {g : Nat} {st : RSt} (h : RRep w K g st) :
    Calls Try.prog 39 #[.pointer (some ⟨g, 0, none⟩)] w fun e w' => e = .returned (.int .i64 st.now.length) ∧ w' = w := by
  obtain ⟨vn, vd, vp, vs, h⟩ := h
  obtain ⟨_, c1, _⟩ := h.rc.at
  obtain ⟨ao, k, hv, h1, h2, _⟩ := h.hn.sb
  unfold maxLen at h2
  subst hv
  clear h
  go_enter Try.func39, Try.ntmps39
  go_wp2
  go_ret
  exact ⟨rfl, rfl⟩

theorem rcap_any {w : World} {K : Nat → Nat} {g : Nat} {st : RSt} (h : RRep w K g st) :
    Calls Try.prog 40 #[.pointer (some ⟨g, 0, none⟩)] w fun e w' => e = .returned (.int .i64 st.room) ∧ w' = w := by
  obtain ⟨vn, vd, vp, vs, h⟩ := h
  obtain ⟨c0, _⟩ := h.rc.at
  clear h
  go_enter Try.func40, Try.ntmps40
  go_wp2
  go_ret
  exact ⟨rfl, rfl⟩

theorem rcalls_any {w : World} {K : Nat → Nat} {g : Nat} {st : RSt} (h : RRep w K g st) :
    Calls Try.prog 41 #[.pointer (some ⟨g, 0, none⟩)] w fun e w' => e = .returned (.int .i64 st.calls) ∧ w' = w := by
  obtain ⟨vn, vd, vp, vs, h⟩ := h
  obtain ⟨_, _, _, _, _, c5, _⟩ := h.rc.at
  clear h
  go_enter Try.func41, Try.ntmps41
  go_wp2
  go_ret
  exact ⟨rfl, rfl⟩

theorem ralive_any {w : World} {K : Nat → Nat} {g : Nat} {st : RSt} (h : RRep w K g st) :
    Calls Try.prog 42 #[.pointer (some ⟨g, 0, none⟩)] w fun e w' => e = .returned (.bool st.live) ∧ w' = w := by
  obtain ⟨vn, vd, vp, vs, h⟩ := h
  obtain ⟨_, _, _, _, _, _, _, c7⟩ := h.rc.at
  clear h
  go_enter Try.func42, Try.ntmps42
  go_wp2
  go_ret
  exact ⟨rfl, rfl⟩

theorem rimage_any {w : World} {K : Nat → Nat} {g : Nat} {st : RSt} (h : RRep w K g st) (hl : st.now.length ≤ 16777216) :
    Calls Try.prog 13 #[.pointer (some ⟨g, 0, none⟩)] w fun e w' => ∃ a c, e = .returned (.slice a st.now.length c) ∧ OB w' w.heap.size (.slice a st.now.length c) st.now ∧ Below w.heap.size w w' := by
  obtain ⟨vn, vd, vp, vs, h⟩ := h
  obtain ⟨_, c1, _⟩ := h.rc.at
  have HN := hide h.hn.sb
  obtain ⟨ao, k, hv, h1, h2, _⟩ := h.hn.sb
  subst hv
  clear h
  go_enter Try.func13, Try.ntmps13
  go_wp2_with fail
  refine (rClone_any _ st.now _ HN.out (by omega)).mono ?_
  rintro e w1 ⟨_, rfl, rfl, hn, hb1⟩
  have ho : OB w1 w.heap.size (.slice (some ⟨w.heap.size, 0, none⟩) st.now.length st.now.length) st.now := hn
  clear hn
  go_wp2
  go_ret
  exact ⟨_, _, rfl, ho, hb1⟩

def carryNo (st : RSt) : Bool := st.fuse == 0

def carrySt (st : RSt) : RSt := if st.fuse = 0 then { st with live := false } else { st with fuse := (if 0 < st.fuse then st.fuse - 1 else st.fuse), calls := st.calls + 1 }

theorem carried_any {w : World} {K : Nat → Nat} {g : Nat} {st : RSt} (h : RRep w K g st) (hc : st.calls ≤ 2000000000000) (hf : -1 ≤ st.fuse) (hf2 : st.fuse ≤ 9223372036854775807) :
    Calls Try.prog 47 #[.pointer (some ⟨g, 0, none⟩)] w fun e w' => e = .returned (.bool (!carryNo st)) ∧ RRep w' K g (carrySt st) ∧ Fr K K w w' := by
  obtain ⟨vn, vd, vp, vs, h⟩ := h
  obtain ⟨_, _, _, _, _, c5, c6, c7⟩ := h.rc.at
  have hfz := h.rc.free
  have HR := hide h
  clear h
  by_cases h0 : st.fuse = 0
  · have HE : Hid ((!carryNo st) = false ∧ carrySt st = { st with live := false }) := ⟨by simp [carryNo, h0], by unfold carrySt; rw [if_pos h0]⟩
    rw [h0] at c6
    go_enter Try.func47, Try.ntmps47
    go_wp2
    go_ret
    rw [HE.out.1, HE.out.2]
    have h := HR.out
    exact ⟨rfl, ⟨vn, vd, vp, vs, h.move (by rw [size_setCell]; exact Nat.le_refl _) (fun k k0 k1 => setCell_others w g 7 _ k (fun e => k1 (by rw [e]; exact h.kg))) (h.rc.set.2.2.2.2.2.2 false)⟩, fr_setCell h.kg⟩
  · have hb0 : (st.fuse == 0) = false := by simpa using h0
    have q2 : (st.calls : Int) + 1 = ((st.calls + 1 : Nat) : Int) := by omega
    have Q2 := hide q2
    clear q2
    by_cases h1 : 0 < st.fuse
    · have HE : Hid ((!carryNo st) = true ∧ carrySt st = { st with fuse := st.fuse - 1, calls := st.calls + 1 }) := ⟨by simp [carryNo, h0], by unfold carrySt; rw [if_neg h0, if_pos h1]⟩
      clear h0
      go_enter Try.func47, Try.ntmps47
      go_wp2
      go_ret
      rw [HE.out.1, HE.out.2, Q2.out]
      have h := HR.out
      have hd := (h.rc.set.2.2.2.2.2.1 (st.fuse - 1)).set.2.2.2.2.1 ((st.calls + 1 : Nat) : Int)
      have hk : ∀ k, k ≠ g → ((w.setCell ⟨g, 6, none⟩ (.int .i64 (st.fuse - 1))).setCell ⟨g, 5, none⟩ (.int .i64 ((st.calls + 1 : Nat) : Int))).heap[k]? = w.heap[k]? := fun k hk => (setCell_others _ g 5 _ k hk).trans (setCell_others _ g 6 _ k hk)
      exact ⟨rfl, ⟨vn, vd, vp, vs, h.move (by rw [size_setCell, size_setCell]; exact Nat.le_refl _) (fun k k0 k1 => hk k (fun e => k1 (by rw [e]; exact h.kg))) hd⟩, (fr_setCell h.kg).trans (fr_setCell h.kg)⟩
    · have HE : Hid ((!carryNo st) = true ∧ carrySt st = { st with fuse := st.fuse, calls := st.calls + 1 }) := ⟨by simp [carryNo, h0], by unfold carrySt; rw [if_neg h0, if_neg h1]⟩
      clear h0
      go_enter Try.func47, Try.ntmps47
      go_wp2
      go_ret
      rw [HE.out.1, HE.out.2, Q2.out]
      have h := HR.out
      exact ⟨rfl, ⟨vn, vd, vp, vs, h.move (by rw [size_setCell]; exact Nat.le_refl _) (fun k k0 k1 => setCell_others w g 5 _ k (fun e => k1 (by rw [e]; exact h.kg))) (h.rc.set.2.2.2.2.1 ((st.calls + 1 : Nat) : Int))⟩, fr_setCell h.kg⟩

def rfuseSt (st : RSt) (n : Int) : RSt := if st.live then { st with fuse := if n < 0 then -1 else n } else st

theorem rfuse_any {w : World} {K : Nat → Nat} {g : Nat} {st : RSt} (n : Int) (h : RRep w K g st) :
    Calls Try.prog 32 #[.pointer (some ⟨g, 0, none⟩), .int .i64 n] w fun e w' => e = .returned (.tuple #[]) ∧ RRep w' K g (rfuseSt st n) ∧ Fr K K w w' := by
  have HRR := hide h
  obtain ⟨vn, vd, vp, vs, h⟩ := h
  obtain ⟨_, _, _, _, _, c5, c6, c7⟩ := h.rc.at
  have hfz := h.rc.free
  have HR := hide h
  clear h
  cases hd : st.live
  case false =>
    have HE : Hid (rfuseSt st n = st) := by show _ = _; unfold rfuseSt; rw [hd]; rfl
    rw [hd] at c7
    clear hd
    go_enter Try.func32, Try.ntmps32
    go_wp2
    (try simp only [Exit.inBlock, Exit.then]); refine bodyPost_ret (results_none rfl _ _ _) rfl ?_
    rw [HE.out]
    exact ⟨rfl, HRR.out, Fr.refl _ _⟩
  case true =>
    rw [hd] at c7
    by_cases h0 : n < 0
    · have HE : Hid (rfuseSt st n = { st with fuse := -1 }) := by show _ = _; unfold rfuseSt; rw [hd, if_pos rfl, if_pos h0]; 
      clear hd
      go_enter Try.func32, Try.ntmps32
      go_wp2
      go_end0
      rw [HE.out]
      have h := HR.out
      have hdd := (h.rc.set.2.2.2.2.2.1 n).set.2.2.2.2.2.1 (-1)
      have hk : ∀ k, k ≠ g → ((w.setCell ⟨g, 6, none⟩ (.int .i64 n)).setCell ⟨g, 6, none⟩ (.int .i64 (-1))).heap[k]? = w.heap[k]? := fun k hk => (setCell_others _ g 6 _ k hk).trans (setCell_others _ g 6 _ k hk)
      exact ⟨rfl, ⟨vn, vd, vp, vs, h.move (by rw [size_setCell, size_setCell]; exact Nat.le_refl _) (fun k k0 k1 => hk k (fun e => k1 (by rw [e]; exact h.kg))) hdd⟩, (fr_setCell h.kg).trans (fr_setCell h.kg)⟩
    · have HE : Hid (rfuseSt st n = { st with fuse := n }) := by show _ = _; unfold rfuseSt; rw [hd, if_pos rfl, if_neg h0]
      clear hd
      go_enter Try.func32, Try.ntmps32
      go_wp2
      go_end0
      rw [HE.out]
      have h := HR.out
      exact ⟨rfl, ⟨vn, vd, vp, vs, h.move (by rw [size_setCell]; exact Nat.le_refl _) (fun k k0 k1 => setCell_others w g 6 _ k (fun e => k1 (by rw [e]; exact h.kg))) (h.rc.set.2.2.2.2.2.1 n)⟩, fr_setCell h.kg⟩
end Go.Proofs.Yteiajeeincapoac
