import Derived.Test.YteiajeeincapoacRead
namespace Go.Proofs.Yteiajeeincapoac
open Go.RowKit Go.Maps

def fuseSt (st : St) (n : Int) : St := if st.dead then st else { st with fused := decide (0 ≤ n), left := n.toNat }

theorem fuse_any {w : World} {K : Nat → Nat} {g : Nat} {st : St} (n : Int) (h : Rep w K g st) :
    Calls Try.prog 31 #[.pointer (some ⟨g, 0, none⟩), .int .i64 n] w fun e w' => e = .returned (.tuple #[]) ∧ Rep w' K g (fuseSt st n) ∧ Fr K K w w' := by
  have HR := hide h
  obtain ⟨vn, vd, m, vs, D, hV⟩ := h
  obtain ⟨_, _, _, _, _, c5, c6, c7, c8⟩ := hV.dc.at
  have hfz := hV.dc.free
  have HV := hide hV
  have hal := hide (alive_rep HR.out)
  clear hV c5 c6
  cases hd : st.dead
  case true =>
    have HE : Hid (fuseSt st n = st) := by show _ = _; unfold fuseSt; rw [hd]; rfl
    rw [hd] at hal
    clear hd
    go_enter Try.func31, Try.ntmps31
    go_wp2_with fail
    refine hal.out.mono ?_
    rintro e w ⟨rfl, rfl⟩
    go_wp2
    (try simp only [Exit.inBlock, Exit.then]); refine bodyPost_ret (results_none rfl _ _ _) rfl ?_
    rw [HE.out]
    exact ⟨rfl, HR.out, Fr.refl _ _⟩
  case false =>
    have HE : Hid (fuseSt st n = { st with fused := decide (0 ≤ n), left := n.toNat }) := by show _ = _; unfold fuseSt; rw [hd]; rfl
    have HFIN : Hid (∀ (b : Bool) (u : Int), b = decide (0 ≤ n) → u = (n.toNat : Int) → Rep ((w.setCell ⟨g, 7, none⟩ (.bool b)).setCell ⟨g, 8, none⟩ (.int .i64 u)) K g (fuseSt st n) ∧ Fr K K w ((w.setCell ⟨g, 7, none⟩ (.bool b)).setCell ⟨g, 8, none⟩ (.int .i64 u))) := by
      intro b u hb hu
      subst hb hu
      rw [HE.out]
      have h := HV.out
      have hdc := (h.dc.set.2.2.2.2.2.2.1 (decide (0 ≤ n))).set.2.2.2.2.2.2.2 (n.toNat : Int)
      have hk : ∀ k, k ≠ g → ((w.setCell ⟨g, 7, none⟩ (.bool (decide (0 ≤ n)))).setCell ⟨g, 8, none⟩ (.int .i64 (n.toNat : Int))).heap[k]? = w.heap[k]? := fun k hk => (setCell_others _ g 8 _ k hk).trans (setCell_others _ g 7 _ k hk)
      exact ⟨⟨vn, vd, m, vs, D, h.move (by rw [size_setCell, size_setCell]; exact Nat.le_refl _) (fun k h0 h1 => hk k (fun e => h1 (by rw [e]; exact h.kg))) hdc⟩, (fr_setCell h.kg).trans (fr_setCell h.kg)⟩
    rw [hd] at hal
    clear hd
    by_cases h0 : 0 ≤ n
    · go_enter Try.func31, Try.ntmps31
      go_wp2_with fail
      refine hal.out.mono ?_
      rintro e w ⟨rfl, rfl⟩
      go_wp2
      go_end0
      exact ⟨rfl, HFIN.out _ _ (by simp [h0]) (by omega)⟩
    · go_enter Try.func31, Try.ntmps31
      go_wp2_with fail
      refine hal.out.mono ?_
      rintro e w ⟨rfl, rfl⟩
      go_wp2
      go_end0
      exact ⟨rfl, HFIN.out _ _ (by simp) (by omega)⟩

def withF (st : St) (f : Bool) (l : Nat) (d : Bool) : St := { st with fused := f, left := l, dead := d }

def isOp (o : OpP) : Bool := o.kind == 2 || o.kind == 3 || o.kind == 4

def okOp (o : OpP) (cap : Nat) : Prop := isOp o = true ∧ refN o cap = 0

theorem okOp_kind {o : OpP} {cap : Nat} (h : okOp o cap) : o.kind = 2 ∧ ¬ o.a < 0 ∧ ¬ (cap : Int) < o.a + o.data.length ∨ o.kind = 3 ∧ ¬ o.a < 0 ∧ ¬ (cap : Int) < o.a ∨ o.kind = 4 := by
  obtain ⟨h1, h2⟩ := h
  unfold refN at h2
  unfold isOp at h1
  simp at h1
  rcases h1 with (h1 | h1) | h1
  · rw [if_pos h1] at h2
    by_cases k1 : o.a < 0
    · rw [if_pos k1] at h2; omega
    · rw [if_neg k1] at h2
      by_cases k2 : (cap : Int) < o.a + o.data.length
      · rw [if_pos k2] at h2; omega
      · exact .inl ⟨h1, k1, k2⟩
  · rw [if_neg (by omega), if_pos h1] at h2
    by_cases k1 : o.a < 0
    · rw [if_pos k1] at h2; omega
    · rw [if_neg k1] at h2
      by_cases k2 : (cap : Int) < o.a
      · rw [if_pos k2] at h2; omega
      · exact .inr (.inl ⟨h1, k1, k2⟩)
  · exact .inr (.inr h1)

theorem op_bad {st : St} {o : OpP} (h : ¬ okOp o st.cap) (hd : st.dead = false) : opSt st o = st ∧ opErr st o = refN o st.cap := by
  unfold okOp at h
  unfold opSt opErr refN
  unfold refN isOp at h
  by_cases h2 : o.kind = 2
  · rw [if_pos h2, if_pos h2, if_pos h2]
    rw [if_pos h2] at h
    unfold writeSt writeErr
    rw [hd]
    by_cases k1 : o.a < 0
    · rw [if_neg (by simp), if_pos k1, if_neg (by simp), if_pos k1, if_pos k1]; exact ⟨rfl, rfl⟩
    · rw [if_neg k1] at h
      by_cases k2 : (st.cap : Int) < o.a + o.data.length
      · rw [if_neg (by simp), if_neg k1, if_pos k2, if_neg (by simp), if_neg k1, if_pos k2, if_neg k1, if_pos k2]; exact ⟨rfl, rfl⟩
      · rw [if_neg k2] at h
        exact absurd ⟨by simp [h2], rfl⟩ h
  · rw [if_neg h2, if_neg h2, if_neg h2]
    rw [if_neg h2] at h
    by_cases h3 : o.kind = 3
    · rw [if_pos h3, if_pos h3, if_pos h3]
      rw [if_pos h3] at h
      unfold truncSt truncErr
      rw [hd]
      by_cases k1 : o.a < 0
      · rw [if_neg (by simp), if_pos k1, if_neg (by simp), if_pos k1, if_pos k1]; exact ⟨rfl, rfl⟩
      · rw [if_neg k1] at h
        by_cases k2 : (st.cap : Int) < o.a
        · rw [if_neg (by simp), if_neg k1, if_pos k2, if_neg (by simp), if_neg k1, if_pos k2, if_neg k1, if_pos k2]; exact ⟨rfl, rfl⟩
        · rw [if_neg k2] at h
          exact absurd ⟨by simp [h3], rfl⟩ h
    · rw [if_neg h3, if_neg h3, if_neg h3]
      rw [if_neg h3] at h
      by_cases h4 : o.kind = 4
      · exact absurd ⟨by simp [h4], rfl⟩ h
      · rw [if_neg h4, if_neg h4]; exact ⟨rfl, rfl⟩

def goSt (st : St) (o : OpP) : St :=
  if o.kind = 2 then (if o.data.length = 0 then spendSt st else layAll (spendSt st) (putP st o.a.toNat o.data))
  else if o.kind = 3 then (if (st.now.length : Int) < o.a then layAll (spendSt st) (st.now.length, o.a.toNat - st.now.length, []) else if o.a < st.now.length then { spendSt st with now := resz st.now o.a.toNat, sizes := st.sizes ++ [o.a.toNat] } else spendSt st)
  else { spendSt st with dur := st.now, pcs := fun _ => [], sizes := [], ents := 0 }

theorem op_ok {st : St} {o : OpP} (h : okOp o st.cap) (hd : st.dead = false) : opSt st o = (if spendNo st then spendSt st else goSt st o) ∧ opErr st o = if spendNo st then 12 else 0 := by
  have hdd : ¬ st.dead = true := by rw [hd]; simp
  rcases okOp_kind h with ⟨h1, k1, k2⟩ | ⟨h1, k1, k2⟩ | h1
  · constructor
    · unfold opSt goSt
      rw [if_pos h1, if_pos h1]
      unfold writeSt
      rw [if_neg hdd, if_neg k1, if_neg k2]
    · unfold opErr
      rw [if_pos h1]
      unfold writeErr
      rw [if_neg hdd, if_neg k1, if_neg k2]
  · have h2 : ¬ o.kind = 2 := by omega
    constructor
    · unfold opSt goSt
      rw [if_neg h2, if_pos h1, if_neg h2, if_pos h1]
      unfold truncSt
      rw [if_neg hdd, if_neg k1, if_neg k2]
    · unfold opErr
      rw [if_neg h2, if_pos h1]
      unfold truncErr
      rw [if_neg hdd, if_neg k1, if_neg k2]
  · have h2 : ¬ o.kind = 2 := by omega
    have h3 : ¬ o.kind = 3 := by omega
    constructor
    · unfold opSt goSt
      rw [if_neg h2, if_neg h3, if_pos h1, if_neg h2, if_neg h3]
      unfold syncSt
      rw [if_neg hdd]
    · unfold opErr
      rw [if_neg h2, if_neg h3, if_pos h1]
      unfold syncErr
      rw [if_neg hdd]

theorem spend_with (st : St) (f : Bool) (l : Nat) (hf : st.fused = false) (hd : st.dead = false) (h : ¬ (f = true ∧ l = 0)) : spendSt (withF st f l false) = withF (spendSt st) f (if f then l - 1 else l) false := by
  obtain ⟨cap, now, dur, pcs, sizes, calls, dead, fused, left, ents⟩ := st
  simp only [] at hf hd
  subst hf hd
  unfold spendSt withF
  cases f
  · rfl
  · have h0 : l ≠ 0 := fun e => h ⟨rfl, e⟩
    simp [h0]

theorem lay_with (st : St) (f : Bool) (l : Nat) (d : Bool) (p : Nat × Nat × List Int) : layAll (withF st f l d) p = withF (layAll st p) f l d := by
  unfold layAll putSt growSt
  by_cases h : st.now.length < endP p
  · rw [if_pos (show (withF st f l d).now.length < endP p from h), if_pos h]; rfl
  · rw [if_neg (show ¬ (withF st f l d).now.length < endP p from h), if_neg h]; rfl

theorem go_with (st : St) (o : OpP) (f : Bool) (l : Nat) (hf : st.fused = false) (hd : st.dead = false) (h : ¬ (f = true ∧ l = 0)) : goSt (withF st f l false) o = withF (goSt st o) f (if f then l - 1 else l) false := by
  unfold goSt
  rw [spend_with st f l hf hd h]
  split
  · split
    · rfl
    · rw [lay_with]; rfl
  · split
    · split
      · rename_i k; rw [if_pos (show (st.now.length : Int) < o.a from k), lay_with]; rfl
      · rename_i k
        rw [if_neg (show ¬ (st.now.length : Int) < o.a from k)]
        split
        · rename_i k3; rw [if_pos (show o.a < (st.now.length : Int) from k3)]; rfl
        · rename_i k3; rw [if_neg (show ¬ o.a < (st.now.length : Int) from k3)]
    · rfl

theorem go_calls {st : St} (o : OpP) (hs : spendNo st = false) : (goSt st o).calls = st.calls + 1 := by
  have hc := spend_calls hs
  have hl : ∀ p, (layAll (spendSt st) p).calls = st.calls + 1 := fun p => ((growSt_fields (spendSt st) (endP p)).2.2.2.2.1).trans hc
  unfold goSt
  split
  · split
    · exact hc
    · exact hl _
  · split
    · split
      · exact hl _
      · split
        · exact hc
        · exact hc
    · exact hc

theorem Inv.with {st : St} (h : Inv st) (f : Bool) (l : Nat) (d : Bool) (hl : l ≤ 9223372036854775807) : Inv (withF st f l d) :=
  ⟨⟨h.p.cap, h.p.now, h.p.dur, h.p.sizes, h.p.bd⟩, ⟨h.s.calls, hl, h.s.sizes, h.s.ents, h.s.pcs⟩, ⟨h.k.bd, h.k.all, h.k.last⟩⟩

end Go.Proofs.Yteiajeeincapoac
