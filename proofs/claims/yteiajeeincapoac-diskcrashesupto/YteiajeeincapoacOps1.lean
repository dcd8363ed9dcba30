import Derived.Test.YteiajeeincapoacRep
namespace Go.Proofs.Yteiajeeincapoac
open Go.RowKit Go.Maps

def stNew (l : List Int) (c : Nat) : St := { cap := c, now := l, dur := l, pcs := fun _ => [], sizes := [], calls := 0, dead := false, fused := false, left := 0, ents := 0 }

theorem OB.block {w : World} {base : Nat} {v : Value} {l : List Int} (h : OB w base v l) {k : Nat} (hk : v.ownBlock = some k) : ∃ cur fr, w.heap[k]? = some (.cells cur 5 fr) := by
  rcases h.2 with ⟨rfl, _⟩ | ⟨g, cap, cur, rfl, _, h2, _⟩
  · simp [Value.ownBlock] at hk
  · simp [Value.ownBlock] at hk
    subst hk
    exact ⟨cur, _, h2⟩

theorem new_rep (v : Value) (l : List Int) (c : Nat) (w : World) (hs : SB w v l) (h1 : c ≤ 16777216) (h2 : l.length ≤ c) :
    Calls Try.prog 23 #[v, .int .i64 c] w fun e w' => ∃ g K, e = .returned (.tuple #[.pointer (some ⟨g, 0, none⟩), .int .i64 0]) ∧ Rep w' K g (stNew l c) ∧ (∀ k, K k ≠ 0 → w.heap.size ≤ k) ∧ Below w.heap.size w w' := by
  refine (new_yes v l c w hs (by omega) (by omega)).mono ?_
  rintro e w' ⟨g, vn, vd, m, rfl, hdc, hn, hd, hap, hm, hg, hm1, _, hb⟩
  have ng : ∀ k, vn.ownBlock = some k → k ≠ g ∧ k ≠ m := by
    intro k hk
    obtain ⟨cur, fr, hc⟩ := hn.block hk
    refine ⟨fun e => ?_, fun e => ?_⟩
    · subst e; rw [hdc] at hc; simp at hc
    · subst e; rw [hm] at hc; simp at hc
  have nd : ∀ k, vd.ownBlock = some k → k ≠ g ∧ k ≠ m := by
    intro k hk
    obtain ⟨cur, fr, hc⟩ := hd.block hk
    refine ⟨fun e => ?_, fun e => ?_⟩
    · subst e; rw [hdc] at hc; simp at hc
    · subst e; rw [hm] at hc; simp at hc
  have gm : m ≠ g := by intro e; subst e; rw [hdc] at hm; simp at hm
  refine ⟨g, fun k => if k = g then 1 else if vn.ownBlock = some k then 2 else if vd.ownBlock = some k then 3 else if k = m then 4 else 0, rfl, ⟨vn, vd, m, .slice none 0 0, .map [], ?_⟩, ?_, hb⟩
  · refine { dc := hdc, kg := by simp, hn := hn.base (Nat.zero_le _), kn := ?_, hd := hd.base (Nat.zero_le _), kd := ?_, hm := ⟨0, Nat.zero_le _, ⟨#[], 0, hm, ⟨by simp, MapKept.stamped_empty 0, by simp⟩, Nat.le_refl _, rfl⟩⟩, km := ?_, hs := World.ownsRow_nil _ _ _ _, ks := ?_, rows := ?_, keys := ?_, sup := ?_ }
    · intro k hk
      simp [(ng k hk).1, hk]
    · intro k hk
      have : vn.ownBlock ≠ some k := fun e => hap k e hk
      simp [(nd k hk).1, hk, this]
    · have a1 : vn.ownBlock ≠ some m := fun e => (ng m e).2 rfl
      have a2 : vd.ownBlock ≠ some m := fun e => (nd m e).2 rfl
      simp [gm, a1, a2]
    · intro k hk
      simp [Value.ownBlock] at hk
    · intro s
      exact ⟨.slice none 0 0, rfl, fun k hk => by simp [Value.ownBlock] at hk, [], trivial, World.ownsRow_nil _ _ _ _⟩
    · intro kl hkl
      simp [Maps.has] at hkl
    · intro k hk
      by_cases e1 : k = g
      · subst e1; exact hdc.lt
      by_cases e2 : vn.ownBlock = some k
      · exact (hn.lt k e2).2
      by_cases e3 : vd.ownBlock = some k
      · exact (hd.lt k e3).2
      by_cases e4 : k = m
      · subst e4; exact (Array.getElem?_eq_some_iff.1 hm).1
      simp [e1, e2, e3, e4] at hk
  · intro k hk
    by_cases e1 : k = g
    · omega
    by_cases e2 : vn.ownBlock = some k
    · exact (hn.lt k e2).1
    by_cases e3 : vd.ownBlock = some k
    · exact (hd.lt k e3).1
    by_cases e4 : k = m
    · omega
    simp [e1, e2, e3, e4] at hk

theorem DC.set {w : World} {g : Nat} {cap : Int} {vn vd : Value} {m : Nat} {vs : Value} {calls : Int} {dead fused : Bool} {left : Int} (h : DC w g cap vn vd m vs calls dead fused left) :
    (∀ u, DC (w.setCell ⟨g, 1, none⟩ u) g cap u vd m vs calls dead fused left) ∧ (∀ u, DC (w.setCell ⟨g, 2, none⟩ u) g cap vn u m vs calls dead fused left) ∧ (∀ u, DC (w.setCell ⟨g, 3, none⟩ (.map (some u))) g cap vn vd u vs calls dead fused left) ∧
    (∀ u, DC (w.setCell ⟨g, 4, none⟩ u) g cap vn vd m u calls dead fused left) ∧ (∀ u, DC (w.setCell ⟨g, 5, none⟩ (.int .i64 u)) g cap vn vd m vs u dead fused left) ∧ (∀ u, DC (w.setCell ⟨g, 6, none⟩ (.bool u)) g cap vn vd m vs calls u fused left) ∧
    (∀ u, DC (w.setCell ⟨g, 7, none⟩ (.bool u)) g cap vn vd m vs calls dead u left) ∧ (∀ u, DC (w.setCell ⟨g, 8, none⟩ (.int .i64 u)) g cap vn vd m vs calls dead fused u) := by
  unfold DC at h ⊢
  have hlt := (Array.getElem?_eq_some_iff.1 h).1
  refine ⟨?_, ?_, ?_, ?_, ?_, ?_, ?_, ?_⟩ <;> intro u <;> simp [World.setCell, Array.getElem?_modify, h]

theorem DC.free {w : World} {g : Nat} {cap : Int} {vn vd : Value} {m : Nat} {vs : Value} {calls : Int} {dead fused : Bool} {left : Int} (h : DC w g cap vn vd m vs calls dead fused left) : ∀ o, w.frozen? ⟨g, o, none⟩ = false := by
  intro o
  unfold DC at h
  simp [World.frozen?, h]

theorem ready_any {w : World} {g : Nat} {cap : Int} {vn vd : Value} {m : Nat} {vs : Value} {calls : Int} {dead fused : Bool} {left : Int} (h : DC w g cap vn vd m vs calls dead fused left) :
    Calls Try.prog 43 #[.pointer (some ⟨g, 0, none⟩)] w fun e w' => e = .returned (.int .i64 (if dead then 12 else 0)) ∧ w' = w := by
  obtain ⟨_, _, _, _, _, _, c6, _⟩ := h.at
  clear h
  cases dead
  all_goals
    go_enter Try.func43, Try.ntmps43
    go_wp2
    go_ret
    exact ⟨rfl, rfl⟩

def spendSt (st : St) : St := if st.fused then (if st.left = 0 then { st with dead := true } else { st with left := st.left - 1, calls := st.calls + 1 }) else { st with calls := st.calls + 1 }
def spendNo (st : St) : Bool := st.fused && decide (st.left = 0)
def spendErr (st : St) : Int := if spendNo st then 12 else 0

theorem setCell_others (w : World) (g o : Nat) (u : Value) : ∀ k, k ≠ g → (w.setCell ⟨g, o, none⟩ u).heap[k]? = w.heap[k]? := fun k hk => Below.heap_setCell w _ u k hk

theorem size_setCell (w : World) (a : Addr) (u : Value) : (w.setCell a u).heap.size = w.heap.size := by simp [World.setCell]

theorem fr_setCell {K : Nat → Nat} {w : World} {g o : Nat} {u : Value} (hk : K g = 1) : Fr K K w (w.setCell ⟨g, o, none⟩ u) :=
  ⟨rfl, rfl, rfl, by rw [size_setCell]; exact Nat.le_refl _, fun k _ h0 => setCell_others w g o u k (fun e => by rw [e, hk] at h0; omega), fun _ _ => rfl⟩

theorem spend_any {w : World} {K : Nat → Nat} {g : Nat} {st : St} (h : Rep w K g st) (hc : st.calls < 9223372036854775807) (hl : st.left ≤ 9223372036854775807) :
    Calls Try.prog 45 #[.pointer (some ⟨g, 0, none⟩)] w fun e w' => e = .returned (.int .i64 (spendErr st)) ∧ Rep w' K g (spendSt st) ∧ Fr K K w w' := by
  obtain ⟨vn, vd, m, vs, D, h⟩ := h
  obtain ⟨_, _, _, _, _, c5, c6, c7, c8⟩ := h.dc.at
  have hfz := h.dc.free
  have HR := hide h
  have hkg := h.kg
  clear h
  cases hf : st.fused
  · rw [hf] at c7
    have HF := hide hf
    clear hf hkg
    go_enter Try.func45, Try.ntmps45
    go_wp2
    go_ret
    have h := HR.out
    refine ⟨by simp [spendErr, spendNo, HF.out], ?_, fr_setCell h.kg⟩
    have hd := h.dc.set.2.2.2.2.1 ((st.calls + 1 : Nat) : Int)
    refine ⟨vn, vd, m, vs, D, ?_⟩
    have := h.move (w' := w.setCell ⟨g, 5, none⟩ (.int .i64 ((st.calls + 1 : Nat) : Int))) (by rw [size_setCell]; exact Nat.le_refl _) (fun k h0 h1 => setCell_others w g 5 _ k (fun e => h1 (by rw [e]; exact h.kg))) hd
    simpa [spendSt, HF.out] using this
  · rw [hf] at c7
    have HF := hide hf
    clear hf hkg
    by_cases h0 : st.left = 0
    · have e0 : ((st.left : Int) == 0) = true := by simp [h0]
      have HL := hide h0
      clear h0
      go_enter Try.func45, Try.ntmps45
      go_wp2
      go_ret
      have h := HR.out
      refine ⟨by simp [spendErr, spendNo, HF.out, HL.out], ?_, fr_setCell h.kg⟩
      have hd := h.dc.set.2.2.2.2.2.1 true
      refine ⟨vn, vd, m, vs, D, ?_⟩
      have := h.move (w' := w.setCell ⟨g, 6, none⟩ (.bool true)) (by rw [size_setCell]; exact Nat.le_refl _) (fun k h0 h1 => setCell_others w g 6 _ k (fun e => h1 (by rw [e]; exact h.kg))) hd
      simpa [spendSt, HF.out, HL.out] using this
    · have e0 : ((st.left : Int) == 0) = false := by simp; omega
      have hl1 : (0 : Int) < st.left := by omega
      have HL := hide h0
      clear h0
      go_enter Try.func45, Try.ntmps45
      go_wp2
      go_ret
      have h := HR.out
      have q1 : (st.left : Int) - 1 = ((st.left - 1 : Nat) : Int) := by omega
      have q2 : (st.calls : Int) + 1 = ((st.calls + 1 : Nat) : Int) := by omega
      rw [q1, q2]
      have hd := (h.dc.set.2.2.2.2.2.2.2 ((st.left - 1 : Nat) : Int)).set.2.2.2.2.1 ((st.calls + 1 : Nat) : Int)
      have hk : ∀ k, k ≠ g → ((w.setCell ⟨g, 8, none⟩ (.int .i64 ((st.left - 1 : Nat) : Int))).setCell ⟨g, 5, none⟩ (.int .i64 ((st.calls + 1 : Nat) : Int))).heap[k]? = w.heap[k]? := fun k hk => (setCell_others _ g 5 _ k hk).trans (setCell_others _ g 8 _ k hk)
      refine ⟨by simp [spendErr, spendNo, HF.out, HL.out], ⟨vn, vd, m, vs, D, ?_⟩, (fr_setCell h.kg).trans (fr_setCell h.kg)⟩
      have := h.move (by rw [size_setCell, size_setCell]; exact Nat.le_refl _) (fun k h0 h1 => hk k (fun e => h1 (by rw [e]; exact h.kg))) hd
      simpa [spendSt, HF.out, HL.out] using this
end Go.Proofs.Yteiajeeincapoac
