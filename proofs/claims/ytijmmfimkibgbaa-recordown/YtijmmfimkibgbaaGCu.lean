import Derived.Test.YtijmmfimkibgbaaG3
import Derived.Laws.BytesArg
import Derived.Laws.BitsLemmas
namespace Go.Proofs.Ytijmmfimkibgbaa
open Go.RowKit
set_option maxRecDepth 20000
variable {X : Nat → Prop}

/-- A block of three cells. -/
def S3 (T : Nat) (w : World) (g : Nat) (a b c : Value) : Prop := w.heap[g]? = some (.cells #[a, b, c] T (0, 0))

theorem S3.lt {T : Nat} {w : World} {g : Nat} {a b c : Value} (h : S3 T w g a b c) : g < w.heap.size := (Array.getElem?_eq_some_iff.1 h).1

theorem S3.at {T : Nat} {w : World} {g : Nat} {a b c : Value} (h : S3 T w g a b c) : w.cell? ⟨g, 0, none⟩ = some a ∧ w.cell? ⟨g, 1, none⟩ = some b ∧ w.cell? ⟨g, 2, none⟩ = some c := by
  unfold S3 at h
  simp [World.cell?, h]

theorem S3.free {T : Nat} {w : World} {g : Nat} {a b c : Value} (h : S3 T w g a b c) : ∀ o, w.frozen? ⟨g, o, none⟩ = false := by
  intro o
  unfold S3 at h
  simp [World.frozen?, h]

theorem S3.set {T : Nat} {w : World} {g : Nat} {a b c : Value} (h : S3 T w g a b c) :
    (∀ u, S3 T (w.setCell ⟨g, 0, none⟩ u) g u b c) ∧ (∀ u, S3 T (w.setCell ⟨g, 1, none⟩ u) g a u c) ∧ (∀ u, S3 T (w.setCell ⟨g, 2, none⟩ u) g a b u) := by
  unfold S3 at h ⊢
  refine ⟨?_, ?_, ?_⟩ <;> intro u <;> simp [World.setCell, Array.getElem?_modify, h]

theorem size_setCell (w : World) (a : Addr) (u : Value) : (w.setCell a u).heap.size = w.heap.size := by simp [World.setCell]

theorem setCell_others (w : World) (g o : Nat) (u : Value) : ∀ k, k ≠ g → (w.setCell ⟨g, o, none⟩ u).heap[k]? = w.heap[k]? := fun k hk => Below.heap_setCell w _ u k hk

/-- Only block g has turned, and new blocks have come. -/
def Tch (B g : Nat) (w w' : World) : Prop := Below B w w' ∧ ∀ k, k < w.heap.size → k ≠ g → w'.heap[k]? = w.heap[k]?

theorem Tch.refl (B g : Nat) (w : World) : Tch B g w w := ⟨Below.refl _ _, fun _ _ _ => rfl⟩

theorem Tch.trans {B g : Nat} {a b c : World} (h : Tch B g a b) (k : Tch B g b c) : Tch B g a c :=
  ⟨h.1.trans k.1, fun i hi hg => (k.2 i (Nat.lt_of_lt_of_le hi h.1.size) hg).trans (h.2 i hi hg)⟩

theorem Tch.drewN {B g : Nat} {a b : World} (h : Tch B g a b) (n : Nat) : Tch B g a (b.drewN n) :=
  ⟨below_drewN h.1 n, h.2⟩

theorem tch_set {B g o : Nat} {w : World} (hB : B ≤ g) (u : Value) : Tch B g w (w.setCell ⟨g, o, none⟩ u) :=
  ⟨(Below.refl _ _).setCell hB u, fun k _ hk => setCell_others w g o u k hk⟩

theorem tch_alloc {B g : Nat} {w : World} (hB : B ≤ w.heap.size) (o : Obj) : Tch B g w (w.alloc o) :=
  ⟨(Below.refl _ _).alloc hB o, fun k hk _ => Below.heap_alloc w o k hk⟩

/-- The cursor's bytes. -/
def DS (w : World) (v : Value) (d : List Int) : Prop :=
  (v = .slice none 0 0 ∧ d = []) ∨ ∃ b cap, v = .slice (some ⟨b, 0, none⟩) d.length cap ∧ d.length ≤ cap ∧ cap ≤ maxLen ∧ ∀ i, i < d.length → w.cell? ⟨b, i, none⟩ = some (.int .u8 (d.getD i 0))

structure CSt where
  d : List Int
  p : Nat
  e : Int

def Byt (d : List Int) : Prop := ∀ i, 0 ≤ d.getD i 0 ∧ d.getD i 0 < 256

/-- A cursor of either kind in memory. -/
def Cu (X : Nat → Prop) (T : Nat) (w : World) (g : Nat) (st : CSt) : Prop :=
  ∃ v, S3 T w g v (.int .i64 st.p) (.int .i64 st.e) ∧ DS w v st.d ∧ st.p ≤ st.d.length ∧ st.d.length ≤ 140737488351232 ∧ Byt st.d ∧ X g ∧ ∀ k, v.ownBlock = some k → ¬ X k

theorem DS.move {w w' : World} {v : Value} {d : List Int} (h : DS w v d) (hk : ∀ k, v.ownBlock = some k → w'.heap[k]? = w.heap[k]?) : DS w' v d := by
  rcases h with h | ⟨b, cap, rfl, h1, h2, h3⟩
  · exact .inl h
  · refine .inr ⟨b, cap, rfl, h1, h2, fun i hi => ?_⟩
    rw [World.cell?_of_block (w := w) (hk b rfl)]
    exact h3 i hi

theorem DS.lt {w : World} {v : Value} {d : List Int} (h : DS w v d) (hd : d ≠ []) : ∀ k, v.ownBlock = some k → k < w.heap.size := by
  intro k hk
  rcases h with ⟨rfl, h⟩ | ⟨b, cap, rfl, h1, h2, h3⟩
  · exact absurd h hd
  · have := World.block_lt_of_cell? _ _ (h3 0 (List.length_pos_iff.2 hd))
    cases hk
    exact this

/-- The cursor has another place and error; its block alone was written. -/
theorem Cu.upd {T : Nat} {w : World} {g : Nat} {st : CSt} (h : Cu X T w g st) {w' : World} (p : Nat) (e : Int) (hp : p ≤ st.d.length)
    (hs : ∀ v, S3 T w g v (.int .i64 st.p) (.int .i64 st.e) → S3 T w' g v (.int .i64 p) (.int .i64 e)) (hk : ∀ k, k ≠ g → w'.heap[k]? = w.heap[k]?) : Cu X T w' g { st with p := p, e := e } := by
  obtain ⟨v, h1, h2, h3, h4, h5, h6⟩ := h
  exact ⟨v, hs v h1, h2.move (fun k hk' => hk k (fun e => h6.2 k hk' (by rw [e]; exact h6.1))), hp, h4, h5, h6⟩

theorem Cu.lt {T : Nat} {w : World} {g : Nat} {st : CSt} (h : Cu X T w g st) : g < w.heap.size := by
  obtain ⟨v, h1, _⟩ := h
  exact h1.lt

/-- Where the cursor's own block and its bytes' block stay. -/
theorem Cu.keep {T : Nat} {w w' : World} {g g' B : Nat} {st : CSt} (h : Cu X T w g st) (ht : Tch B g' w w') (hg : g ≠ g') (ha : X g') : Cu X T w' g st := by
  obtain ⟨v, h1, h2, h3, h4, h5, h6⟩ := h
  refine ⟨v, (ht.2 g h1.lt hg).trans h1, ?_, h3, h4, h5, h6⟩
  by_cases hd : st.d = []
  · rcases h2 with h2 | ⟨b, cap, rfl, x1, x2, x3⟩
    · exact .inl h2
    · exact .inr ⟨b, cap, rfl, x1, x2, fun i hi => by rw [hd] at hi; exact absurd hi (Nat.not_lt_zero _)⟩
  · exact h2.move fun k hk => ht.2 k (h2.lt hd k hk) (fun e => h6.2 k hk (by rw [e]; exact ha))

theorem err_any {w : World} {g : Nat} {st : CSt} (h : Cu X 79 w g st) :
    Calls Try.prog 28 #[.pointer (some ⟨g, 0, none⟩)] w fun e w' => e = .returned (.int .i64 st.e) ∧ w' = w := by
  obtain ⟨v, h1, h2, _⟩ := h
  obtain ⟨c0, c1, c2⟩ := h1.at
  clear h1 h2 c0 c1
  go_enter Try.func28, Try.ntmps28
  go_wp2
  go_ret
  exact ⟨rfl, rfl⟩

theorem at_any {w : World} {g : Nat} {st : CSt} (h : Cu X 79 w g st) :
    Calls Try.prog 29 #[.pointer (some ⟨g, 0, none⟩)] w fun e w' => e = .returned (.int .i64 st.p) ∧ w' = w := by
  obtain ⟨v, h1, h2, _⟩ := h
  obtain ⟨c0, c1, c2⟩ := h1.at
  clear h1 h2 c0 c2
  go_enter Try.func29, Try.ntmps29
  go_wp2
  go_ret
  exact ⟨rfl, rfl⟩

theorem DS.shape {w : World} {v : Value} {d : List Int} (h : DS w v d) : ∃ a c, v = .slice a d.length c := by
  rcases h with ⟨rfl, rfl⟩ | ⟨b, cap, rfl, h1, h2, h3⟩
  · exact ⟨none, 0, rfl⟩
  · exact ⟨_, _, rfl⟩

theorem left_any {w : World} {g : Nat} {st : CSt} (h : Cu X 79 w g st) :
    Calls Try.prog 46 #[.pointer (some ⟨g, 0, none⟩)] w fun e w' => e = .returned (.int .i64 ((st.d.length : Int) - st.p)) ∧ ∃ n, w' = w.drewN n := by
  obtain ⟨v, h1, h2, h3, h4, _⟩ := h
  obtain ⟨a, c, rfl⟩ := h2.shape
  obtain ⟨c0, c1, c2⟩ := h1.at
  clear h1 h2 c2
  go_enter Try.func46, Try.ntmps46
  go_wp2
  go_quiet (fail)
  go_wp2
  go_ret
  exact ⟨rfl, _, rfl⟩
end Go.Proofs.Ytijmmfimkibgbaa

namespace Go.Proofs.Ytijmmfimkibgbaa
open Go.RowKit
set_option maxRecDepth 20000
variable {X : Nat → Prop}

def okN (st : CSt) (n : Int) : Prop := st.e = 0 ∧ 0 ≤ n ∧ n ≤ (st.d.length : Int) - st.p

instance (st : CSt) (n : Int) : Decidable (okN st n) := by unfold okN; exact inferInstance

def nextSt (st : CSt) (n : Int) : CSt := if st.e ≠ 0 then st else if n < 0 then { st with e := 1 } else if (st.d.length : Int) - st.p < n then { st with e := 20 } else { st with p := st.p + n.toNat }

def nextL (st : CSt) (n : Int) : List Int := if okN st n then (st.d.drop st.p).take n.toNat else []

/-- A slice that can be read. -/
def RS (w : World) (v : Value) (l : List Int) : Prop :=
  ∃ ao cap, v = .slice ao l.length cap ∧ l.length ≤ maxLen ∧ (l ≠ [] → ∃ b o, ao = some ⟨b, o, none⟩ ∧ ∀ i, i < l.length → w.cell? ⟨b, o + i, none⟩ = some (.int .u8 (l.getD i 0)))

theorem rs_nil (w : World) : RS w (.slice none 0 0) [] := ⟨none, 0, rfl, Nat.zero_le _, fun h => absurd rfl h⟩

theorem nextL_no {st : CSt} {n : Int} (h : ¬ okN st n) : nextL st n = [] := if_neg h

theorem nextSt_ok {st : CSt} {n : Int} (h : okN st n) : nextSt st n = { st with p := st.p + n.toNat } := by
  obtain ⟨h1, h2, h3⟩ := h
  unfold nextSt
  rw [if_neg (by omega), if_neg (by omega), if_neg (by omega)]

theorem nextL_ok {st : CSt} {n : Nat} (h : okN st n) : nextL st n = (st.d.drop st.p).take n ∧ (nextL st n).length = n := by
  have e : nextL st n = (st.d.drop st.p).take n := by unfold nextL; rw [if_pos h]; rfl
  refine ⟨e, ?_⟩
  rw [e, List.length_take, List.length_drop]
  obtain ⟨h1, h2, h3⟩ := h
  omega

theorem nextL_get {st : CSt} {n : Nat} (h : okN st n) {i : Nat} (hi : i < n) : (nextL st n).getD i 0 = st.d.getD (st.p + i) 0 := by
  rw [(nextL_ok h).1]
  simp [List.getD, hi]

theorem next_any {w : World} {g B : Nat} {st : CSt} (h : Cu X 79 w g st) (n : Int) (hB : B ≤ g) :
    Calls Try.prog 43 #[.pointer (some ⟨g, 0, none⟩), .int .i64 n] w fun e w' => ∃ v, e = .returned v ∧ RS w' v (nextL st n) ∧ Cu X 79 w' g (nextSt st n) ∧ Tch B g w w' := by
  have HC := hide h
  obtain ⟨v, h1, h2, h3, h4, h5, h6⟩ := h
  have hfz := h1.free
  obtain ⟨c0, c1, c2⟩ := h1.at
  have H1 := hide h1
  have H2 := hide h2
  have H6 := hide h6
  clear h1 h2 h5 h6
  by_cases he : st.e = 0
  case neg =>
    have HL : Hid (nextL st n = []) := nextL_no (fun h => he h.1)
    have HS : Hid (nextSt st n = st) := by show _ = _; unfold nextSt; rw [if_pos he]
    have he' : (st.e != 0) = true := by simpa using he
    clear c0 c1 c2
    go_enter Try.func43, Try.ntmps43
    go_wp2_with fail
    refine (err_any HC.out).mono ?_
    rintro e w ⟨rfl, rfl⟩
    go_wp2
    go_ret
    rw [HL.out, HS.out]
    exact ⟨_, rfl, rs_nil _, HC.out, Tch.refl _ _ _⟩
  case pos =>
  have HE := hide he
  by_cases hn : n < 0
  case pos =>
    have HL : Hid (nextL st n = []) := nextL_no (fun h => by have := h.2.1; omega)
    have HS : Hid (nextSt st n = { st with e := 1 }) := by show _ = _; unfold nextSt; rw [if_neg (by simp [he]), if_pos hn]
    have HF : Hid (Cu X 79 (w.setCell ⟨g, 2, none⟩ (.int .i64 1)) g { st with e := 1 }) := HC.out.upd st.p 1 h3 (fun v hv => hv.set.2.2 _) (setCell_others w g 2 _)
    clear c0 c1
    go_enter Try.func43, Try.ntmps43
    go_wp2_with fail
    refine (err_any HC.out).mono ?_
    rintro e w ⟨rfl, rfl⟩
    rw [HE.out]
    go_wp2
    go_ret
    rw [HL.out, HS.out]
    exact ⟨_, rfl, rs_nil _, HF.out, tch_set hB _⟩
  case neg =>
  by_cases hl : (st.d.length : Int) - st.p < n
  case pos =>
    have HL : Hid (nextL st n = []) := nextL_no (fun h => by have := h.2.2; omega)
    have HS : Hid (nextSt st n = { st with e := 20 }) := by show _ = _; unfold nextSt; rw [if_neg (by simp [he]), if_neg hn, if_pos hl]
    have HF : Hid (∀ k, Cu X 79 ((w.drewN k).setCell ⟨g, 2, none⟩ (.int .i64 20)) g { st with e := 20 }) := fun k => HC.out.upd st.p 20 h3 (fun v hv => hv.set.2.2 _) (setCell_others w g 2 _)
    clear c0 c1
    go_enter Try.func43, Try.ntmps43
    go_wp2_with fail
    refine (err_any HC.out).mono ?_
    rintro e w ⟨rfl, rfl⟩
    rw [HE.out]
    go_wp2_with fail
    refine (left_any HC.out).mono ?_
    rintro e w' ⟨rfl, k, rfl⟩
    go_wp2
    go_ret
    rw [HL.out, HS.out]
    exact ⟨_, rfl, rs_nil _, HF.out k, ((Tch.refl _ _ _).drewN k).trans (tch_set hB _)⟩
  case neg =>
    obtain ⟨m, rfl⟩ : ∃ m : Nat, n = m := ⟨n.toNat, by omega⟩
    have hok : okN st m := ⟨he, by omega, by omega⟩
    have HK := hide hok
    have HS : Hid (nextSt st m = { st with p := st.p + m }) := nextSt_ok hok
    have hsum : st.p + m ≤ st.d.length := by omega
    have HF : Hid (∀ (k q : Nat) (x : Int), x = (st.p : Int) + m → Cu X 79 (((w.drewN k).setCell ⟨g, 1, none⟩ (.int .i64 x)).drewN q) g (nextSt st m) ∧ Tch B g w (((w.drewN k).setCell ⟨g, 1, none⟩ (.int .i64 x)).drewN q)) := by
      intro k q x hx
      obtain rfl : x = ((st.p + m : Nat) : Int) := by omega
      rw [HS.out]
      exact ⟨HC.out.upd (w' := ((w.drewN k).setCell ⟨g, 1, none⟩ (.int .i64 ((st.p + m : Nat) : Int))).drewN q) (st.p + m) st.e hsum (fun v hv => hv.set.2.1 _) (setCell_others w g 1 _), (((Tch.refl _ _ _).drewN k).trans (tch_set hB _)).drewN q⟩
    clear hok he
    have HL : Hid ((nextL st m).length = m) := (nextL_ok HK.out).2
    have HG : Hid (∀ i, i < m → (nextL st m).getD i 0 = st.d.getD (st.p + i) 0) := fun i hi => nextL_get HK.out hi
    rcases H2.out with ⟨rfl, hd⟩ | ⟨b, cap, rfl, hc1, hc2, hc3⟩
    · obtain rfl : m = 0 := by rw [hd] at hsum; simp at hsum; omega
      have hp : st.p = 0 := by rw [hd] at hsum; simp at hsum; omega
      have hln : st.d.length = 0 := by rw [hd]; rfl
      have HZ : Hid (nextL st (0 : Nat) = []) := List.eq_nil_of_length_eq_zero HL.out
      rw [hp] at c1
      clear hd HG HL H1 c2
      go_enter Try.func43, Try.ntmps43
      go_wp2_with fail
      refine (err_any HC.out).mono ?_
      rintro e w ⟨rfl, rfl⟩
      rw [HE.out]
      go_wp2_with fail
      refine (left_any HC.out).mono ?_
      rintro e w' ⟨rfl, k, rfl⟩
      rw [hp]
      go_wp2
      go_quiet (fail)
      go_wp2
      go_ret
      refine ⟨_, rfl, ?_, HF.out _ _ _ (by rw [hp]; rfl)⟩
      rw [HZ.out]
      exact rs_nil _
    · have HC3 := hide hc3
      have hb : b ≠ g := fun e => H6.out.2 b rfl (by rw [e]; exact H6.out.1)
      clear hc3 H1 c2
      unfold maxLen at hc2
      go_enter Try.func43, Try.ntmps43
      go_wp2_with fail
      refine (err_any HC.out).mono ?_
      rintro e w ⟨rfl, rfl⟩
      rw [HE.out]
      go_wp2_with fail
      refine (left_any HC.out).mono ?_
      rintro e w' ⟨rfl, k, rfl⟩
      have HR : Hid (∀ (k q : Nat) (x : Int) (c o : Nat), (m ≠ 0 → o = st.p) → RS (((w.drewN k).setCell ⟨g, 1, none⟩ (.int .i64 x)).drewN q) (.slice (some ⟨b, o, none⟩) m c) (nextL st m)) := by
        intro k q x c o ho
        refine ⟨some ⟨b, o, none⟩, c, by rw [HL.out], by rw [HL.out]; unfold maxLen; omega, fun hne => ⟨b, o, rfl, fun i hi => ?_⟩⟩
        rw [HL.out] at hi
        have h1 := HC3.out (st.p + i) (by omega)
        have h2 : (((w.drewN k).setCell ⟨g, 1, none⟩ (.int .i64 x)).drewN q).cell? ⟨b, st.p + i, none⟩ = w.cell? ⟨b, st.p + i, none⟩ :=
          World.cell?_of_block (w := w) (w' := ((w.drewN k).setCell ⟨g, 1, none⟩ (.int .i64 x)).drewN q) (setCell_others w g 1 _ b hb)
        rw [ho (by omega), h2, h1, HG.out i hi]
      go_wp2
      go_quiet (fail)
      go_wp2
      all_goals go_ret
      all_goals refine ⟨_, rfl, ?_, HF.out _ _ _ rfl⟩
      · exact HR.out _ _ _ _ _ (fun h => by omega)
      · exact HR.out _ _ _ _ _ (fun _ => rfl)
end Go.Proofs.Ytijmmfimkibgbaa

namespace Go.Proofs.Ytijmmfimkibgbaa
open Go.RowKit
set_option maxRecDepth 20000
variable {X : Nat → Prop}

def le : List Int → Int
  | [] => 0
  | b :: r => b + 256 * le r

theorem le_append (a : List Int) (c : Int) : le (a ++ [c]) = le a + 256 ^ a.length * c := by
  induction a with
  | nil => simp [le]
  | cons b r ih => simp only [List.cons_append, le, ih, List.length_cons, Int.pow_succ, Int.mul_add]; rw [Int.add_assoc, Int.mul_comm (256 ^ r.length) 256, Int.mul_assoc]

theorem le_take {l : List Int} {k : Nat} (h : k < l.length) : le (l.take (k + 1)) = le (l.take k) + 256 ^ k * l.getD k 0 := by
  rw [List.take_succ_eq_append_getElem h, le_append, List.length_take, Nat.min_eq_left (by omega)]
  simp [List.getD, h]

theorem le_bound {l : List Int} (h : Byt l) : 0 ≤ le l ∧ le l < 256 ^ l.length := by
  induction l with
  | nil => simp [le]
  | cons b r ih =>
    have h0 := h 0
    have hr := ih (fun i => by have := h (i + 1); simpa using this)
    simp at h0
    simp only [le, List.length_cons, Int.pow_succ]
    omega

theorem byt_take {l : List Int} (h : Byt l) (k : Nat) : Byt (l.take k) := by
  intro i
  by_cases hi : i < k
  · have : (l.take k).getD i 0 = l.getD i 0 := by simp [List.getD, hi]
    rw [this]; exact h i
  · have : (l.take k).getD i 0 = 0 := by
      have e : (l.take k)[i]? = none := List.getElem?_eq_none (by rw [List.length_take]; omega)
      simp [List.getD, e]
    rw [this]; decide

theorem byt_drop {l : List Int} (h : Byt l) (k : Nat) : Byt (l.drop k) := by
  intro i
  have : (l.drop k).getD i 0 = l.getD (k + i) 0 := by simp [List.getD]
  rw [this]; exact h _

theorem byt_nextL {st : CSt} (h : Byt st.d) (n : Int) : Byt (nextL st n) := by
  unfold nextL
  split
  · exact byt_take (byt_drop h _) _
  · intro i; simp

theorem Cu.byt {T : Nat} {w : World} {g : Nat} {st : CSt} (h : Cu X T w g st) : Byt st.d := by
  obtain ⟨v, _, _, _, _, h5, _⟩ := h
  exact h5

theorem nextL_len {st : CSt} (n : Nat) : (nextL st n).length ≤ n := by
  by_cases h : okN st n
  · exact Nat.le_of_eq (nextL_ok h).2
  · rw [nextL_no h]; exact Nat.zero_le _

theorem or_put {V c : Int} (k : Nat) (hV0 : 0 ≤ V) (hc0 : 0 ≤ c) (hc : c < 256) (hk : k < 4) (hV : V < 256 ^ k) : bits .or .i64 V (256 ^ k * c) = V + 256 ^ k * c := by
  have hw : ∀ n : Int, 0 ≤ n → n < 2 ^ 63 → IntKind.i64.wrap n = n := fun n h0 h1 => by rw [IntKind.wrap_i64]; omega
  have comm : ∀ x y : Int, bits .or .i64 x y = bits .or .i64 y x := by
    intro x y
    simp only [bits]
    rw [BitVec.or_comm]
  rw [comm]
  obtain rfl | rfl | rfl | rfl : k = 0 ∨ k = 1 ∨ k = 2 ∨ k = 3 := by omega
  · rw [bits_join .i64 63 (by decide) hw 0 (256 ^ 0 * c) V (by omega) (by omega) (by omega) hV0 (by omega) (by omega)]; omega
  · rw [bits_join .i64 63 (by decide) hw 8 (256 ^ 1 * c) V (by omega) (by omega) (by omega) hV0 (by omega) (by omega)]; omega
  · rw [bits_join .i64 63 (by decide) hw 16 (256 ^ 2 * c) V (by omega) (by omega) (by omega) hV0 (by omega) (by omega)]; omega
  · rw [bits_join .i64 63 (by decide) hw 24 (256 ^ 3 * c) V (by omega) (by omega) (by omega) hV0 (by omega) (by omega)]; omega

theorem shl_put {c : Int} (k : Nat) (hc0 : 0 ≤ c) (hc : c < 256) (hk : k < 4) : wrap64 (c * 2 ^ (8 * k)) = 256 ^ k * c := by
  obtain rfl | rfl | rfl | rfl : k = 0 ∨ k = 1 ∨ k = 2 ∨ k = 3 := by omega
  · rw [show c * 2 ^ (8 * 0) = 256 ^ 0 * c by omega]; exact IntWalk.wrap64_in _ ⟨by omega, by omega⟩
  · rw [show c * 2 ^ (8 * 1) = 256 ^ 1 * c by omega]; exact IntWalk.wrap64_in _ ⟨by omega, by omega⟩
  · rw [show c * 2 ^ (8 * 2) = 256 ^ 2 * c by omega]; exact IntWalk.wrap64_in _ ⟨by omega, by omega⟩
  · rw [show c * 2 ^ (8 * 3) = 256 ^ 3 * c by omega]; exact IntWalk.wrap64_in _ ⟨by omega, by omega⟩

theorem number_any {w : World} {g B : Nat} {st : CSt} (h : Cu X 79 w g st) (n : Nat) (hn : n ≤ 4) (hB : B ≤ g) :
    Calls Try.prog 42 #[.pointer (some ⟨g, 0, none⟩), .int .i64 (n : Int)] w fun e w' => e = .returned (.int .i64 (le (nextL st n))) ∧ Cu X 79 w' g (nextSt st n) ∧ Tch B g w w' := by
  have HB := hide (byt_nextL h.byt n)
  have HLn := nextL_len (st := st) n
  have HC := hide h
  go_enter Try.func42, Try.ntmps42
  go_wp2_with fail
  refine (next_any HC.out n hB).mono ?_
  rintro e w1 ⟨v, rfl, ⟨ao, cap, rfl, hm, hcell⟩, hcu, htc⟩
  have HF := hide (And.intro hcu htc)
  have HCE := hide hcell
  clear hcu htc hcell hm
  obtain ⟨l, HN⟩ : ∃ l, Hid (nextL st n = l) := ⟨_, rfl⟩
  rw [HN.out] at HB HLn HCE ⊢
  go_wp2
  go_loopw [5, 12] (fun x i wr => ∃ k : Nat, k ≤ l.length ∧ i = .int .i64 k ∧ x = .int .i64 (le (l.take k)) ∧ wr = w1) (fun _ i _ => l.length - (intOf i).toNat)
  case atStart => exact ⟨0, Nat.zero_le _, rfl, rfl, rfl⟩
  case round =>
    obtain ⟨k, hk, rfl, rfl, rfl⟩ := hrel
    by_cases hlt : k < l.length
    · have hne : l ≠ [] := fun e => by rw [e] at hlt; exact absurd hlt (Nat.not_lt_zero _)
      obtain ⟨b, o, rfl, hcl⟩ := HCE.out hne
      obtain ⟨c, hc, HD⟩ : ∃ c, wr.cell? ⟨b, o + k, none⟩ = some (.int .u8 c) ∧ Hid (c = l.getD k 0) := ⟨_, hcl k hlt, rfl⟩
      clear hcl
      have hc01 : 0 ≤ c ∧ c < 256 := by rw [HD.out]; exact HB.out k
      obtain ⟨V, HV, hV0, HV1⟩ : ∃ V, Hid (le (l.take k) = V) ∧ 0 ≤ V ∧ Hid (V < 256 ^ k) := by
        refine ⟨_, rfl, (le_bound (byt_take HB.out k)).1, ?_⟩
        have := (le_bound (byt_take HB.out k)).2
        rw [List.length_take, Nat.min_eq_left (by omega)] at this
        exact this
      rw [HV.out]
      have HO := hide (or_put k hV0 hc01.1 hc01.2 (by omega) HV1.out)
      have HT := hide (le_take hlt)
      rw [HV.out, ← HD.out] at HT
      obtain ⟨h0, h1⟩ := hc01
      go_wp2
      go_roundw
      case measure => simp [intOf]; omega
      case rel =>
        refine ⟨k + 1, by omega, by go_num, ?_, by trivial⟩
        rw [shl_put k h0 h1 (by omega), HO.out, HT.out]
    · go_wp2
      go_ret
      refine ⟨?_, HF.out⟩
      have e : l.take k = l := List.take_of_length_le (by omega)
      rw [e, HN.out]
      rfl

theorem rs_convert {w : World} {v : Value} {l : List Int} (h : RS w v l) : (convert 31 9 v).run Try.prog w = .ok (.string (strOfNums l)) w := by
  obtain ⟨ao, cap, rfl, hm, hc⟩ := h
  by_cases hl : l = []
  · subst hl
    cases ao with
    | none => exact run_convert_bytes_nil (P := Try.prog) w 31 5 Try.underlying31 Try.underlying5 0 cap 9 Try.underlying9
    | some a =>
      have h0 : (loadCells a 0).run Try.prog w = .ok (([] : List Int).map (Value.int .u8)).toArray w := by
        have := run_loadCells_list (P := Try.prog) w a [] (fun j v hj => by simp at hj)
        simpa using this
      show (convert 31 9 (.slice (some a) 0 cap)).run Try.prog w = _
      rw [run_convert_bytes_string w 31 9 5 _ 0 cap Try.underlying31 Try.underlying5 Try.underlying9, run_bytesToString w a 0 cap [] h0]
      rfl
  · obtain ⟨b, o, rfl, hcell⟩ := hc hl
    exact run_convert_bytes_arg (P := Try.prog) w 31 5 Try.underlying31 Try.underlying5 b o l.length cap l rfl hcell 9 Try.underlying9

theorem text_any {w : World} {g B : Nat} {st : CSt} (h : Cu X 79 w g st) (n : Int) (hB : B ≤ g) :
    Calls Try.prog 27 #[.pointer (some ⟨g, 0, none⟩), .int .i64 n] w fun e w' => e = .returned (.string (strOfNums (nextL st n))) ∧ Cu X 79 w' g (nextSt st n) ∧ Tch B g w w' := by
  have HC := hide h
  go_enter Try.func27, Try.ntmps27
  go_wp2_with fail
  refine (next_any HC.out n hB).mono ?_
  rintro e w1 ⟨v, rfl, hr, hcu, htc⟩
  have HF := hide (And.intro hcu htc)
  have hcv := rs_convert hr
  clear hr hcu htc
  go_wp2
  go_ret
  exact ⟨rfl, HF.out⟩

theorem u16_any {w : World} {g B : Nat} {st : CSt} (h : Cu X 79 w g st) (hB : B ≤ g) :
    Calls Try.prog 23 #[.pointer (some ⟨g, 0, none⟩)] w fun e w' => e = .returned (.int .i64 (le (nextL st (2 : Nat)))) ∧ Cu X 79 w' g (nextSt st (2 : Nat)) ∧ Tch B g w w' := by
  have HC := hide h
  go_enter Try.func23, Try.ntmps23
  go_wp2_with fail
  refine (number_any HC.out 2 (by omega) hB).mono ?_
  rintro e w1 ⟨rfl, hf⟩
  have HF := hide hf
  clear hf
  go_wp2
  go_ret
  exact ⟨rfl, HF.out⟩

theorem u32_any {w : World} {g B : Nat} {st : CSt} (h : Cu X 79 w g st) (hB : B ≤ g) :
    Calls Try.prog 25 #[.pointer (some ⟨g, 0, none⟩)] w fun e w' => e = .returned (.int .i64 (le (nextL st (4 : Nat)))) ∧ Cu X 79 w' g (nextSt st (4 : Nat)) ∧ Tch B g w w' := by
  have HC := hide h
  go_enter Try.func25, Try.ntmps25
  go_wp2_with fail
  refine (number_any HC.out 4 (by omega) hB).mono ?_
  rintro e w1 ⟨rfl, hf⟩
  have HF := hide hf
  clear hf
  go_wp2
  go_ret
  exact ⟨rfl, HF.out⟩

def seekSt (st : CSt) (n : Int) : CSt := if st.e ≠ 0 then st else if n < 0 then { st with e := 1 } else if (st.d.length : Int) < n then { st with e := 1 } else { st with p := n.toNat }

end Go.Proofs.Ytijmmfimkibgbaa

