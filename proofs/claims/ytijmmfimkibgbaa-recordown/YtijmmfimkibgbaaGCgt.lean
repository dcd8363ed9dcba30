import Derived.Test.YtijmmfimkibgbaaGRe
import Derived.Test.YtijmmfimkibgbaaGSt
import Derived.Test.YtijmmfimkibgbaaGLnb
namespace Go.Proofs.Ytijmmfimkibgbaa
open Go.RowKit Go.Maps
set_option maxRecDepth 20000
set_option linter.unusedVariables false

/-- Bytes of a row, and the number that stands there. -/
def sub (d : List Int) (k n : Nat) : List Int := (d.drop k).take n
def fld (d : List Int) (k n : Nat) : Int := le (sub d k n)

theorem sub_len {d : List Int} {k n : Nat} (h : k + n ≤ d.length) : (sub d k n).length = n := by
  unfold sub; rw [List.length_take, List.length_drop]; omega

theorem sub_sub {d : List Int} {k n p m : Nat} (h : p + m ≤ n) : sub (sub d k n) p m = sub d (k + p) m := by
  unfold sub
  rw [List.drop_take, List.take_take, List.drop_drop, Nat.min_eq_left (by omega)]

theorem fld_sub {d : List Int} {k n p m : Nat} (h : p + m ≤ n) : fld (sub d k n) p m = fld d (k + p) m := by
  unfold fld; rw [sub_sub h]

theorem byt_sub {d : List Int} (h : Byt d) (k n : Nat) : Byt (sub d k n) := byt_take (byt_drop h k) n

theorem fld_bound {d : List Int} (h : Byt d) (k n : Nat) : 0 ≤ fld d k n ∧ fld d k n < 256 ^ n := by
  have := le_bound (byt_sub h k n)
  refine ⟨this.1, Int.lt_of_lt_of_le this.2 ?_⟩
  have hl : (sub d k n).length ≤ n := by unfold sub; rw [List.length_take]; omega
  exact_mod_cast Nat.pow_le_pow_right (show 0 < 256 by omega) hl

theorem fld2 {d : List Int} (h : Byt d) (k : Nat) : 0 ≤ fld d k 2 ∧ fld d k 2 ≤ 65535 := by have := fld_bound h k 2; omega
theorem fld4 {d : List Int} (h : Byt d) (k : Nat) : 0 ≤ fld d k 4 ∧ fld d k 4 ≤ 4294967295 := by have := fld_bound h k 4; omega

/-- A cursor under way: no error yet; what lies below g stays. -/
structure Cx (w0 : World) (g : Nat) (d : List Int) (p : Nat) (w : World) : Prop where
  cu : Cu (fun k => g ≤ k ∨ k < w0.heap.size) 79 w g ⟨d, p, 0⟩
  bel : Below w0.heap.size w0 w
  g0 : w0.heap.size ≤ g

theorem Cx.raw {w0 w : World} {g : Nat} {u : Value} {d : List Int} (h : Raw 79 w w0.heap.size g u d) (hb : Below w0.heap.size w0 w) (hd : d.length ≤ 140737488351232) (hB : Byt d) : Cx w0 g d 0 w :=
  ⟨⟨u, h.s, h.d, Nat.zero_le _, hd, hB, .inl (Nat.le_refl _), fun k hk e => by have := h.b k hk; omega⟩, hb, h.a⟩

/-- What a step of the cursor leaves. -/
structure Cst (w : World) (g : Nat) (w' : World) : Prop where
  block : ∀ k, k < w.heap.size → k ≠ g → w'.heap[k]? = w.heap[k]?
  size : w.heap.size ≤ w'.heap.size

theorem next_st {d : List Int} {p n : Nat} (h : p + n ≤ d.length) : nextSt ⟨d, p, 0⟩ (n : Int) = ⟨d, p + n, 0⟩ ∧ nextL ⟨d, p, 0⟩ (n : Int) = sub d p n := by
  have ok : okN ⟨d, p, 0⟩ (n : Int) := ⟨rfl, by omega, by show (n : Int) ≤ (d.length : Int) - (p : Int); omega⟩
  exact ⟨by rw [nextSt_ok ok]; simp, (nextL_ok ok).1⟩

theorem qu16_any {w0 w : World} {g : Nat} {d : List Int} {p : Nat} (h : Cx w0 g d p w) (hp : p + 2 ≤ d.length) :
    Calls Try.prog 23 #[.pointer (some ⟨g, 0, none⟩)] w fun e w' => e = .returned (.int .i64 (fld d p 2)) ∧ Cx w0 g d (p + 2) w' ∧ Cst w g w' := by
  obtain ⟨h1, h2⟩ := next_st hp
  refine (u16_any h.cu (B := w0.heap.size) h.g0).mono ?_
  rintro e w' ⟨rfl, hc, ht⟩
  rw [h1] at hc
  rw [h2]
  exact ⟨rfl, ⟨hc, h.bel.trans ht.1, h.g0⟩, ht.2, ht.1.size⟩

theorem qu32_any {w0 w : World} {g : Nat} {d : List Int} {p : Nat} (h : Cx w0 g d p w) (hp : p + 4 ≤ d.length) :
    Calls Try.prog 25 #[.pointer (some ⟨g, 0, none⟩)] w fun e w' => e = .returned (.int .i64 (fld d p 4)) ∧ Cx w0 g d (p + 4) w' ∧ Cst w g w' := by
  obtain ⟨h1, h2⟩ := next_st hp
  refine (u32_any h.cu (B := w0.heap.size) h.g0).mono ?_
  rintro e w' ⟨rfl, hc, ht⟩
  rw [h1] at hc
  rw [h2]
  exact ⟨rfl, ⟨hc, h.bel.trans ht.1, h.g0⟩, ht.2, ht.1.size⟩

/-- A box above the cursor is written. -/
theorem Cx.put {w0 w : World} {g : Nat} {d : List Int} {p : Nat} (h : Cx w0 g d p w) {c : Nat} (hc : g < c) (i : Nat) (u : Value) : Cx w0 g d p (w.setCell ⟨c, i, none⟩ u) :=
  ⟨h.cu.keep (B := w0.heap.size) (tch_set (by have := h.g0; omega) u) (by omega) (.inl (by omega)), h.bel.setCell (p := ⟨c, i, none⟩) (by have := h.g0; show _ ≤ c; omega) u, h.g0⟩

theorem Cx.alloc {w0 w : World} {g : Nat} {d : List Int} {p : Nat} (h : Cx w0 g d p w) (o : Obj) : Cx w0 g d p (w.alloc o) ∧ g < w.heap.size :=
  ⟨⟨h.cu.keep (B := w0.heap.size) (g' := w.heap.size) (tch_alloc h.bel.size o) (by have := h.cu.lt; omega) (.inl (by have := h.cu.lt; omega)), h.bel.alloc h.bel.size o, h.g0⟩, h.cu.lt⟩

/-- The error with which a record of n bytes and a signature doesn't begin at a place. -/
def beE (d : List Int) (at' : Int) (n : Nat) (sig : Int) : Int :=
  if at' < 0 ∨ (d.length : Int) < at' then 1 else if (d.length : Int) - at' < n then 122 else if fld d at'.toNat 4 ≠ sig then 123 else 0

theorem beE_ok {d : List Int} {at' : Int} {n : Nat} {sig : Int} (h : beE d at' n sig = 0) : ∃ k : Nat, at' = k ∧ k + n ≤ d.length ∧ fld d k 4 = sig := by
  unfold beE at h
  by_cases h0 : at' < 0 ∨ (d.length : Int) < at'
  · rw [if_pos h0] at h; omega
  · rw [if_neg h0] at h
    by_cases h1 : (d.length : Int) - at' < n
    · rw [if_pos h1] at h; omega
    · rw [if_neg h1] at h
      by_cases h2 : fld d at'.toNat 4 ≠ sig
      · rw [if_pos h2] at h; omega
      · exact ⟨at'.toNat, by omega, by omega, by simpa using h2⟩

/-- A part of a row that can be read. -/
theorem SB.part12 {w : World} {b o c : Nat} {l : List Int} (h : SB w (.slice (some ⟨b, o, none⟩) l.length c) l) {k n : Nat} (hk : k + n ≤ l.length) (hkc : k ≤ c) : SB w (.slice (some ⟨b, o + k, none⟩) n (c - k)) (sub l k n) := by
  obtain ⟨ao, cap, he, h1, h2, h3, h4⟩ := h
  simp only [Value.slice.injEq] at he
  obtain ⟨rfl, -, rfl⟩ := he
  refine ⟨some ⟨b, o + k, none⟩, c - k, by rw [sub_len hk], by rw [sub_len hk]; omega, Nat.le_trans (Nat.sub_le _ _) h2, (fun e => by cases e), fun x hx i hi => ?_⟩
  cases hx
  rw [sub_len hk] at hi
  have hc := h4 _ rfl (k + i) (by omega)
  rw [Addr.add_lit] at hc ⊢
  rw [Nat.add_assoc, hc]
  unfold sub
  simp [List.getD, hi]

/-- What fieldsAt answers. -/
def FA (w : World) (d : List Int) (at' : Int) (n : Nat) (sig : Int) (e : Ending) (w' : World) : Prop :=
  (beE d at' n sig ≠ 0 ∧ e = .returned (.tuple #[.pointer none, .int .i64 (beE d at' n sig)]) ∧ Below w.heap.size w w') ∨
  (beE d at' n sig = 0 ∧ ∃ g, e = .returned (.tuple #[.pointer (some ⟨g, 0, none⟩), .int .i64 0]) ∧ Cx w g (sub d at'.toNat n) 4 w')

set_option maxHeartbeats 2000000 in
theorem fieldsAt_any (v : Value) (d : List Int) (at' : Int) (n : Nat) (sig : Int) (w : World) (h : SB w v d) (hB : Byt d) (h64 : Ok64 at') (hd : d.length ≤ 140737488355328) (hn0 : 4 ≤ n) (hn1 : n ≤ 46) :
    Calls Try.prog 22 #[v, .int .i64 at', .int .i64 (n : Int), .int .i64 sig] w fun e w' => FA w d at' n sig e w' := by
  obtain ⟨ao, cap, rfl, q1, q2, q3⟩ := h.open11
  have HS := hide h
  obtain ⟨u0, u1⟩ := h64
  by_cases h0 : at' < 0
  · have HE : Hid (beE d at' n sig = 1) := by show _ = _; unfold beE; rw [if_pos (.inl h0)]
    clear h q3
    go_enter Try.func22, Try.ntmps22
    go_wp2
    go_ret2
    refine .inl ⟨by rw [HE.out]; omega, by rw [HE.out]; rfl, Below.refl _ _⟩
  by_cases h1 : (d.length : Int) < at'
  · have HE : Hid (beE d at' n sig = 1) := by show _ = _; unfold beE; rw [if_pos (.inr h1)]
    clear h q3
    go_enter Try.func22, Try.ntmps22
    go_wp2
    go_ret2
    refine .inl ⟨by rw [HE.out]; omega, by rw [HE.out]; rfl, Below.refl _ _⟩
  obtain ⟨k, rfl⟩ : ∃ k : Nat, at' = k := ⟨at'.toNat, by omega⟩
  have hx : ¬ ((k : Int) < 0 ∨ (d.length : Int) < (k : Int)) := by omega
  by_cases h2 : (d.length : Int) - k < n
  · have HE : Hid (beE d k n sig = 122) := by show _ = _; unfold beE; rw [if_neg hx, if_pos h2]
    clear h q3 hx
    go_enter Try.func22, Try.ntmps22
    go_wp2
    go_ret2
    refine .inl ⟨by rw [HE.out]; omega, by rw [HE.out]; rfl, Below.refl _ _⟩
  have hkn : k + n ≤ d.length := by omega
  obtain ⟨b, o, rfl⟩ := q3 (by omega)
  have HP : Hid (SB w (.slice (some ⟨b, o + k, none⟩) n (cap - k)) (sub d k n)) := HS.out.part12 hkn (by omega)
  have HLn := hide (sub_len hkn)
  have HBy := hide (byt_sub hB k n)
  have HFL : Hid (fld (sub d k n) 0 4 = fld d k 4) := fld_sub (by omega)
  obtain ⟨j, hj⟩ : ∃ j, j = k + n := ⟨_, rfl⟩
  have e2 : (k : Int) + (n : Int) = (j : Int) := by omega
  have e3 : j ≤ d.length := by omega
  have e4 : k ≤ j := by omega
  have e5 : ¬ cap = k := by omega
  have e6 : j - k = n := by omega
  have e7 : j ≤ cap := by omega
  have HX := hide hx
  clear h q3 hj hx HS
  have HNC := hide (newCursor_any _ (sub d k n) w HP.out (by rw [HLn.out]; omega))
  by_cases h3 : fld d k 4 = sig
  · have HE : Hid (beE d k n sig = 0) := by show _ = _; unfold beE; rw [if_neg HX.out, if_neg h2, if_neg (by simpa using h3)]
    have g3 : (fld d k 4 != sig) = false := by simpa using h3
    have HH3 := hide h3
    clear h3
    go_enter Try.func22, Try.ntmps22
    go_wp2_with fail
    refine HNC.out.mono ?_
    rintro e w1 ⟨g, u, rfl, hr, hb⟩
    have HC := hide (Cx.raw hr hb (by rw [HLn.out]; omega) HBy.out)
    clear hr hb
    go_wp2_with fail
    refine (qu32_any HC.out (by rw [HLn.out]; omega)).mono ?_
    rintro e w2 ⟨rfl, hc, hs⟩
    rw [HFL.out]
    have HC2 := hide hc
    clear hc hs
    go_wp2
    go_ret2
    exact .inr ⟨HE.out, g, rfl, HC2.out⟩
  · have HE : Hid (beE d k n sig = 123) := by show _ = _; unfold beE; rw [if_neg HX.out, if_neg h2, if_pos (by simpa using h3)]
    have g3 : (fld d k 4 != sig) = true := by simpa using h3
    clear h3
    go_enter Try.func22, Try.ntmps22
    go_wp2_with fail
    refine HNC.out.mono ?_
    rintro e w1 ⟨g, u, rfl, hr, hb⟩
    have HC := hide (Cx.raw hr hb (by rw [HLn.out]; omega) HBy.out)
    clear hr hb
    go_wp2_with fail
    refine (qu32_any HC.out (by rw [HLn.out]; omega)).mono ?_
    rintro e w2 ⟨rfl, hc, hs⟩
    rw [HFL.out]
    have HC2 := hide hc
    clear hc hs
    go_wp2
    go_ret2
    exact .inl ⟨by rw [HE.out]; omega, by rw [HE.out]; rfl, HC2.out.bel⟩
end Go.Proofs.Ytijmmfimkibgbaa

