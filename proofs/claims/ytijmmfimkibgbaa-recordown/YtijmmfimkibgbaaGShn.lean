import Derived.Test.YtijmmfimkibgbaaGBkn
import Derived.Test.YtijmmfimkibgbaaGFtc
import Derived.Test.YtijmmfimkibgbaaGWhc
import Derived.Test.YtijmmfimkibgbaaGSpn
import Derived.Test.YtijmmfimkibgbaaGPa
namespace Go.Proofs.Ytijmmfimkibgbaa
open Go.RowKit Go.Maps
set_option maxRecDepth 20000
set_option linter.unusedVariables false
set_option linter.unusedSimpArgs false

theorem flip8 : ∀ (v : Fin 256) (i : Fin 8), 0 ≤ bits .xor .u8 (v.1 : Int) (2 ^ i.1) ∧ bits .xor .u8 (v.1 : Int) (2 ^ i.1) < 256 ∧ bits .xor .u8 (v.1 : Int) (2 ^ i.1) ≠ (v.1 : Int) := by decide +kernel

theorem flip_any {v : Int} (h0 : 0 ≤ v) (h1 : v < 256) {i : Nat} (hi : i < 8) : 0 ≤ bits .xor .u8 v (2 ^ i) ∧ bits .xor .u8 v (2 ^ i) < 256 ∧ bits .xor .u8 v (2 ^ i) ≠ v := by
  obtain ⟨n, rfl⟩ : ∃ n : Nat, v = n := ⟨v.toNat, by omega⟩
  exact flip8 ⟨n, by omega⟩ ⟨i, hi⟩

theorem shl_run (i : Nat) (hi : i < 8) (w : World) : (Op.shift BinOp.shl IntKind.u8 1 IntKind.u64 (i : Int)).run Try.prog w = .ok (.int .u8 (2 ^ i)) w := by
  obtain rfl | rfl | rfl | rfl | rfl | rfl | rfl | rfl : i = 0 ∨ i = 1 ∨ i = 2 ∨ i = 3 ∨ i = 4 ∨ i = 5 ∨ i = 6 ∨ i = 7 := by omega
  all_goals rfl

theorem pow_256 (i : Nat) (hi : i < 8) : (2 : Int) ^ i % 256 = 2 ^ i := by
  obtain rfl | rfl | rfl | rfl | rfl | rfl | rfl | rfl : i = 0 ∨ i = 1 ∨ i = 2 ∨ i = 3 ∨ i = 4 ∨ i = 5 ∨ i = 6 ∨ i = 7 := by omega
  all_goals rfl

/-- Three lists of bytes, each in a block of its own. -/
structure T3 (w : World) (a b c p q r : Nat) (A B C : List Int) (W : World) : Prop where
  bel : Below w.heap.size w W
  oa : OB W w.heap.size (.slice (some ⟨a, 0, none⟩) A.length p) A
  ob : OB W w.heap.size (.slice (some ⟨b, 0, none⟩) B.length q) B
  oc : OB W w.heap.size (.slice (some ⟨c, 0, none⟩) C.length r) C
  ab : a < b
  bc : b < c

theorem T3.low {w : World} {a b c p q r : Nat} {A B C : List Int} {W W' : World} (h : T3 w a b c p q r A B C W) (hb : Below W.heap.size W W') : T3 w a b c p q r A B C W' :=
  ⟨h.bel.trans (hb.mono h.bel.size), h.oa.below hb (Nat.le_refl _), h.ob.below hb (Nat.le_refl _), h.oc.below hb (Nat.le_refl _), h.ab, h.bc⟩

theorem ob_other {W : World} {base g n c : Nat} {l : List Int} (h : OB W base (.slice (some ⟨g, 0, none⟩) n c) l) {k j : Nat} (hk : k ≠ g) (u : Value) : OB (W.setCell ⟨k, j, none⟩ u) base (.slice (some ⟨g, 0, none⟩) n c) l :=
  h.move fun i hi => by
    simp [Value.ownBlock] at hi
    exact setCell_others W k j u i (by omega)

theorem T3.lta {w : World} {a b c p q r : Nat} {A B C : List Int} {W : World} (h : T3 w a b c p q r A B C W) : w.heap.size ≤ a := (h.oa.lt a rfl).1

theorem T3.setA {w : World} {a b c p q r : Nat} {A B C : List Int} {W : World} (h : T3 w a b c p q r A B C W) (j : Nat) (x : Int) : T3 w a b c p q r (A.set j x) B C (W.setCell ⟨a, j, none⟩ (.int .u8 x)) := by
  have h1 := h.lta
  have h2 := h.ab
  have h3 := h.bc
  refine ⟨h.bel.setCell (p := ⟨a, j, none⟩) h1 _, ?_, ob_other h.ob (by omega) _, ob_other h.oc (by omega) _, h.ab, h.bc⟩
  rw [List.length_set]
  exact h.oa.setAt x

theorem T3.setB {w : World} {a b c p q r : Nat} {A B C : List Int} {W : World} (h : T3 w a b c p q r A B C W) (j : Nat) (x : Int) : T3 w a b c p q r A (B.set j x) C (W.setCell ⟨b, j, none⟩ (.int .u8 x)) := by
  have h1 := h.lta
  have h2 := h.ab
  have h3 := h.bc
  refine ⟨h.bel.setCell (p := ⟨b, j, none⟩) (by show _ ≤ b; omega) _, ob_other h.oa (by omega) _, ?_, ob_other h.oc (by omega) _, h.ab, h.bc⟩
  rw [List.length_set]
  exact h.ob.setAt x

theorem T3.setC {w : World} {a b c p q r : Nat} {A B C : List Int} {W : World} (h : T3 w a b c p q r A B C W) (j : Nat) (x : Int) : T3 w a b c p q r A B (C.set j x) (W.setCell ⟨c, j, none⟩ (.int .u8 x)) := by
  have h1 := h.lta
  have h2 := h.ab
  have h3 := h.bc
  refine ⟨h.bel.setCell (p := ⟨c, j, none⟩) (by show _ ≤ c; omega) _, ob_other h.oa (by omega) _, ob_other h.ob (by omega) _, ?_, h.ab, h.bc⟩
  rw [List.length_set]
  exact h.oc.setAt x

/-- Gets of a record that lacks its end. -/
theorem getL_cut (v : Value) (D : List Int) (w : World) (h : SB w v D) (hB : Byt D) (hd : D.length ≤ 200000) (he : loE D 0 = 122) : Calls Try.prog 34 #[v, .int .i64 0] w fun e w' => e = .returned (.tuple #[.agg Loc.zero.cs, .int .i64 0, .int .i64 122]) ∧ Below w.heap.size w w' := by
  refine (getLocal_any v D 0 w h hB (by unfold Ok64; omega) (by omega)).mono ?_
  rintro e w' ⟨rfl, hb⟩
  obtain ⟨g1, g2⟩ := lo_bad (d := D) (at' := 0) (by omega)
  rw [g1, g2, he]
  exact ⟨rfl, hb⟩

theorem getC_cut (v : Value) (D : List Int) (w : World) (h : SB w v D) (hB : Byt D) (hd : D.length ≤ 200000) (he : ceE D 0 = 122) : Calls Try.prog 10 #[v, .int .i64 0] w fun e w' => e = .returned (.tuple #[.agg Cen.zero.cs, .int .i64 0, .int .i64 122]) ∧ Below w.heap.size w w' := by
  refine (getCentral_any v D 0 w h hB (by unfold Ok64; omega) (by omega)).mono ?_
  rintro e w' ⟨rfl, hb⟩
  obtain ⟨g1, g2⟩ := ce_bad (d := D) (at' := 0) (by omega)
  rw [g1, g2, he]
  exact ⟨rfl, hb⟩

theorem getE_cut (v : Value) (D : List Int) (w : World) (h : SB w v D) (hB : Byt D) (hd : D.length ≤ 200000) (he : enE D 0 = 122) : Calls Try.prog 33 #[v, .int .i64 0] w fun e w' => e = .returned (.tuple #[.agg Enr.zero.cs, .int .i64 0, .int .i64 122]) ∧ Below w.heap.size w w' := by
  refine (getEnd_any v D 0 w h hB (by unfold Ok64; omega) (by omega)).mono ?_
  rintro e w' ⟨rfl, hb⟩
  obtain ⟨g1, g2⟩ := en_bad (d := D) (at' := 0) (by omega)
  rw [g1, g2, he]
  exact ⟨rfl, hb⟩

/-- Gets of a record whose signature is spoilt. -/
theorem getL_sig (v : Value) (D : List Int) (w : World) (h : SB w v D) (hB : Byt D) (hd : D.length ≤ 200000) (he : loE D 0 = 123) : Calls Try.prog 34 #[v, .int .i64 0] w fun e w' => (∃ u, e = .returned (.tuple #[u, .int .i64 0, .int .i64 123])) ∧ Below w.heap.size w w' := by
  refine (getLocal_any v D 0 w h hB (by unfold Ok64; omega) (by omega)).mono ?_
  rintro e w' ⟨rfl, hb⟩
  obtain ⟨g1, g2⟩ := lo_bad (d := D) (at' := 0) (by omega)
  rw [g2, he]
  exact ⟨⟨_, rfl⟩, hb⟩

theorem getC_sig (v : Value) (D : List Int) (w : World) (h : SB w v D) (hB : Byt D) (hd : D.length ≤ 200000) (he : ceE D 0 = 123) : Calls Try.prog 10 #[v, .int .i64 0] w fun e w' => (∃ u, e = .returned (.tuple #[u, .int .i64 0, .int .i64 123])) ∧ Below w.heap.size w w' := by
  refine (getCentral_any v D 0 w h hB (by unfold Ok64; omega) (by omega)).mono ?_
  rintro e w' ⟨rfl, hb⟩
  obtain ⟨g1, g2⟩ := ce_bad (d := D) (at' := 0) (by omega)
  rw [g2, he]
  exact ⟨⟨_, rfl⟩, hb⟩

theorem getE_sig (v : Value) (D : List Int) (w : World) (h : SB w v D) (hB : Byt D) (hd : D.length ≤ 200000) (he : enE D 0 = 123) : Calls Try.prog 33 #[v, .int .i64 0] w fun e w' => (∃ u, e = .returned (.tuple #[u, .int .i64 0, .int .i64 123])) ∧ Below w.heap.size w w' := by
  refine (getEnd_any v D 0 w h hB (by unfold Ok64; omega) (by omega)).mono ?_
  rintro e w' ⟨rfl, hb⟩
  obtain ⟨g1, g2⟩ := en_bad (d := D) (at' := 0) (by omega)
  rw [g2, he]
  exact ⟨⟨_, rfl⟩, hb⟩

/-- What a record that was put says of its bytes. -/
structure Rw (I : List Itm) (n : Nat) (sig : Int) (gE gP : List Int → Int → Int) (A : List Int) : Prop where
  byt : Byt A
  n : n ≤ A.length
  len : A.length ≤ 200000
  ok : gE A 0 = 0
  plc : gP A 0 = A.length
  sig : fld A 0 4 = sig

theorem rwL (l : Loc) (hf : fitI (loI l)) : Rw (loI l) 30 67324752 loE loP (rowI (loI l)) := by
  have h := lo_back (D := rowI (loI l)) (k := 0) (b := []) (l := l) (Nat.zero_le _) (by simp) hf
  have hl := loI_len l hf
  have hr := loI_row l
  obtain ⟨k, hk, -, hs⟩ := lo_at (at' := 0) h.1
  obtain rfl : k = 0 := by omega
  exact ⟨byt_rowI _, by omega, by omega, h.1, by have := h.2.2; simpa using this, hs⟩

theorem rwC (l : Cen) (hf : fitI (ceI l)) : Rw (ceI l) 46 33639248 ceE ceP (rowI (ceI l)) := by
  have h := ce_back (D := rowI (ceI l)) (k := 0) (b := []) (c := l) (Nat.zero_le _) (by simp) hf
  have hl := ceI_len l hf
  have hr := ceI_row l
  obtain ⟨k, hk, -, hs⟩ := ce_at (at' := 0) h.1
  obtain rfl : k = 0 := by omega
  exact ⟨byt_rowI _, by omega, by omega, h.1, by have := h.2.2; simpa using this, hs⟩

theorem rwE (l : Enr) (hf : fitI (enI l)) : Rw (enI l) 22 101010256 enE enP (rowI (enI l)) := by
  have h := en_back (D := rowI (enI l)) (k := 0) (b := []) (x := l) (Nat.zero_le _) (by simp) hf
  have hl := enI_len l hf
  have hr := enI_row l
  obtain ⟨k, hk, -, hs⟩ := en_at (at' := 0) h.1
  obtain rfl : k = 0 := by omega
  exact ⟨byt_rowI _, by omega, by omega, h.1, by have := h.2.2; simpa using this, hs⟩
end Go.Proofs.Ytijmmfimkibgbaa

