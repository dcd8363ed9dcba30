import Derived.Test.YtijmmfimkibgbaaGExn
import Derived.Test.YtijmmfimkibgbaaGRe
namespace Go.Proofs.Ytijmmfimkibgbaa
open Go.RowKit Go.Maps
set_option maxRecDepth 20000
set_option linter.unusedVariables false
set_option linter.unusedSimpArgs false

def jnI (R : List Xf) : List Itm := R.flatMap fun r => [.num r.1 2, .num (r.2.size : Int) 2, .txt r.2]

def jst (R : List Xf) : BSt := runI ⟨[], 65535, 0⟩ (jnI R)

def jE (R : List Xf) : Int := if (jst R).e = 0 then 0 else 124
def jS (R : List Xf) : ByteArray := if (jst R).e = 0 then strOfNums (jst R).l else ⟨#[]⟩

theorem jnI_app (a b : List Xf) : jnI (a ++ b) = jnI a ++ jnI b := by simp [jnI]

def stp3 (st : BSt) (r : Xf) : BSt := textSt (numSt (numSt st r.1 2) (r.2.size : Int) 2) r.2

theorem jst_take {R : List Xf} {j : Nat} (h : j < R.length) : jst (R.take (j + 1)) = stp3 (jst (R.take j)) (R.getD j xf0) := by
  unfold jst
  rw [List.take_succ_eq_append_getElem h, jnI_app, runI_app]
  have e : R.getD j xf0 = R[j] := by simp [List.getD, h]
  rw [e]
  rfl

theorem jst_err {R : List Xf} {j : Nat} (h : (jst (R.take j)).e ≠ 0) : (jst R).e ≠ 0 := by
  have e : jst R = runI (jst (R.take j)) (jnI (R.drop j)) := by
    unfold jst
    rw [← runI_app, ← jnI_app, List.take_append_drop]
  rw [e, runI_err _ h]
  exact h

theorem lim_stp3 {st : BSt} (h : Lim st) (r : Xf) : Lim (stp3 st r) := lim_text (lim_num (lim_num h _ _) _ _) _

theorem j_no {R : List Xf} (h : (jst R).e ≠ 0) : jE R = 124 ∧ jS R = ⟨#[]⟩ := ⟨if_neg h, if_neg h⟩
theorem j_yes {R : List Xf} (h : (jst R).e = 0) : jE R = 0 ∧ jS R = strOfNums (jst R).l := ⟨if_pos h, if_pos h⟩

theorem num_e {st : BSt} (h : st.e ≠ 0) (v : Int) (n : Nat) : numSt st v n = st := stp_err h (.num v n)
theorem txt_e {st : BSt} (h : st.e ≠ 0) (s : ByteArray) : textSt st s = st := stp_err h (.txt s)
theorem num_w {L : List Int} {v : Int} {n : Nat} (h : wide v n) : (numSt ⟨L, 65535, 0⟩ v n).e ≠ 0 := by simp [numSt, h]
theorem num_l {L : List Int} {v : Int} {n : Nat} (h : ¬ wide v n) (h2 : (65535 : Int) - (L.length : Int) < (n : Int)) : (numSt ⟨L, 65535, 0⟩ v n).e ≠ 0 := by simp [numSt, h, h2]
theorem num_k {L : List Int} {v : Int} {n : Nat} (h : ¬ wide v n) (h2 : ¬ (65535 : Int) - (L.length : Int) < (n : Int)) : numSt ⟨L, 65535, 0⟩ v n = ⟨L ++ bytesLE v n, 65535, 0⟩ := by simp [numSt, h, h2]
theorem txt_l {L : List Int} {s : ByteArray} (h2 : (65535 : Int) - (L.length : Int) < (s.size : Int)) : (textSt ⟨L, 65535, 0⟩ s).e ≠ 0 := by simp [textSt, h2]
theorem txt_k {L : List Int} {s : ByteArray} (h2 : ¬ (65535 : Int) - (L.length : Int) < (s.size : Int)) : textSt ⟨L, 65535, 0⟩ s = ⟨L ++ strL s, 65535, 0⟩ := by simp [textSt, h2]

/-- One field more, from a state without an error. -/
theorem stp3_no {L : List Int} {r : Xf} (h : wide r.1 2 ∨ 65535 < r.2.size ∨ 65535 < L.length + 4 + r.2.size) (hL : L.length ≤ 65535) : (stp3 ⟨L, 65535, 0⟩ r).e ≠ 0 := by
  unfold stp3
  have hk : ∀ (st : BSt), st.e ≠ 0 → (textSt (numSt st (r.2.size : Int) 2) r.2).e ≠ 0 := fun st he => by rw [num_e he, txt_e he]; exact he
  have hk2 : ∀ (st : BSt), st.e ≠ 0 → (textSt st r.2).e ≠ 0 := fun st he => by rw [txt_e he]; exact he
  by_cases h1 : wide r.1 2
  · exact hk _ (num_w h1)
  by_cases h2 : (65535 : Int) - (L.length : Int) < ((2 : Nat) : Int)
  · exact hk _ (num_l h1 h2)
  have l1 : (L ++ bytesLE r.1 2).length = L.length + 2 := by rw [List.length_append, length_bytesLE]
  rw [num_k h1 h2]
  by_cases h3 : wide (r.2.size : Int) 2
  · exact hk2 _ (num_w h3)
  by_cases h4 : (65535 : Int) - ((L ++ bytesLE r.1 2).length : Int) < ((2 : Nat) : Int)
  · exact hk2 _ (num_l h3 h4)
  have l2 : (L ++ bytesLE r.1 2 ++ bytesLE (r.2.size : Int) 2).length = L.length + 4 := by rw [List.length_append, l1, length_bytesLE]
  rw [num_k h3 h4]
  refine txt_l ?_
  rw [l2]
  unfold wide at h3
  rcases h with h | h | h
  · exact absurd h h1
  · omega
  · omega

theorem stp3_yes {L : List Int} {r : Xf} (h1 : ¬ wide r.1 2) (h3 : L.length + 4 + r.2.size ≤ 65535) : stp3 ⟨L, 65535, 0⟩ r = ⟨L ++ bytesLE r.1 2 ++ bytesLE (r.2.size : Int) 2 ++ strL r.2, 65535, 0⟩ := by
  unfold stp3
  have l1 : (L ++ bytesLE r.1 2).length = L.length + 2 := by rw [List.length_append, length_bytesLE]
  have l2 : (L ++ bytesLE r.1 2 ++ bytesLE (r.2.size : Int) 2).length = L.length + 4 := by rw [List.length_append, l1, length_bytesLE]
  rw [num_k h1 (by omega), num_k (by unfold wide; omega) (by rw [l1]; omega), txt_k (by rw [l2]; omega)]

/-- A buffer under way. -/
def Bz (w0 : World) (g : Nat) (w : World) (st : BSt) : Prop := ∃ K, Bu true w K g st ∧ Fr (fun _ => 0) K w0 w ∧ Lim st

theorem newBz (w : World) : Calls Try.prog 16 #[.int .i64 65535] w fun e w' => ∃ g, e = .returned (.pointer (some ⟨g, 0, none⟩)) ∧ Bz w g w' ⟨[], 65535, 0⟩ := by
  refine (newBuffer_any 65535 (by omega) w).mono ?_
  rintro e w' ⟨g, K, rfl, hb, hk, hbl⟩
  have hz : ∀ k, k < w.heap.size → K k = 0 := fun k hk' => by
    by_cases e : K k = 0
    · exact e
    · have := hk k e; omega
  refine ⟨g, rfl, K, ?_, ?_, (by show (65535 : Int) ≤ 200000; omega), by simp⟩
  · rw [newSt, if_neg (by omega)] at hb; exact hb
  · exact ⟨hbl.os, hbl.tape, hbl.output, hbl.size, fun k hk' _ => hbl.block k hk', fun k hk' => hz k hk'⟩

theorem Bz.box {w0 w : World} {g : Nat} {st : BSt} (h : Bz w0 g w st) (o : Obj) : Bx w.heap.size o w0 (fun _ => 0) g (w.alloc o) st := by
  obtain ⟨K, ⟨u, hu⟩, hf, hl⟩ := h
  have hb : Below w.heap.size w (w.alloc o) := (Below.refl _ _).alloc (Nat.le_refl _) _
  refine ⟨K, Bu.below ⟨u, hu⟩ hb, hf.trans (Fr.of_below hb), heap_alloc_new w o, ?_, hl⟩
  by_cases e : K w.heap.size = 0
  · exact e
  · have := hu.sup _ e; omega

theorem Bx.bz {c : Nat} {o : Obj} {w0 w : World} {g : Nat} {st : BSt} (h : Bx c o w0 (fun _ => 0) g w st) : Bz w0 g w st := by
  obtain ⟨K, h1, h2, _, _, h5⟩ := h
  exact ⟨K, h1, h2, h5⟩

theorem Bz.below {w0 w : World} {g : Nat} {st : BSt} (h : Bz w0 g w st) : Below w0.heap.size w0 w := by
  obtain ⟨K, h1, h2, _⟩ := h
  exact h2.below (fun k hk => absurd rfl hk) (Nat.le_refl _)

theorem zerr_any {w0 w : World} {g : Nat} {st : BSt} (h : Bz w0 g w st) : Calls Try.prog 38 #[.pointer (some ⟨g, 0, none⟩)] w fun e w' => e = .returned (.int .i64 st.e) ∧ w' = w := by
  obtain ⟨K, ⟨u, hu⟩, _, _⟩ := h
  exact berr_any hu

theorem ztake_any {w0 w : World} {g : Nat} {st : BSt} (h : Bz w0 g w st) (he : st.e = 0) : Calls Try.prog 40 #[.pointer (some ⟨g, 0, none⟩)] w fun e w' => ∃ a c, e = .returned (.slice a st.l.length c) ∧ SB w' (.slice a st.l.length c) st.l ∧ Below w.heap.size w w' := by
  obtain ⟨K, ⟨u, hu⟩, _, hl⟩ := h
  refine (btake_any hu (by have := hl.2; omega) st.l (by rw [if_pos he])).mono ?_
  rintro e w' ⟨a, c, rfl, ho, hb⟩
  exact ⟨a, c, rfl, ho.sb, hb⟩
end Go.Proofs.Ytijmmfimkibgbaa

