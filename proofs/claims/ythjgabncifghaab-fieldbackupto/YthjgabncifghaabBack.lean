import Derived.Test.YthjgabncifghaabPutGot
namespace Go.Proofs.Ythjgabncifghaab
open Go.RowKit Go.Maps
set_option maxRecDepth 20000

def pre (xs : List It) : List Int := (xs.map encI).flatten

theorem pre_nil : pre [] = [] := rfl

theorem pre_snoc (xs : List It) (x : It) : pre (xs ++ [x]) = pre xs ++ encI x := by
  unfold pre
  simp

theorem pre_take {xs : List It} {k : Nat} {x : It} (h : xs[k]? = some x) : pre (xs.take (k + 1)) = pre (xs.take k) ++ encI x := by
  obtain ⟨hk, rfl⟩ := List.getElem?_eq_some_iff.1 h
  rw [List.take_succ_eq_append_getElem hk, pre_snoc]

theorem pre_split (xs : List It) (k : Nat) : pre xs = pre (xs.take k) ++ pre (xs.drop k) := by
  unfold pre
  rw [← List.flatten_append, ← List.map_append, List.take_append_drop]

/-- The items' script. -/
def IS (w : World) (v : Value) (xs : List It) : Prop :=
  ∃ ao cap, v = .slice ao xs.length cap ∧ xs.length ≤ cap ∧ cap ≤ maxLen ∧ ∀ (i : Nat) (o : It), xs[i]? = some o → ∃ b of, ao = some ⟨b, of, none⟩ ∧ w.cell? ⟨b, of + i * 3, none⟩ = some (.int .i64 o.w) ∧ w.cell? ⟨b, of + i * 3 + 1, none⟩ = some (.int .i64 o.n) ∧ w.cell? ⟨b, of + i * 3 + 2, none⟩ = some (.string o.s)

def IOk (xs : List It) : Prop := ∀ o ∈ xs, -9223372036854775808 ≤ o.n ∧ o.n ≤ 9223372036854775807 ∧ o.s.size ≤ 1048576

theorem encI_len (x : It) (h : x.s.size ≤ 1048576) : (encI x).length ≤ 1048576 := by
  unfold encI
  split
  · rw [length_bytesLE]; omega
  · split
    · rw [length_bytesLE]; omega
    · split
      · rw [length_bytesLE]; omega
      · rw [length_strL]; exact h

theorem byt_encI (x : It) : Byt (encI x) := by
  unfold encI
  split
  · exact byt_bytesLE _ _
  · split
    · exact byt_bytesLE _ _
    · split
      · exact byt_bytesLE _ _
      · exact byt_strL _

theorem byt_append {a b : List Int} (ha : Byt a) (hb : Byt b) : Byt (a ++ b) := by
  intro i
  by_cases hi : i < a.length
  · have : (a ++ b).getD i 0 = a.getD i 0 := by simp [List.getD, List.getElem?_append_left hi]
    rw [this]; exact ha i
  · have : (a ++ b).getD i 0 = b.getD (i - a.length) 0 := by simp [List.getD, List.getElem?_append_right (show a.length ≤ i by omega)]
    rw [this]; exact hb _

theorem byt_pre (xs : List It) : Byt (pre xs) := by
  induction xs with
  | nil => intro i; simp [pre]
  | cons x r ih =>
    have e : pre (x :: r) = encI x ++ pre r := by simp [pre]
    rw [e]
    exact byt_append (byt_encI x) ih

theorem pre_len {xs : List It} (h : IOk xs) (k : Nat) : (pre (xs.take k)).length ≤ 1048576 * k := by
  induction k with
  | zero => simp [pre]
  | succ k ih =>
    by_cases hk : k < xs.length
    · obtain ⟨x, hx⟩ : ∃ x, xs[k]? = some x := ⟨xs[k], by simp [hk]⟩
      rw [pre_take hx, List.length_append]
      have := encI_len x (h x (List.mem_of_getElem? hx)).2.2
      omega
    · have e1 : xs.take (k + 1) = xs := List.take_of_length_le (by omega)
      have e2 : xs.take k = xs := List.take_of_length_le (by omega)
      rw [e1]
      rw [e2] at ih
      omega

/-- The buffer that is long enough. -/
def Full (st : BSt) (xs : List It) (k : Nat) : Prop := st.e = 0 ∧ st.m = (pre xs).length ∧ st.l = pre (xs.take k)

theorem Full.step {st : BSt} {xs : List It} {k : Nat} {x : It} (h : Full st xs k) (hx : xs[k]? = some x) (h0 : -9223372036854775808 ≤ x.n) (h1 : x.n ≤ 9223372036854775807) : Full (putSt st x) xs (k + 1) := by
  obtain ⟨he, hm, hl⟩ := h
  have hlen : (pre (xs.take k)).length + (encI x).length ≤ (pre xs).length := by
    rw [pre_split xs (k + 1), pre_take hx]
    simp only [List.length_append]
    omega
  rw [putSt_eq h0 h1 he, if_neg (by rw [hm, hl]; omega)]
  exact ⟨he, hm, by rw [pre_take hx, ← hl]⟩

/-- The one that is a byte too short. -/
def Less (st : BSt) (xs : List It) (k : Nat) : Prop := st.e = 0 → st.l = pre (xs.take k) ∧ (st.l.length : Int) ≤ (pre xs).length - 1 ∧ st.m = (pre xs).length - 1

theorem Less.step {st : BSt} {xs : List It} {k : Nat} {x : It} (h : Less st xs k) (hx : xs[k]? = some x) (h0 : -9223372036854775808 ≤ x.n) (h1 : x.n ≤ 9223372036854775807) : Less (putSt st x) xs (k + 1) := by
  by_cases he : st.e = 0
  · obtain ⟨hl, hle, hm⟩ := h he
    rw [putSt_eq h0 h1 he]
    split
    · intro h2; simp at h2
    · rename_i hr
      intro _
      refine ⟨by rw [pre_take hx, ← hl], ?_, hm⟩
      simp only [List.length_append]
      omega
  · rw [putSt_id he]
    exact fun h2 => absurd h2 he

theorem putSt_len (st : BSt) (x : It) (hs : x.s.size ≤ 1048576) : (putSt st x).l.length ≤ st.l.length + 1048580 := by
  unfold putSt
  split
  · have := numSt_len st (fitN x) 1; omega
  · split
    · have := numSt_len st (fitN x) 2; omega
    · split
      · have := numSt_len st (fitN x) 4; omega
      · have := textSt_len st x.s; omega

def widthOf (x : It) : Int := (encI x).length

theorem widthOf_num {x : It} (h : x.w = 1 ∨ x.w = 2 ∨ x.w = 4) : widthOf x = x.w := by
  unfold widthOf encI
  rcases h with h | h | h <;> simp [h, length_bytesLE]

theorem widthOf_text {x : It} (h1 : ¬ x.w = 1) (h2 : ¬ x.w = 2) (h4 : ¬ x.w = 4) : widthOf x = x.s.size := by
  unfold widthOf encI
  rw [if_neg h1, if_neg h2, if_neg h4, length_strL]
end Go.Proofs.Ythjgabncifghaab
