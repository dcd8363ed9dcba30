import Derived.Test.YtncniahpglgkmaaG23Sm4
import Derived.Test.YtncniahpglgkmaaG24Sm5
import Derived.Test.YtncniahpglgkmaaG25Inw
namespace Go.Proofs.Ytncniahpglgkmaa
open Go.RowKit Go.Maps
set_option maxRecDepth 20000
set_option linter.unusedVariables false

theorem sym_all {w0 : World} {B c : Nat} {p : Value} {f : Int → Int} {D : Int → Prop} (hc : Cmp w0 B p f D) (N : Nat) : SymOk6 w0 B c p f D N := by
  induction N with
  | zero => intro w A U V Z X a m b hN _ _ _ _ _ _ _ h1; omega
  | succ N ih =>
    intro w A U V Z X a m b hN hX h hD hL ha hm hb h1 h2 hU hV hx
    by_cases c1 : U.length = 1
    · obtain ⟨x, rfl⟩ := List.length_eq_one_iff.1 c1
      have := sym1_any A V Z X x (by rw [hX]; simp [lft]) h hc hD hL a m b ha (by simp at hm; omega) (by simp at hm; omega) hV (fun v hv => hx x (by simp) v hv)
      simpa using this
    · by_cases c2 : V.length = 1
      · obtain ⟨y, rfl⟩ := List.length_eq_one_iff.1 c2
        exact sym2_any A U Z X y (by rw [hX]; simp [lft]) h hc hD hL a m b ha hm (by simp at hb; omega) (by omega) hU (fun u hu => hx u hu y (by simp))
      · by_cases c3 : (a + b) / 2 < m
        · exact sym_step1 hc N ih w A U V Z X a m b hN hX h hD hL ha hm hb (by omega) (by omega) hU hV hx c3
        · exact sym_step2 hc N ih w A U V Z X a m b hN hX h hD hL ha hm hb (by omega) (by omega) hU hV hx c3

/-- The segment from c on, d long. -/
def sg (X : List Int) (c d : Nat) : List Int := (X.drop c).take d

theorem sg_len (X : List Int) (c d : Nat) : (sg X c d).length = min d (X.length - c) := by simp [sg]

theorem sg_cut (X : List Int) (a d : Nat) : X = X.take a ++ (sg X a d ++ X.drop (a + d)) := by
  unfold sg
  rw [← List.drop_drop, List.take_append_drop, List.take_append_drop]

theorem sg_add (X : List Int) (a d e : Nat) : sg X a (d + e) = sg X a d ++ sg X (a + d) e := by
  unfold sg
  rw [← List.drop_drop, List.take_add]

theorem sg_left {X A Y Z : List Int} {c d : Nat} (h : c + d ≤ A.length) : sg (A ++ (Y ++ Z)) c d = sg A c d := by
  unfold sg
  rw [List.drop_append_of_le_length (by omega), List.take_append_of_le_length (by rw [List.length_drop]; omega)]

theorem sg_mid {A Y Z : List Int} : sg (A ++ (Y ++ Z)) A.length Y.length = Y := by
  unfold sg
  rw [List.drop_left, List.take_left]

theorem sg_right {A Y Z : List Int} {c d : Nat} (h : A.length + Y.length ≤ c) : sg (A ++ (Y ++ Z)) c d = sg Z (c - (A.length + Y.length)) d := by
  unfold sg
  have e : A ++ (Y ++ Z) = (A ++ Y) ++ Z := by simp
  rw [e, List.drop_append, List.drop_of_length_le (by simp; omega), List.nil_append, List.length_append]

/-- A segment in order, of what stood there at first. -/
structure Sok (f : Int → Int) (S X : List Int) (c d : Nat) : Prop where
  perm : (sg X c d).Perm (sg S c d)
  rise : (sg X c d).Pairwise (Lx f)

/-- Behind a change of [a, a + d) alone. -/
theorem sok_far {f : Int → Int} {S X T A Y C Z : List Int} {a d c e : Nat} (hX : X = A ++ (C ++ Z)) (hT : T = A ++ (Y ++ Z)) (hY : Y.length = C.length) (ha : a = A.length) (hd : d = C.length) (h : Sok f S X c e) (hf : c + e ≤ a ∨ a + d ≤ c) : Sok f S T c e := by
  have e1 : sg T c e = sg X c e := by
    rw [hX, hT]
    rcases hf with q | q
    · rw [sg_left (X := X) (by omega), sg_left (X := X) (by omega)]
    · rw [sg_right (by omega), sg_right (by omega), hY]
  exact ⟨by rw [e1]; exact h.perm, by rw [e1]; exact h.rise⟩

theorem sok_at {f : Int → Int} {S T A Y Z : List Int} {a d : Nat} (hT : T = A ++ (Y ++ Z)) (ha : a = A.length) (hd : d = Y.length) (hp : Y.Perm (sg S a d)) (hs : Y.Pairwise (Lx f)) : Sok f S T a d := by
  have e1 : sg T a d = Y := by rw [hT, ha, hd]; exact sg_mid
  exact ⟨by rw [e1]; exact hp, by rw [e1]; exact hs⟩

/-- Segments of the first list rise across their border. -/
theorem sg_cross {S : List Int} (h : S.Pairwise (· < ·)) {a d e : Nat} {x y : Int} (hx : x ∈ sg S a d) (hy : y ∈ sg S (a + d) e) : x < y := by
  have h1 : (sg S a (d + e)).Pairwise (· < ·) := (h.sublist (List.drop_sublist _ _)).sublist (List.take_sublist _ _)
  rw [sg_add, List.pairwise_append] at h1
  exact h1.2.2 x hx y hy

theorem sg_rise {S : List Int} (h : S.Pairwise (· < ·)) (a d : Nat) : (sg S a d).Pairwise (· < ·) := (h.sublist (List.drop_sublist _ _)).sublist (List.take_sublist _ _)
end Go.Proofs.Ytncniahpglgkmaa

namespace Go.Proofs.Ytncniahpglgkmaa
open Go.RowKit Go.Maps
set_option maxRecDepth 20000
set_option linter.unusedVariables false

theorem dvd_step {d a c : Nat} (hd : 0 < d) (ha : d ∣ a) (hc : d ∣ c) (h : c < a + d) : c < a ∨ c = a := by
  obtain ⟨k, rfl⟩ := ha
  obtain ⟨l, rfl⟩ := hc
  have h1 : d * l < d * (k + 1) := by rw [Nat.mul_add, Nat.mul_one]; exact h
  have h2 : l < k + 1 := Nat.lt_of_mul_lt_mul_left h1
  by_cases e : l = k
  · exact .inr (by rw [e])
  · exact .inl (Nat.mul_lt_mul_of_pos_left (by omega) hd)

theorem dvd_gap {d a c : Nat} (hd : 0 < d) (ha : d ∣ a) (hc : d ∣ c) (h : a < c) : a + d ≤ c := by
  obtain ⟨k, rfl⟩ := ha
  obtain ⟨l, rfl⟩ := hc
  have h2 : k < l := Nat.lt_of_mul_lt_mul_left h
  have : d * (k + 1) ≤ d * l := Nat.mul_le_mul_left _ h2
  rw [Nat.mul_add, Nat.mul_one] at this
  exact this

theorem sg_end {X : List Int} {c d : Nat} (h : X.length ≤ c) : sg X c d = [] := by
  unfold sg
  rw [List.drop_of_length_le h]
  simp

theorem sok_end {f : Int → Int} {S X : List Int} {c d : Nat} (hl : X.length = S.length) (h : X.length ≤ c) : Sok f S X c d := ⟨by rw [sg_end h, sg_end (by omega)], by rw [sg_end h]; exact List.Pairwise.nil⟩

/-- A piece of the row is written anew. -/
structure Pce (X T Y : List Int) (a d : Nat) : Prop where
  eq : T = X.take a ++ (Y ++ X.drop (a + d))
  len : Y.length = (sg X a d).length
  al : a ≤ X.length

theorem Pce.tl {X T Y : List Int} {a d : Nat} (h : Pce X T Y a d) : T.length = X.length := by
  rw [h.eq]
  have e := congrArg List.length (sg_cut X a d)
  simp only [List.length_append] at e ⊢
  rw [h.len]
  omega

theorem Pce.self {X T Y : List Int} {a d : Nat} (h : Pce X T Y a d) : sg T a d = Y := by
  have ha : (X.take a).length = a := by rw [List.length_take]; have := h.al; omega
  by_cases c : a + d ≤ X.length
  · have hl : Y.length = d := by rw [h.len, sg_len]; omega
    rw [h.eq]
    have := sg_mid (A := X.take a) (Y := Y) (Z := X.drop (a + d))
    rwa [ha, hl] at this
  · rw [h.eq, List.drop_of_length_le (by omega), List.append_nil]
    have hl : Y.length ≤ d := by rw [h.len, sg_len]; omega
    unfold sg
    conv => lhs; arg 2; arg 1; rw [← ha]
    rw [List.drop_left, List.take_of_length_le hl]

theorem Pce.far {X T Y : List Int} {a d c e : Nat} (h : Pce X T Y a d) (hf : c + e ≤ a ∨ a + d ≤ c) : sg T c e = sg X c e := by
  have ha : (X.take a).length = a := by rw [List.length_take]; have := h.al; omega
  have hX := sg_cut X a d
  rcases hf with q | q
  · rw [h.eq]
    conv => rhs; rw [hX]
    rw [sg_left (X := X) (by omega), sg_left (X := X) (by omega)]
  · rw [h.eq]
    conv => rhs; rw [hX]
    by_cases z : X.length ≤ c
    · rw [sg_end (by rw [← h.eq, h.tl]; exact z), sg_end (by rw [← hX]; exact z)]
    · have hl : Y.length = d := by rw [h.len, sg_len]; omega
      have hl2 : (sg X a d).length = d := by rw [sg_len]; omega
      rw [sg_right (by omega), sg_right (by omega), hl, hl2]

theorem Pce.sok {f : Int → Int} {S X T Y : List Int} {a d c e : Nat} (h : Pce X T Y a d) (hs : Sok f S X c e) (hf : c + e ≤ a ∨ a + d ≤ c) : Sok f S T c e := ⟨by rw [h.far hf]; exact hs.perm, by rw [h.far hf]; exact hs.rise⟩

/-- Merging under way: up to a in pairs, from a on in single blocks. -/
structure Bst (f : Int → Int) (S X : List Int) (bs a : Nat) : Prop where
  len : X.length = S.length
  dv : 2 * bs ∣ a
  low : ∀ c, c < a → 2 * bs ∣ c → Sok f S X c (2 * bs)
  high : ∀ c, a ≤ c → bs ∣ c → Sok f S X c bs

theorem bs_dvd {bs a : Nat} (h : 2 * bs ∣ a) : bs ∣ a := Nat.dvd_trans (Nat.dvd_mul_left bs 2) h

theorem bst_in {f : Int → Int} {S X : List Int} {bs a : Nat} (hS : S.Pairwise (· < ·)) (h : Bst f S X bs a) : (sg X a bs).Pairwise (Lx f) ∧ (sg X (a + bs) bs).Pairwise (Lx f) ∧ ∀ u ∈ sg X a bs, ∀ v ∈ sg X (a + bs) bs, f u = f v → u < v := by
  have h1 := h.high a (Nat.le_refl _) (bs_dvd h.dv)
  have h2 := h.high (a + bs) (by omega) ((Nat.dvd_add_iff_left (Nat.dvd_refl bs)).1 (bs_dvd h.dv))
  exact ⟨h1.rise, h2.rise, fun u hu v hv _ => sg_cross hS (h1.perm.subset hu) (h2.perm.subset hv)⟩

theorem bst_next {f : Int → Int} {S X T Y : List Int} {bs a : Nat} (hbs : 0 < bs) (h : Bst f S X bs a) (hp : Pce X T Y a (2 * bs)) (hy : Y.Perm (sg X a bs ++ sg X (a + bs) bs)) (hs : Y.Pairwise (Lx f)) : Bst f S T bs (a + 2 * bs) := by
  have h1 := h.high a (Nat.le_refl _) (bs_dvd h.dv)
  have h2 := h.high (a + bs) (by omega) ((Nat.dvd_add_iff_left (Nat.dvd_refl bs)).1 (bs_dvd h.dv))
  refine ⟨by rw [hp.tl]; exact h.len, (Nat.dvd_add_iff_left (Nat.dvd_refl _)).1 h.dv, fun c hc hd => ?_, fun c hc hd => hp.sok (h.high c (by omega) hd) (.inr hc)⟩
  rcases dvd_step (by omega) h.dv hd hc with q | q
  · exact hp.sok (h.low c q hd) (.inl (dvd_gap (by omega) hd h.dv q))
  · subst q
    refine ⟨?_, by rw [hp.self]; exact hs⟩
    rw [hp.self, show 2 * bs = bs + bs by omega, sg_add]
    exact hy.trans (h1.perm.append h2.perm)

theorem bst_skip {f : Int → Int} {S X : List Int} {bs a : Nat} (hbs : 0 < bs) (h : Bst f S X bs a) (hn : X.length ≤ a + bs) : Bst f S X bs (a + 2 * bs) := by
  have h1 := h.high a (Nat.le_refl _) (bs_dvd h.dv)
  refine ⟨h.len, (Nat.dvd_add_iff_left (Nat.dvd_refl _)).1 h.dv, fun c hc hd => ?_, fun c hc hd => h.high c (by omega) hd⟩
  rcases dvd_step (by omega) h.dv hd hc with q | q
  · exact h.low c q hd
  · subst q
    have e1 : sg X c (2 * bs) = sg X c bs := by rw [show 2 * bs = bs + bs by omega, sg_add, sg_end hn, List.append_nil]
    have e2 : sg S c (2 * bs) = sg S c bs := by rw [show 2 * bs = bs + bs by omega, sg_add, sg_end (X := S) (c := c + bs) (by rw [← h.len]; exact hn), List.append_nil]
    exact ⟨by rw [e1, e2]; exact h1.perm, by rw [e1]; exact h1.rise⟩

theorem bst_end {f : Int → Int} {S X : List Int} {bs a : Nat} (h : Bst f S X bs a) (hn : X.length ≤ a) : Bst f S X (2 * bs) 0 := by
  refine ⟨h.len, Nat.dvd_zero _, fun c hc => by omega, fun c _ hd => ?_⟩
  by_cases q : c < a
  · exact h.low c q hd
  · exact sok_end h.len (by omega)

theorem bst_done {f : Int → Int} {S X : List Int} {bs : Nat} (h : Bst f S X bs 0) (hn : X.length ≤ bs) : X.Perm S ∧ X.Pairwise (Lx f) := by
  have h1 := h.high 0 (Nat.le_refl _) (Nat.dvd_zero _)
  have e : ∀ l : List Int, l.length ≤ bs → sg l 0 bs = l := fun l hl => by unfold sg; rw [List.drop_zero, List.take_of_length_le hl]
  have p := h1.perm
  have r := h1.rise
  rw [e X hn, e S (by rw [← h.len]; exact hn)] at p
  rw [e X hn] at r
  exact ⟨p, r⟩

/-- Blocks of 20 under way. -/
structure Bk1 (f : Int → Int) (S X : List Int) (a : Nat) : Prop where
  len : X.length = S.length
  dv : 20 ∣ a
  low : ∀ c, c < a → 20 ∣ c → Sok f S X c 20
  high : X.drop a = S.drop a

theorem bk1_next {f : Int → Int} {S X T Y : List Int} {a : Nat} (h : Bk1 f S X a) (hp : Pce X T Y a 20) (hy : Y.Perm (sg X a 20)) (hs : Y.Pairwise (Lx f)) : Bk1 f S T (a + 20) := by
  have e : sg X a 20 = sg S a 20 := by unfold sg; rw [h.high]
  refine ⟨by rw [hp.tl]; exact h.len, (Nat.dvd_add_iff_left (Nat.dvd_refl _)).1 h.dv, fun c hc hd => ?_, ?_⟩
  · rcases dvd_step (by omega) h.dv hd hc with q | q
    · exact hp.sok (h.low c q hd) (.inl (dvd_gap (by omega) hd h.dv q))
    · subst q
      exact ⟨by rw [hp.self, ← e]; exact hy, by rw [hp.self]; exact hs⟩
  · have hx : X.drop (a + 20) = S.drop (a + 20) := by rw [← List.drop_drop, ← List.drop_drop, h.high]
    rw [← hx, hp.eq]
    have ha : (X.take a).length = a := by rw [List.length_take]; have := hp.al; omega
    by_cases z : a + 20 ≤ X.length
    · have hl : Y.length = 20 := by rw [hp.len, sg_len]; omega
      have e2 : X.take a ++ (Y ++ X.drop (a + 20)) = (X.take a ++ Y) ++ X.drop (a + 20) := by simp
      rw [e2]
      have e3 : a + 20 = (X.take a ++ Y).length := by rw [List.length_append, ha, hl]
      conv => lhs; arg 1; rw [e3]
      exact List.drop_left
    · have hz : X.drop (a + 20) = [] := List.drop_of_length_le (by omega)
      rw [hz, List.append_nil, List.drop_of_length_le]
      have := hp.tl
      rw [hp.eq, hz, List.append_nil] at this
      omega

theorem bk1_end {f : Int → Int} {S X : List Int} {a : Nat} (h : Bk1 f S X a) (hn : X.length ≤ a) : Bst f S X 20 0 := by
  refine ⟨h.len, Nat.dvd_zero _, fun c hc => by omega, fun c _ hd => ?_⟩
  by_cases q : c < a
  · exact h.low c q hd
  · exact sok_end h.len (by omega)

/-- A merge's answer, as a piece. -/
theorem mrg_pce {w0 w : World} {B c : Nat} {f : Int → Int} {X C Z : List Int} {a d : Nat} (h : Mrg w0 w B c (X.take a) C Z f) (hZ : Z = X.drop (a + d)) (hC : C.length = (sg X a d).length) (hal : a ≤ X.length) : ∃ Y T, Pce X T Y a d ∧ Y.Perm C ∧ Y.Pairwise (Lx f) ∧ Srow w0 w B c T := by
  obtain ⟨Y, T, e, p, s, r⟩ := h
  exact ⟨Y, T, ⟨by rw [e, hZ], by rw [p.length_eq, hC], hal⟩, p, s, r⟩
end Go.Proofs.Ytncniahpglgkmaa

