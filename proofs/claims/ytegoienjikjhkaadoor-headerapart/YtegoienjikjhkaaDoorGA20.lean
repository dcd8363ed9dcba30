import Derived.Test.YtegoienjikjhkaaDoorGA19
import Derived.Test.YtegoienjikjhkaaDoorGA11
namespace Go.Proofs.YtegoienjikjhkaaDoor
open Go.RowKit Go.Maps
set_option maxRecDepth 20000
set_option linter.unusedVariables false

theorem dvd_step {d a c : Nat} (hd : 0 < d) (ha : d ∣ a) (hc : d ∣ c) (h : c < a + d) : c < a ∨ c = a := by
  obtain ⟨k, rfl⟩ := ha
  obtain ⟨l, rfl⟩ := hc
  have h1 : d * l < d * (k + 1) := by rw [Nat.mul_add, Nat.mul_one]; exact h
  have h2 : l < k + 1 := Nat.lt_of_mul_lt_mul_left h1
  by_cases e : l = k
  · exact .inr (by rw [e])
  · exact .inl (Nat.mul_lt_mul_of_pos_left (by omega) hd)

theorem dvd_gap {d a c : Nat} (hd : 0 < d) (ha : d ∣ a) (hc : d ∣ c) (h : a < c) : a + d ≤ c := by
  obtain ⟨k, rfl⟩ := ha
  obtain ⟨l, rfl⟩ := hc
  have h2 : k < l := Nat.lt_of_mul_lt_mul_left h
  have : d * (k + 1) ≤ d * l := Nat.mul_le_mul_left _ h2
  rw [Nat.mul_add, Nat.mul_one] at this
  exact this

theorem sg_end {X : List Int} {c d : Nat} (h : X.length ≤ c) : sg X c d = [] := by
  unfold sg
  rw [List.drop_of_length_le h]
  simp

theorem sok_end {f : Int → Int} {S X : List Int} {c d : Nat} (hl : X.length = S.length) (h : X.length ≤ c) : Sok f S X c d := ⟨by rw [sg_end h, sg_end (by omega)], by rw [sg_end h]; exact List.Pairwise.nil⟩

/-- A piece of the row is written anew. -/
structure Pce (X T Y : List Int) (a d : Nat) : Prop where
  eq : T = X.take a ++ (Y ++ X.drop (a + d))
  len : Y.length = (sg X a d).length
  al : a ≤ X.length

theorem Pce.tl {X T Y : List Int} {a d : Nat} (h : Pce X T Y a d) : T.length = X.length := by
  rw [h.eq]
  have e := congrArg List.length (sg_cut X a d)
  simp only [List.length_append] at e ⊢
  rw [h.len]
  omega

theorem Pce.self {X T Y : List Int} {a d : Nat} (h : Pce X T Y a d) : sg T a d = Y := by
  have ha : (X.take a).length = a := by rw [List.length_take]; have := h.al; omega
  by_cases c : a + d ≤ X.length
  · have hl : Y.length = d := by rw [h.len, sg_len]; omega
    rw [h.eq]
    have := sg_mid (A := X.take a) (Y := Y) (Z := X.drop (a + d))
    rwa [ha, hl] at this
  · rw [h.eq, List.drop_of_length_le (by omega), List.append_nil]
    have hl : Y.length ≤ d := by rw [h.len, sg_len]; omega
    unfold sg
    conv => lhs; arg 2; arg 1; rw [← ha]
    rw [List.drop_left, List.take_of_length_le hl]

theorem Pce.far {X T Y : List Int} {a d c e : Nat} (h : Pce X T Y a d) (hf : c + e ≤ a ∨ a + d ≤ c) : sg T c e = sg X c e := by
  have ha : (X.take a).length = a := by rw [List.length_take]; have := h.al; omega
  have hX := sg_cut X a d
  rcases hf with q | q
  · rw [h.eq]
    conv => rhs; rw [hX]
    rw [sg_left (X := X) (by omega), sg_left (X := X) (by omega)]
  · rw [h.eq]
    conv => rhs; rw [hX]
    by_cases z : X.length ≤ c
    · rw [sg_end (by rw [← h.eq, h.tl]; exact z), sg_end (by rw [← hX]; exact z)]
    · have hl : Y.length = d := by rw [h.len, sg_len]; omega
      have hl2 : (sg X a d).length = d := by rw [sg_len]; omega
      rw [sg_right (by omega), sg_right (by omega), hl, hl2]

theorem Pce.sok {f : Int → Int} {S X T Y : List Int} {a d c e : Nat} (h : Pce X T Y a d) (hs : Sok f S X c e) (hf : c + e ≤ a ∨ a + d ≤ c) : Sok f S T c e := ⟨by rw [h.far hf]; exact hs.perm, by rw [h.far hf]; exact hs.rise⟩

/-- Merging under way: up to a in pairs, from a on in single blocks. -/
structure Bst (f : Int → Int) (S X : List Int) (bs a : Nat) : Prop where
  len : X.length = S.length
  dv : 2 * bs ∣ a
  low : ∀ c, c < a → 2 * bs ∣ c → Sok f S X c (2 * bs)
  high : ∀ c, a ≤ c → bs ∣ c → Sok f S X c bs

theorem bs_dvd {bs a : Nat} (h : 2 * bs ∣ a) : bs ∣ a := Nat.dvd_trans (Nat.dvd_mul_left bs 2) h

theorem bst_in {f : Int → Int} {S X : List Int} {bs a : Nat} (hS : S.Pairwise (· < ·)) (h : Bst f S X bs a) : (sg X a bs).Pairwise (Lx f) ∧ (sg X (a + bs) bs).Pairwise (Lx f) ∧ ∀ u ∈ sg X a bs, ∀ v ∈ sg X (a + bs) bs, f u = f v → u < v := by
  have h1 := h.high a (Nat.le_refl _) (bs_dvd h.dv)
  have h2 := h.high (a + bs) (by omega) ((Nat.dvd_add_iff_left (Nat.dvd_refl bs)).1 (bs_dvd h.dv))
  exact ⟨h1.rise, h2.rise, fun u hu v hv _ => sg_cross hS (h1.perm.subset hu) (h2.perm.subset hv)⟩

theorem bst_next {f : Int → Int} {S X T Y : List Int} {bs a : Nat} (hbs : 0 < bs) (h : Bst f S X bs a) (hp : Pce X T Y a (2 * bs)) (hy : Y.Perm (sg X a bs ++ sg X (a + bs) bs)) (hs : Y.Pairwise (Lx f)) : Bst f S T bs (a + 2 * bs) := by
  have h1 := h.high a (Nat.le_refl _) (bs_dvd h.dv)
  have h2 := h.high (a + bs) (by omega) ((Nat.dvd_add_iff_left (Nat.dvd_refl bs)).1 (bs_dvd h.dv))
  refine ⟨by rw [hp.tl]; exact h.len, (Nat.dvd_add_iff_left (Nat.dvd_refl _)).1 h.dv, fun c hc hd => ?_, fun c hc hd => hp.sok (h.high c (by omega) hd) (.inr hc)⟩
  rcases dvd_step (by omega) h.dv hd hc with q | q
  · exact hp.sok (h.low c q hd) (.inl (dvd_gap (by omega) hd h.dv q))
  · subst q
    refine ⟨?_, by rw [hp.self]; exact hs⟩
    rw [hp.self, show 2 * bs = bs + bs by omega, sg_add]
    exact hy.trans (h1.perm.append h2.perm)

theorem bst_skip {f : Int → Int} {S X : List Int} {bs a : Nat} (hbs : 0 < bs) (h : Bst f S X bs a) (hn : X.length ≤ a + bs) : Bst f S X bs (a + 2 * bs) := by
  have h1 := h.high a (Nat.le_refl _) (bs_dvd h.dv)
  refine ⟨h.len, (Nat.dvd_add_iff_left (Nat.dvd_refl _)).1 h.dv, fun c hc hd => ?_, fun c hc hd => h.high c (by omega) hd⟩
  rcases dvd_step (by omega) h.dv hd hc with q | q
  · exact h.low c q hd
  · subst q
    have e1 : sg X c (2 * bs) = sg X c bs := by rw [show 2 * bs = bs + bs by omega, sg_add, sg_end hn, List.append_nil]
    have e2 : sg S c (2 * bs) = sg S c bs := by rw [show 2 * bs = bs + bs by omega, sg_add, sg_end (X := S) (c := c + bs) (by rw [← h.len]; exact hn), List.append_nil]
    exact ⟨by rw [e1, e2]; exact h1.perm, by rw [e1]; exact h1.rise⟩

theorem bst_end {f : Int → Int} {S X : List Int} {bs a : Nat} (h : Bst f S X bs a) (hn : X.length ≤ a) : Bst f S X (2 * bs) 0 := by
  refine ⟨h.len, Nat.dvd_zero _, fun c hc => by omega, fun c _ hd => ?_⟩
  by_cases q : c < a
  · exact h.low c q hd
  · exact sok_end h.len (by omega)

theorem bst_done {f : Int → Int} {S X : List Int} {bs : Nat} (h : Bst f S X bs 0) (hn : X.length ≤ bs) : X.Perm S ∧ X.Pairwise (Lx f) := by
  have h1 := h.high 0 (Nat.le_refl _) (Nat.dvd_zero _)
  have e : ∀ l : List Int, l.length ≤ bs → sg l 0 bs = l := fun l hl => by unfold sg; rw [List.drop_zero, List.take_of_length_le hl]
  have p := h1.perm
  have r := h1.rise
  rw [e X hn, e S (by rw [← h.len]; exact hn)] at p
  rw [e X hn] at r
  exact ⟨p, r⟩

/-- Blocks of 20 under way. -/
structure Bk1 (f : Int → Int) (S X : List Int) (a : Nat) : Prop where
  len : X.length = S.length
  dv : 20 ∣ a
  low : ∀ c, c < a → 20 ∣ c → Sok f S X c 20
  high : X.drop a = S.drop a

theorem bk1_next {f : Int → Int} {S X T Y : List Int} {a : Nat} (h : Bk1 f S X a) (hp : Pce X T Y a 20) (hy : Y.Perm (sg X a 20)) (hs : Y.Pairwise (Lx f)) : Bk1 f S T (a + 20) := by
  have e : sg X a 20 = sg S a 20 := by unfold sg; rw [h.high]
  refine ⟨by rw [hp.tl]; exact h.len, (Nat.dvd_add_iff_left (Nat.dvd_refl _)).1 h.dv, fun c hc hd => ?_, ?_⟩
  · rcases dvd_step (by omega) h.dv hd hc with q | q
    · exact hp.sok (h.low c q hd) (.inl (dvd_gap (by omega) hd h.dv q))
    · subst q
      exact ⟨by rw [hp.self, ← e]; exact hy, by rw [hp.self]; exact hs⟩
  · have hx : X.drop (a + 20) = S.drop (a + 20) := by rw [← List.drop_drop, ← List.drop_drop, h.high]
    rw [← hx, hp.eq]
    have ha : (X.take a).length = a := by rw [List.length_take]; have := hp.al; omega
    by_cases z : a + 20 ≤ X.length
    · have hl : Y.length = 20 := by rw [hp.len, sg_len]; omega
      have e2 : X.take a ++ (Y ++ X.drop (a + 20)) = (X.take a ++ Y) ++ X.drop (a + 20) := by simp
      rw [e2]
      have e3 : a + 20 = (X.take a ++ Y).length := by rw [List.length_append, ha, hl]
      conv => lhs; arg 1; rw [e3]
      exact List.drop_left
    · have hz : X.drop (a + 20) = [] := List.drop_of_length_le (by omega)
      rw [hz, List.append_nil, List.drop_of_length_le]
      have := hp.tl
      rw [hp.eq, hz, List.append_nil] at this
      omega

theorem bk1_end {f : Int → Int} {S X : List Int} {a : Nat} (h : Bk1 f S X a) (hn : X.length ≤ a) : Bst f S X 20 0 := by
  refine ⟨h.len, Nat.dvd_zero _, fun c hc => by omega, fun c _ hd => ?_⟩
  by_cases q : c < a
  · exact h.low c q hd
  · exact sok_end h.len (by omega)

/-- A merge's answer, as a piece. -/
theorem mrg_pce {w0 w : World} {B c : Nat} {f : Int → Int} {X C Z : List Int} {a d : Nat} (h : Mrg w0 w B c (X.take a) C Z f) (hZ : Z = X.drop (a + d)) (hC : C.length = (sg X a d).length) (hal : a ≤ X.length) : ∃ Y T, Pce X T Y a d ∧ Y.Perm C ∧ Y.Pairwise (Lx f) ∧ Srow w0 w B c T := by
  obtain ⟨Y, T, e, p, s, r⟩ := h
  exact ⟨Y, T, ⟨by rw [e, hZ], by rw [p.length_eq, hC], hal⟩, p, s, r⟩
end Go.Proofs.YtegoienjikjhkaaDoor

namespace Go.Proofs.YtegoienjikjhkaaDoor
open Go.RowKit Go.Maps
set_option maxRecDepth 20000
set_option linter.unusedVariables false

/-- Sorted: a row of what stood there, in order. -/
def Std (w0 w' : World) (B c : Nat) (S : List Int) (f : Int → Int) : Prop := ∃ X, X.Perm S ∧ X.Pairwise (Lx f) ∧ Srow w0 w' B c X

theorem perm_all {D : Int → Prop} {S T : List Int} (hS : ∀ y ∈ S, D y) (h : ∀ y ∈ T, y ∈ S) : ∀ y ∈ T, D y := fun y hy => hS y (h y hy)

/-- What the row holds stays what it held. -/
structure Row1 (w0 w : World) (B c : Nat) (D : Int → Prop) (L : Nat) (X : List Int) : Prop where
  row : Srow w0 w B c X
  dom : ∀ y ∈ X, D y
  len : X.length = L

theorem Row1.next {w0 w w' : World} {B c L : Nat} {D : Int → Prop} {X T Y C : List Int} {a d : Nat} (h : Row1 w0 w B c D L X) (hp : Pce X T Y a d) (hy : Y.Perm C) (hC : ∀ y ∈ C, y ∈ X) (hr : Srow w0 w' B c T) : Row1 w0 w' B c D L T := by
  refine ⟨hr, fun y hm => ?_, hp.tl.trans h.len⟩
  rw [hp.eq] at hm
  rcases List.mem_append.1 hm with q | q
  · exact h.dom y (List.mem_of_mem_take q)
  · rcases List.mem_append.1 q with q | q
    · exact h.dom y (hC y (hy.subset q))
    · exact h.dom y (List.mem_of_mem_drop q)

theorem sg_mem {X : List Int} {a d : Nat} {y : Int} (h : y ∈ sg X a d) : y ∈ X := List.mem_of_mem_drop (List.mem_of_mem_take h)

/-- A block of 20 (or what is left). -/
theorem blk_call {w0 w : World} {B c L : Nat} {p : Value} {f : Int → Int} {D : Int → Prop} {S X : List Int} (hS : S.Pairwise (· < ·)) (hc : Cmp w0 B p f D) (h : Row1 w0 w B c D L X) (hk : ∃ a, Bk1 f S X a ∧ True) (a b : Nat) (hb1 : Bk1 f S X a) (hL : L ≤ 288) (ha : a ≤ L) (hb : b = min (a + 20) L) :
    Calls Tryd.prog 89 #[.slice (some ⟨B, 0, none⟩) L c, .int .i64 a, .int .i64 b, .func (.func 64) #[] #[p]] w fun e w' => e = .returned (.tuple #[]) ∧ ∃ T, Row1 w0 w' B c D L T ∧ Bk1 f S T (a + 20) := by
  have hXl := h.len
  have e : sg X a 20 = sg S a 20 := by unfold sg; rw [hb1.high]
  have hla : (X.take a).length = a := by rw [List.length_take]; omega
  have := ins_any (X.take a) (sg X a 20) (X.drop (a + 20)) X (sg_cut X a 20) h.row hc h.dom (by omega) a b hla.symm (by rw [hla, sg_len]; omega) (by rw [e]; exact sg_rise hS a 20)
  rw [hXl] at this
  refine this.mono fun e w' ⟨he, hm⟩ => ⟨he, ?_⟩
  obtain ⟨Y, T, hp, hy, hs, hr⟩ := mrg_pce hm rfl rfl (by omega)
  exact ⟨T, h.next hp hy (fun y q => sg_mem q) hr, bk1_next hb1 hp hy hs⟩

/-- Two blocks become one. -/
theorem mrg_call {w0 w : World} {B c L : Nat} {p : Value} {f : Int → Int} {D : Int → Prop} {S X : List Int} (hS : S.Pairwise (· < ·)) (hc : Cmp w0 B p f D) (h : Row1 w0 w B c D L X) (a m b bs : Nat) (hbs : 0 < bs) (hb1 : Bst f S X bs a) (hL : L ≤ 288) (hm : m = a + bs) (hmL : m < L) (hb : b = min (a + 2 * bs) L) :
    Calls Tryd.prog 90 #[.slice (some ⟨B, 0, none⟩) L c, .int .i64 a, .int .i64 m, .int .i64 b, .func (.func 64) #[] #[p]] w fun e w' => e = .returned (.tuple #[]) ∧ ∃ T, Row1 w0 w' B c D L T ∧ Bst f S T bs (a + 2 * bs) := by
  have hXl := h.len
  obtain ⟨hU, hV, hx⟩ := bst_in hS hb1
  have hla : (X.take a).length = a := by rw [List.length_take]; omega
  have lU : (sg X a bs).length = bs := by rw [sg_len]; omega
  have lV : (sg X (a + bs) bs).length = b - m := by rw [sg_len]; omega
  have e : sg X a (2 * bs) = sg X a bs ++ sg X (a + bs) bs := by rw [show 2 * bs = bs + bs by omega, sg_add]
  have hX : X = X.take a ++ (sg X a bs ++ (sg X (a + bs) bs ++ X.drop (a + 2 * bs))) := by
    have := sg_cut X a (2 * bs)
    rw [e] at this
    simpa using this
  have := sym_all (c := c) hc (X.length) w (X.take a) (sg X a bs) (sg X (a + bs) bs) (X.drop (a + 2 * bs)) X a m b (by rw [lU, lV]; omega) hX h.row h.dom (by omega) hla.symm (by rw [hla, lU]; exact hm) (by rw [lV]; omega) (by omega) (by rw [lV]; omega) hU hV hx
  rw [hXl] at this
  refine this.mono fun e' w' ⟨he, hm'⟩ => ⟨he, ?_⟩
  obtain ⟨Y, T, hp, hy, hs, hr⟩ := mrg_pce (d := 2 * bs) hm' rfl (by rw [e]) (by omega)
  refine ⟨T, h.next hp hy (fun y q => ?_) hr, bst_next hbs hb1 hp hy hs⟩
  rcases List.mem_append.1 q with q | q
  · exact sg_mem q
  · exact sg_mem q

set_option maxHeartbeats 4000000 in
theorem stab_any {w0 w : World} {B c : Nat} {p : Value} {f : Int → Int} {D : Int → Prop} (S : List Int) (hS : S.Pairwise (· < ·)) (h : Srow w0 w B c S) (hc : Cmp w0 B p f D) (hD : ∀ y ∈ S, D y) (hL : S.length ≤ 288) :
    Calls Tryd.prog 80 #[.slice (some ⟨B, 0, none⟩) S.length c, .int .i64 S.length, .func (.func 64) #[] #[p]] w fun e w' => e = .returned (.tuple #[]) ∧ Std w0 w' B c S f := by
  obtain ⟨L, HLL⟩ : ∃ L, Hid (L = S.length) := ⟨_, rfl⟩
  have HSS := hide hS
  have HCM := hide hc
  have HK0 : Hid (∃ X, Row1 w0 w B c D L X ∧ Bk1 f S X 0) := ⟨S, ⟨h, hD, HLL.out.symm⟩, rfl, Nat.dvd_zero _, (fun c hc => by omega), rfl⟩
  rw [← HLL.out] at hL ⊢
  clear h hc hD hS
  go_enter Tryd.func80, Tryd.ntmps80
  go_wp2
  go_loopw [7, 8] (fun va vb wr => ∃ a : Nat, a ≤ L ∧ va = .int .i64 a ∧ vb = .int .i64 ((a : Int) + 20) ∧ Hid (∃ X, Row1 w0 wr B c D L X ∧ Bk1 f S X a)) (fun va _ _ => L - (intOf va).toNat)
  case atStart => exact ⟨0, Nat.zero_le _, rfl, by go_num, HK0⟩
  case round =>
    obtain ⟨a, haL, rfl, rfl, HK⟩ := hrel
    obtain ⟨X, hr, hk⟩ := HK.out
    by_cases hlt : a + 20 ≤ L
    · have hlt' : (a : Int) + 20 ≤ (L : Int) := by omega
      have HC := hide (blk_call HSS.out HCM.out hr ⟨a, hk, trivial⟩ a (a + 20) hk hL haL (by omega))
      have hcast : ((a + 20 : Nat) : Int) = (a : Int) + 20 := by omega
      rw [hcast] at HC
      clear hr hk HK hcast
      go_wp2_with fail
      refine HC.out.mono ?_
      rintro e w2 ⟨rfl, hT⟩
      have HT := hide hT
      clear hT
      have hcc : ((a : Int) + 20) + 20 = (a : Int) + 40 := by omega
      go_wp2
      go_roundw
      case rel => exact ⟨a + 20, hlt, by go_num, by go_num, HT⟩
      case measure => simp [intOf]; omega
    · have hlt' : ¬ (a : Int) + 20 ≤ (L : Int) := by omega
      have HC := hide (blk_call HSS.out HCM.out hr ⟨a, hk, trivial⟩ a L hk hL haL (by omega))
      clear hr hk HK
      go_wp2_with fail
      refine HC.out.mono ?_
      rintro e w2 ⟨rfl, hT⟩
      have HB0 : Hid (∃ X, Row1 w0 w2 B c D L X ∧ Bst f S X 20 0) := by
        obtain ⟨T, h1, h2⟩ := hT
        exact ⟨T, h1, bk1_end h2 (by rw [h1.len]; omega)⟩
      clear hT HC
      go_wp2
      go_loopw [6] (fun vb wr => ∃ bs : Nat, 20 ≤ bs ∧ bs ≤ 600 ∧ vb = .int .i64 bs ∧ Hid (∃ X, Row1 w0 wr B c D L X ∧ Bst f S X bs 0)) (fun vb _ => 1000 - (intOf vb).toNat)
      case atStart => exact ⟨20, Nat.le_refl _, by omega, rfl, HB0⟩
      case round =>
        obtain ⟨bs, hb20, hb6, rfl, HB⟩ := hrel
        by_cases hbl : bs < L
        · have hbl' : (bs : Int) < (L : Int) := by omega
          have hw2 : (2 : Int) * (bs : Int) = ((2 * bs : Nat) : Int) := by omega
          obtain ⟨d, hd⟩ : ∃ d, d = 2 * bs := ⟨_, rfl⟩
          have hd1 : (2 : Int) * (bs : Int) = (d : Int) := by omega
          have hd2 : (bs : Int) * 2 = (d : Int) := by omega
          have hd3 : 2 * bs ≤ d ∧ d ≤ 2 * bs := by omega
          have HD := hide hd
          clear hw2 hd
          go_wp2
          go_loopw [7, 8] (fun va vb wr => ∃ a : Nat, a ≤ L ∧ va = .int .i64 a ∧ vb = .int .i64 ((a : Int) + d) ∧ Hid (∃ X, Row1 w0 wr B c D L X ∧ Bst f S X bs a)) (fun va _ _ => L - (intOf va).toNat)
          case atStart => exact ⟨0, Nat.zero_le _, rfl, by go_num, HB⟩
          case round =>
            obtain ⟨a, haL2, rfl, rfl, HK⟩ := hrel
            obtain ⟨X, hr, hk⟩ := HK.out
            by_cases hle : a + d ≤ L
            · have hle' : (a : Int) + d ≤ (L : Int) := by omega
              have HC := hide (mrg_call HSS.out HCM.out hr a (a + bs) (a + d) bs (by omega) hk hL rfl (by omega) (by omega))
              rw [← HD.out] at HC
              have c1 : ((a + bs : Nat) : Int) = (a : Int) + bs := by omega
              have c2 : ((a + d : Nat) : Int) = (a : Int) + d := by omega
              rw [c1, c2] at HC
              clear hr hk HK c1 c2
              go_wp2_with fail
              refine HC.out.mono ?_
              rintro e w3 ⟨rfl, hT⟩
              have HT := hide hT
              clear hT
              go_wp2
              go_roundw
              case rel => exact ⟨a + d, hle, by go_num, by go_num, HT⟩
              case measure => simp [intOf]; omega
            · have hle' : ¬ (a : Int) + d ≤ (L : Int) := by omega
              by_cases hmm : a + bs < L
              · have hmm' : (a : Int) + bs < (L : Int) := by omega
                have HC := hide (mrg_call HSS.out HCM.out hr a (a + bs) L bs (by omega) hk hL rfl hmm (by omega))
                have c1 : ((a + bs : Nat) : Int) = (a : Int) + bs := by omega
                rw [c1] at HC
                clear hr hk HK c1
                go_wp2_with fail
                refine HC.out.mono ?_
                rintro e w3 ⟨rfl, hT⟩
                have HT : Hid (∃ X, Row1 w0 w3 B c D L X ∧ Bst f S X d 0) := by
                  obtain ⟨T, h1, h2⟩ := hT
                  rw [HD.out]
                  exact ⟨T, h1, bst_end h2 (by rw [h1.len]; omega)⟩
                clear hT
                go_wp2
                go_roundw
                case rel => exact ⟨d, by omega, by omega, by go_num, HT⟩
                case measure => simp [intOf]; omega
              · have hmm' : ¬ (a : Int) + bs < (L : Int) := by omega
                have HT : Hid (∃ X, Row1 w0 wr B c D L X ∧ Bst f S X d 0) := by
                  rw [HD.out]
                  exact ⟨X, hr, bst_end (bst_skip (by omega) hk (by rw [hr.len]; omega)) (by rw [hr.len]; omega)⟩
                clear hr hk HK
                go_wp2
                go_roundw
                case rel => exact ⟨d, by omega, by omega, by go_num, HT⟩
                case measure => simp [intOf]; omega
        · have hbl' : ¬ (bs : Int) < (L : Int) := by omega
          have HF : Hid (Std w0 wr B c S f) := by
            obtain ⟨X, h1, h2⟩ := HB.out
            obtain ⟨p1, p2⟩ := bst_done h2 (by rw [h1.len]; omega)
            exact ⟨X, p1, p2, h1.row⟩
          go_wp2
          (try simp only [Exit.inBlock, Exit.then])
          refine bodyPost_end (results_none rfl _ _ _) rfl ?_
          exact ⟨rfl, HF.out⟩
end Go.Proofs.YtegoienjikjhkaaDoor

namespace Go.Proofs.YtegoienjikjhkaaDoor
open Go.RowKit Go.Maps
set_option maxRecDepth 20000
set_option linter.unusedVariables false

theorem isNaN_any (w : World) (x : Int) : Calls Tryd.prog 81 #[.int .i64 x] w fun e w' => e = .returned (.bool false) ∧ w' = w := by
  have h : (x != x) = false := by simp
  go_enter Tryd.func81, Tryd.ntmps81
  go_wp2
  go_ret
  exact ⟨by simp, rfl⟩

theorem cmpI_any (w : World) (x y : Int) : Calls Tryd.prog 65 #[.int .i64 x, .int .i64 y] w fun e w' => e = .returned (.int .i64 (cmpv x y)) ∧ w' = w := by
  by_cases h1 : x < y
  · have HE : Hid (cmpv x y = -1) := if_pos h1
    rw [HE.out]
    go_enter Tryd.func65, Tryd.ntmps65
    go_wp2_with fail
    refine (isNaN_any _ x).mono ?_
    rintro e w1 ⟨rfl, rfl⟩
    go_wp2_with fail
    refine (isNaN_any _ y).mono ?_
    rintro e w2 ⟨rfl, rfl⟩
    go_wp2
    go_ret
    exact ⟨rfl, rfl⟩
  · by_cases h2 : y < x
    · have HE : Hid (cmpv x y = 1) := by show cmpv x y = 1; unfold cmpv; rw [if_neg h1, if_pos h2]
      rw [HE.out]
      go_enter Tryd.func65, Tryd.ntmps65
      go_wp2_with fail
      refine (isNaN_any _ x).mono ?_
      rintro e w1 ⟨rfl, rfl⟩
      go_wp2_with fail
      refine (isNaN_any _ y).mono ?_
      rintro e w2 ⟨rfl, rfl⟩
      go_wp2
      go_ret
      exact ⟨rfl, rfl⟩
    · have HE : Hid (cmpv x y = 0) := by show cmpv x y = 0; unfold cmpv; rw [if_neg h1, if_neg h2]
      rw [HE.out]
      go_enter Tryd.func65, Tryd.ntmps65
      go_wp2_with fail
      refine (isNaN_any _ x).mono ?_
      rintro e w1 ⟨rfl, rfl⟩
      go_wp2_with fail
      refine (isNaN_any _ y).mono ?_
      rintro e w2 ⟨rfl, rfl⟩
      go_wp2
      go_ret
      exact ⟨rfl, rfl⟩

/-- The closure that compares two symbols by their frequencies. -/
theorem less_any (W : World) (Bs : Nat) (af : Option Addr) (cf : Nat) (l : List Int) (hb : W.cell? ⟨Bs, 0, none⟩ = some (.slice af l.length cf)) (hs : SI W (.slice af l.length cf) l) (x y : Int) (hx : 0 ≤ x ∧ x < l.length) (hy : 0 ≤ y ∧ y < l.length) :
    Calls Tryd.prog 64 #[.int .i64 x, .int .i64 y, .pointer (some ⟨Bs, 0, none⟩)] W fun e W' => e = .returned (.int .i64 (cmpv (l.getD x.toNat 0) (l.getD y.toNat 0))) ∧ ∃ q, W' = W.drewN q := by
  obtain ⟨i, rfl⟩ : ∃ i : Nat, x = i := ⟨x.toNat, by omega⟩
  obtain ⟨j, rfl⟩ : ∃ j : Nat, y = j := ⟨y.toNat, by omega⟩
  obtain ⟨b1, o1, rfl, c1⟩ := hs.get (Below.refl _ _) (k := i) (by omega)
  obtain ⟨b2, o2, he, c2⟩ := hs.get (Below.refl _ _) (k := j) (by omega)
  simp only [Option.some.injEq, Addr.mk.injEq, and_true] at he
  obtain ⟨rfl, rfl⟩ := he
  have HSI := hide hs
  obtain ⟨u, HU⟩ : ∃ u, Hid (u = l.getD i 0) := ⟨_, rfl⟩
  obtain ⟨v, HV⟩ : ∃ u, Hid (u = l.getD j 0) := ⟨_, rfl⟩
  have e1 : (i : Int).toNat = i := by omega
  have e2 : (j : Int).toNat = j := by omega
  rw [e1, e2, ← HU.out, ← HV.out]
  rw [← HU.out] at c1
  rw [← HV.out] at c2
  have HC : Hid (∀ n, Calls Tryd.prog 65 #[.int .i64 u, .int .i64 v] (W.drewN n) fun e W' => e = .returned (.int .i64 (cmpv u v)) ∧ ∃ k, W' = W.drewN k) := fun n => (cmpI_any (W.drewN n) u v).mono fun e W' ⟨he, hw⟩ => ⟨he, n, hw⟩
  obtain ⟨cv, HCV⟩ : ∃ cv, Hid (cv = cmpv u v) := ⟨_, rfl⟩
  rw [← HCV.out] at HC ⊢
  have hi : (i : Int) < (l.length : Int) := hx.2
  have hj : (j : Int) < (l.length : Int) := hy.2
  clear hs hx hy e1 e2
  go_enter Tryd.func64, Tryd.ntmps64
  go_wp2
  go_quiet (first | (go_at_call 65; exact HC.out _))
  go_wp2
  go_ret
  exact ⟨rfl, _, rfl⟩

def fo (l : List Int) (x : Int) : Int := l.getD x.toNat 0

theorem less_cmp {w : World} {B Bs : Nat} {af : Option Addr} {cf : Nat} {l : List Int} (hb : w.cell? ⟨Bs, 0, none⟩ = some (.slice af l.length cf)) (hs : SI w (.slice af l.length cf) l) (h1 : Bs ≠ B) (h2 : ∀ k, (Value.slice af l.length cf).ownBlock = some k → k ≠ B) :
    Cmp w B (.pointer (some ⟨Bs, 0, none⟩)) (fo l) (fun x => 0 ≤ x ∧ x < l.length) := fun W hW x y hx hy => by
  have hbl : ∀ k, k ≠ B → W.heap[k]? = w.heap[k]? := hW.block
  have hcell : ∀ a : Addr, a.block ≠ B → W.cell? a = w.cell? a := fun a ha => by unfold World.cell?; rw [hbl _ ha]
  refine less_any W Bs af cf l ?_ ?_ x y hx hy
  · rw [hcell _ h1]; exact hb
  · exact hs.move fun a u ha hk => by rw [hcell _ (h2 _ hk)]; exact ha

set_option maxHeartbeats 1000000 in
theorem sort_any {w0 w : World} {B c : Nat} {p : Value} {f : Int → Int} {D : Int → Prop} (S : List Int) (hS : S.Pairwise (· < ·)) (h : Srow w0 w B c S) (hc : Cmp w0 B p f D) (hD : ∀ y ∈ S, D y) (hL : S.length ≤ 288) :
    Calls Tryd.prog 63 #[.slice (some ⟨B, 0, none⟩) S.length c, .func (.func 64) #[] #[p]] w fun e w' => e = .returned (.tuple #[]) ∧ Std w0 w' B c S f := by
  have HC := hide (stab_any S hS h hc hD hL)
  clear h hc hD hS
  obtain ⟨L, HLL⟩ : ∃ L, Hid (L = S.length) := ⟨_, rfl⟩
  rw [← HLL.out] at HC ⊢
  go_enter Tryd.func63, Tryd.ntmps63
  go_wp2_with fail
  refine HC.out.mono ?_
  rintro e w1 ⟨rfl, hs⟩
  have HS := hide hs
  clear hs
  go_wp2
  (try simp only [Exit.inBlock, Exit.then])
  refine bodyPost_end (results_none rfl _ _ _) rfl ?_
  exact ⟨rfl, HS.out⟩

/-- The order by frequency, then by symbol. -/
def Lf (l : List Int) (s t : Nat) : Prop := l.getD s 0 < l.getD t 0 ∨ l.getD s 0 = l.getD t 0 ∧ s < t

/-- Sorted symbols. -/
structure Srt (l : List Int) (S T : List Nat) : Prop where
  perm : T.Perm S
  rise : T.Pairwise (Lf l)

theorem srt_of {l : List Int} {S : List Nat} {X : List Int} (hp : X.Perm (ci S)) (hs : X.Pairwise (Lx (fo l))) : ∃ T, X = ci T ∧ Srt l S T := by
  refine ⟨X.map Int.toNat, ?_, ?_, ?_⟩
  · unfold ci
    rw [List.map_map]
    have : ∀ x ∈ X, ((fun s : Nat => (s : Int)) ∘ Int.toNat) x = x := fun x hx => by
      have := hp.subset hx
      simp only [ci, List.mem_map] at this
      obtain ⟨s, _, rfl⟩ := this
      simp
    rw [List.map_congr_left this]
    simp
  · have := hp.map Int.toNat
    unfold ci at this
    rw [List.map_map] at this
    have e : (Int.toNat ∘ fun s : Nat => (s : Int)) = id := by funext s; simp
    rwa [e, List.map_id] at this
  · rw [List.pairwise_map]
    refine hs.imp_of_mem fun {x y} hx hy h => ?_
    have hx' := hp.subset hx
    have hy' := hp.subset hy
    simp only [ci, List.mem_map] at hx' hy'
    obtain ⟨s, _, rfl⟩ := hx'
    obtain ⟨t, _, rfl⟩ := hy'
    unfold Lx fo at h
    unfold Lf
    simp only [Int.toNat_natCast] at h ⊢
    omega

set_option maxHeartbeats 1000000 in
theorem first_any (v : Value) (l : List Int) (S : List Nat) (w : World) (B c base : Nat) (hl : SI w v l) (ho : OI w base (.slice (some ⟨B, 0, none⟩) S.length c) (ci S)) (hne : ∀ k, v.ownBlock = some k → k < base) (hS : S.Pairwise (· < ·)) (hD : ∀ s ∈ S, s < l.length) (hL : S.length ≤ 288) :
    Calls Tryd.prog 45 #[v, .slice (some ⟨B, 0, none⟩) S.length c] w fun e w' => e = .returned (.tuple #[]) ∧ ∃ T, Srt l S T ∧ OI w' base (.slice (some ⟨B, 0, none⟩) S.length c) (ci T) ∧ Below base w w' := by
  have HL := hide hl
  obtain ⟨af, cf, rfl, hlc, hcm⟩ := hl.open
  obtain ⟨hb1, hb2⟩ := ho.lt B rfl
  obtain ⟨w1, hw1⟩ : ∃ w1, w1 = w.alloc (.cells #[.slice af l.length cf] 22) := ⟨_, rfl⟩
  have hbel : Below w.heap.size w w1 := by rw [hw1]; exact (Below.refl _ _).alloc (Nat.le_refl _) _
  have hbox : w1.cell? ⟨w.heap.size, 0, none⟩ = some (.slice af l.length cf) := by rw [hw1]; exact (H4.cellNew w _ _).1
  have hrow : Srow w1 w1 B c (ci S) := Srow.refl (by
    rw [ci_len, hw1]
    exact (ho.base (Nat.zero_le _)).alloc _)
  have hcmp := less_cmp (B := B) hbox (hl.below hbel) (by omega) (fun k hk => by have := hne k hk; omega)
  have hSi : (ci S).Pairwise (· < ·) := by
    unfold ci
    rw [List.pairwise_map]
    exact hS.imp fun h => by omega
  have HC := hide (sort_any (ci S) hSi hrow hcmp (fun y hy => by
    simp only [ci, List.mem_map] at hy
    obtain ⟨s, hs, rfl⟩ := hy
    have := hD s hs
    omega) (by rw [ci_len]; exact hL))
  have HB := hide hb1
  have hsz : w1.heap.size = w.heap.size + 1 := by rw [hw1]; simp
  rw [ci_len] at HC
  have HW := hide hw1
  have HO := hide ho
  have HBE := hide hbel
  rw [HW.out] at HC
  clear hl ho hne hS hD hrow hcmp hSi hbox hbel hw1 hb1 hsz
  go_enter Tryd.func45, Tryd.ntmps45
  go_wp2_with fail
  refine HC.out.mono ?_
  rintro e w2 ⟨rfl, hs⟩
  have HF : Hid (∃ T, Srt l S T ∧ OI w2 base (.slice (some ⟨B, 0, none⟩) S.length c) (ci T) ∧ Below base w w2) := by
    obtain ⟨X, hp, hr, hrow⟩ := hs
    obtain ⟨T, rfl, hT⟩ := srt_of hp hr
    refine ⟨T, hT, ?_, ?_⟩
    · have h1 := hrow.own
      rw [ci_len, hT.perm.length_eq] at h1
      refine ⟨h1.1, ?_⟩
      rcases h1.2 with q | ⟨g, cap, cur, he, _, r⟩
      · simp at q
      · simp only [Value.slice.injEq, Option.some.injEq, Addr.mk.injEq, and_true] at he
        exact .inr ⟨g, cap, cur, by simp only [Value.slice.injEq, Option.some.injEq, Addr.mk.injEq, and_true]; exact he, by rw [← he.1]; exact HB.out, r⟩
    · have ho := hrow.only
      have hle : base ≤ w.heap.size := by have := HB.out; omega
      refine ⟨ho.os, ho.tape, ho.output, ?_, fun k hk => ?_⟩
      · rw [ho.size]; simp
      · rw [ho.block k (by have := HB.out; omega)]
        exact Below.heap_alloc w _ k (by omega)
  clear hs
  go_wp2
  (try simp only [Exit.inBlock, Exit.then])
  refine bodyPost_end (results_none rfl _ _ _) rfl ?_
  exact ⟨rfl, HF.out⟩
end Go.Proofs.YtegoienjikjhkaaDoor

