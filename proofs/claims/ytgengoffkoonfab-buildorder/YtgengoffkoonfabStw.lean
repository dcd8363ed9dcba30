import Derived.Test.YtgengoffkoonfabStq
namespace Go.Proofs.Ytgengoffkoonfab
open Go.RowKit Go.Maps
set_option maxRecDepth 20000
set_option linter.unusedVariables false

/-- Sorted: a row of what stood there, in order. -/
def Std (w0 w' : World) (B c : Nat) (S : List Int) (f : Int → Int) : Prop := ∃ X, X.Perm S ∧ X.Pairwise (Lx f) ∧ Srow w0 w' B c X

theorem perm_all {D : Int → Prop} {S T : List Int} (hS : ∀ y ∈ S, D y) (h : ∀ y ∈ T, y ∈ S) : ∀ y ∈ T, D y := fun y hy => hS y (h y hy)

/-- What the row holds stays what it held. -/
structure Row1 (w0 w : World) (B c : Nat) (D : Int → Prop) (L : Nat) (X : List Int) : Prop where
  row : Srow w0 w B c X
  dom : ∀ y ∈ X, D y
  len : X.length = L

theorem Row1.next {w0 w w' : World} {B c L : Nat} {D : Int → Prop} {X T Y C : List Int} {a d : Nat} (h : Row1 w0 w B c D L X) (hp : Pce X T Y a d) (hy : Y.Perm C) (hC : ∀ y ∈ C, y ∈ X) (hr : Srow w0 w' B c T) : Row1 w0 w' B c D L T := by
  refine ⟨hr, fun y hm => ?_, hp.tl.trans h.len⟩
  rw [hp.eq] at hm
  rcases List.mem_append.1 hm with q | q
  · exact h.dom y (List.mem_of_mem_take q)
  · rcases List.mem_append.1 q with q | q
    · exact h.dom y (hC y (hy.subset q))
    · exact h.dom y (List.mem_of_mem_drop q)

theorem sg_mem {X : List Int} {a d : Nat} {y : Int} (h : y ∈ sg X a d) : y ∈ X := List.mem_of_mem_drop (List.mem_of_mem_take h)

/-- A block of 20 (or what is left). -/
theorem blk_call {w0 w : World} {B c L : Nat} {p : Value} {f : Int → Int} {D : Int → Prop} {S X : List Int} (hS : S.Pairwise (· < ·)) (hc : Cmp w0 B p f D) (h : Row1 w0 w B c D L X) (hk : ∃ a, Bk1 f S X a ∧ True) (a b : Nat) (hb1 : Bk1 f S X a) (hL : L ≤ 288) (ha : a ≤ L) (hb : b = min (a + 20) L) :
    Calls Try.prog 81 #[.slice (some ⟨B, 0, none⟩) L c, .int .i64 a, .int .i64 b, .func (.func 43) #[] #[p]] w fun e w' => e = .returned (.tuple #[]) ∧ ∃ T, Row1 w0 w' B c D L T ∧ Bk1 f S T (a + 20) := by
  have hXl := h.len
  have e : sg X a 20 = sg S a 20 := by unfold sg; rw [hb1.high]
  have hla : (X.take a).length = a := by rw [List.length_take]; omega
  have := ins_any (X.take a) (sg X a 20) (X.drop (a + 20)) X (sg_cut X a 20) h.row hc h.dom (by omega) a b hla.symm (by rw [hla, sg_len]; omega) (by rw [e]; exact sg_rise hS a 20)
  rw [hXl] at this
  refine this.mono fun e w' ⟨he, hm⟩ => ⟨he, ?_⟩
  obtain ⟨Y, T, hp, hy, hs, hr⟩ := mrg_pce hm rfl rfl (by omega)
  exact ⟨T, h.next hp hy (fun y q => sg_mem q) hr, bk1_next hb1 hp hy hs⟩

/-- Two blocks become one. -/
theorem mrg_call {w0 w : World} {B c L : Nat} {p : Value} {f : Int → Int} {D : Int → Prop} {S X : List Int} (hS : S.Pairwise (· < ·)) (hc : Cmp w0 B p f D) (h : Row1 w0 w B c D L X) (a m b bs : Nat) (hbs : 0 < bs) (hb1 : Bst f S X bs a) (hL : L ≤ 288) (hm : m = a + bs) (hmL : m < L) (hb : b = min (a + 2 * bs) L) :
    Calls Try.prog 82 #[.slice (some ⟨B, 0, none⟩) L c, .int .i64 a, .int .i64 m, .int .i64 b, .func (.func 43) #[] #[p]] w fun e w' => e = .returned (.tuple #[]) ∧ ∃ T, Row1 w0 w' B c D L T ∧ Bst f S T bs (a + 2 * bs) := by
  have hXl := h.len
  obtain ⟨hU, hV, hx⟩ := bst_in hS hb1
  have hla : (X.take a).length = a := by rw [List.length_take]; omega
  have lU : (sg X a bs).length = bs := by rw [sg_len]; omega
  have lV : (sg X (a + bs) bs).length = b - m := by rw [sg_len]; omega
  have e : sg X a (2 * bs) = sg X a bs ++ sg X (a + bs) bs := by rw [show 2 * bs = bs + bs by omega, sg_add]
  have hX : X = X.take a ++ (sg X a bs ++ (sg X (a + bs) bs ++ X.drop (a + 2 * bs))) := by
    have := sg_cut X a (2 * bs)
    rw [e] at this
    simpa using this
  have := sym_all (c := c) hc (X.length) w (X.take a) (sg X a bs) (sg X (a + bs) bs) (X.drop (a + 2 * bs)) X a m b (by rw [lU, lV]; omega) hX h.row h.dom (by omega) hla.symm (by rw [hla, lU]; exact hm) (by rw [lV]; omega) (by omega) (by rw [lV]; omega) hU hV hx
  rw [hXl] at this
  refine this.mono fun e' w' ⟨he, hm'⟩ => ⟨he, ?_⟩
  obtain ⟨Y, T, hp, hy, hs, hr⟩ := mrg_pce (d := 2 * bs) hm' rfl (by rw [e]) (by omega)
  refine ⟨T, h.next hp hy (fun y q => ?_) hr, bst_next hbs hb1 hp hy hs⟩
  rcases List.mem_append.1 q with q | q
  · exact sg_mem q
  · exact sg_mem q

set_option maxHeartbeats 4000000 in
theorem stab_any {w0 w : World} {B c : Nat} {p : Value} {f : Int → Int} {D : Int → Prop} (S : List Int) (hS : S.Pairwise (· < ·)) (h : Srow w0 w B c S) (hc : Cmp w0 B p f D) (hD : ∀ y ∈ S, D y) (hL : S.length ≤ 288) :
    Calls Try.prog 63 #[.slice (some ⟨B, 0, none⟩) S.length c, .int .i64 S.length, .func (.func 43) #[] #[p]] w fun e w' => e = .returned (.tuple #[]) ∧ Std w0 w' B c S f := by
  obtain ⟨L, HLL⟩ : ∃ L, Hid (L = S.length) := ⟨_, rfl⟩
  have HSS := hide hS
  have HCM := hide hc
  have HK0 : Hid (∃ X, Row1 w0 w B c D L X ∧ Bk1 f S X 0) := ⟨S, ⟨h, hD, HLL.out.symm⟩, rfl, Nat.dvd_zero _, (fun c hc => by omega), rfl⟩
  rw [← HLL.out] at hL ⊢
  clear h hc hD hS
  go_enter Try.func63, Try.ntmps63
  go_wp2
  go_loopw [7, 8] (fun va vb wr => ∃ a : Nat, a ≤ L ∧ va = .int .i64 a ∧ vb = .int .i64 ((a : Int) + 20) ∧ Hid (∃ X, Row1 w0 wr B c D L X ∧ Bk1 f S X a)) (fun va _ _ => L - (intOf va).toNat)
  case atStart => exact ⟨0, Nat.zero_le _, rfl, by go_num, HK0⟩
  case round =>
    obtain ⟨a, haL, rfl, rfl, HK⟩ := hrel
    obtain ⟨X, hr, hk⟩ := HK.out
    by_cases hlt : a + 20 ≤ L
    · have hlt' : (a : Int) + 20 ≤ (L : Int) := by omega
      have HC := hide (blk_call HSS.out HCM.out hr ⟨a, hk, trivial⟩ a (a + 20) hk hL haL (by omega))
      have hcast : ((a + 20 : Nat) : Int) = (a : Int) + 20 := by omega
      rw [hcast] at HC
      clear hr hk HK hcast
      go_wp2_with fail
      refine HC.out.mono ?_
      rintro e w2 ⟨rfl, hT⟩
      have HT := hide hT
      clear hT
      have hcc : ((a : Int) + 20) + 20 = (a : Int) + 40 := by omega
      go_wp2
      go_roundw
      case rel => exact ⟨a + 20, hlt, by go_num, by go_num, HT⟩
      case measure => simp [intOf]; omega
    · have hlt' : ¬ (a : Int) + 20 ≤ (L : Int) := by omega
      have HC := hide (blk_call HSS.out HCM.out hr ⟨a, hk, trivial⟩ a L hk hL haL (by omega))
      clear hr hk HK
      go_wp2_with fail
      refine HC.out.mono ?_
      rintro e w2 ⟨rfl, hT⟩
      have HB0 : Hid (∃ X, Row1 w0 w2 B c D L X ∧ Bst f S X 20 0) := by
        obtain ⟨T, h1, h2⟩ := hT
        exact ⟨T, h1, bk1_end h2 (by rw [h1.len]; omega)⟩
      clear hT HC
      go_wp2
      go_loopw [6] (fun vb wr => ∃ bs : Nat, 20 ≤ bs ∧ bs ≤ 600 ∧ vb = .int .i64 bs ∧ Hid (∃ X, Row1 w0 wr B c D L X ∧ Bst f S X bs 0)) (fun vb _ => 1000 - (intOf vb).toNat)
      case atStart => exact ⟨20, Nat.le_refl _, by omega, rfl, HB0⟩
      case round =>
        obtain ⟨bs, hb20, hb6, rfl, HB⟩ := hrel
        by_cases hbl : bs < L
        · have hbl' : (bs : Int) < (L : Int) := by omega
          have hw2 : (2 : Int) * (bs : Int) = ((2 * bs : Nat) : Int) := by omega
          obtain ⟨d, hd⟩ : ∃ d, d = 2 * bs := ⟨_, rfl⟩
          have hd1 : (2 : Int) * (bs : Int) = (d : Int) := by omega
          have hd2 : (bs : Int) * 2 = (d : Int) := by omega
          have hd3 : 2 * bs ≤ d ∧ d ≤ 2 * bs := by omega
          have HD := hide hd
          clear hw2 hd
          go_wp2
          go_loopw [7, 8] (fun va vb wr => ∃ a : Nat, a ≤ L ∧ va = .int .i64 a ∧ vb = .int .i64 ((a : Int) + d) ∧ Hid (∃ X, Row1 w0 wr B c D L X ∧ Bst f S X bs a)) (fun va _ _ => L - (intOf va).toNat)
          case atStart => exact ⟨0, Nat.zero_le _, rfl, by go_num, HB⟩
          case round =>
            obtain ⟨a, haL2, rfl, rfl, HK⟩ := hrel
            obtain ⟨X, hr, hk⟩ := HK.out
            by_cases hle : a + d ≤ L
            · have hle' : (a : Int) + d ≤ (L : Int) := by omega
              have HC := hide (mrg_call HSS.out HCM.out hr a (a + bs) (a + d) bs (by omega) hk hL rfl (by omega) (by omega))
              rw [← HD.out] at HC
              have c1 : ((a + bs : Nat) : Int) = (a : Int) + bs := by omega
              have c2 : ((a + d : Nat) : Int) = (a : Int) + d := by omega
              rw [c1, c2] at HC
              clear hr hk HK c1 c2
              go_wp2_with fail
              refine HC.out.mono ?_
              rintro e w3 ⟨rfl, hT⟩
              have HT := hide hT
              clear hT
              go_wp2
              go_roundw
              case rel => exact ⟨a + d, hle, by go_num, by go_num, HT⟩
              case measure => simp [intOf]; omega
            · have hle' : ¬ (a : Int) + d ≤ (L : Int) := by omega
              by_cases hmm : a + bs < L
              · have hmm' : (a : Int) + bs < (L : Int) := by omega
                have HC := hide (mrg_call HSS.out HCM.out hr a (a + bs) L bs (by omega) hk hL rfl hmm (by omega))
                have c1 : ((a + bs : Nat) : Int) = (a : Int) + bs := by omega
                rw [c1] at HC
                clear hr hk HK c1
                go_wp2_with fail
                refine HC.out.mono ?_
                rintro e w3 ⟨rfl, hT⟩
                have HT : Hid (∃ X, Row1 w0 w3 B c D L X ∧ Bst f S X d 0) := by
                  obtain ⟨T, h1, h2⟩ := hT
                  rw [HD.out]
                  exact ⟨T, h1, bst_end h2 (by rw [h1.len]; omega)⟩
                clear hT
                go_wp2
                go_roundw
                case rel => exact ⟨d, by omega, by omega, by go_num, HT⟩
                case measure => simp [intOf]; omega
              · have hmm' : ¬ (a : Int) + bs < (L : Int) := by omega
                have HT : Hid (∃ X, Row1 w0 wr B c D L X ∧ Bst f S X d 0) := by
                  rw [HD.out]
                  exact ⟨X, hr, bst_end (bst_skip (by omega) hk (by rw [hr.len]; omega)) (by rw [hr.len]; omega)⟩
                clear hr hk HK
                go_wp2
                go_roundw
                case rel => exact ⟨d, by omega, by omega, by go_num, HT⟩
                case measure => simp [intOf]; omega
        · have hbl' : ¬ (bs : Int) < (L : Int) := by omega
          have HF : Hid (Std w0 wr B c S f) := by
            obtain ⟨X, h1, h2⟩ := HB.out
            obtain ⟨p1, p2⟩ := bst_done h2 (by rw [h1.len]; omega)
            exact ⟨X, p1, p2, h1.row⟩
          go_wp2
          (try simp only [Exit.inBlock, Exit.then])
          refine bodyPost_end (results_none rfl _ _ _) rfl ?_
          exact ⟨rfl, HF.out⟩
end Go.Proofs.Ytgengoffkoonfab
