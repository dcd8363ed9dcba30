import Derived.Test.YtncniahpglgkmaaG26Stq
import Derived.Test.YtncniahpglgkmaaG07QHops
namespace Go.Proofs.Ytncniahpglgkmaa
open Go.RowKit Go.Maps
set_option maxRecDepth 20000
set_option linter.unusedVariables false

/-- Sorted: a row of what stood there, in order. -/
def Std (w0 w' : World) (B c : Nat) (S : List Int) (f : Int → Int) : Prop := ∃ X, X.Perm S ∧ X.Pairwise (Lx f) ∧ Srow w0 w' B c X

theorem perm_all {D : Int → Prop} {S T : List Int} (hS : ∀ y ∈ S, D y) (h : ∀ y ∈ T, y ∈ S) : ∀ y ∈ T, D y := fun y hy => hS y (h y hy)

/-- What the row holds stays what it held. -/
structure Row1 (w0 w : World) (B c : Nat) (D : Int → Prop) (L : Nat) (X : List Int) : Prop where
  row : Srow w0 w B c X
  dom : ∀ y ∈ X, D y
  len : X.length = L

theorem Row1.next {w0 w w' : World} {B c L : Nat} {D : Int → Prop} {X T Y C : List Int} {a d : Nat} (h : Row1 w0 w B c D L X) (hp : Pce X T Y a d) (hy : Y.Perm C) (hC : ∀ y ∈ C, y ∈ X) (hr : Srow w0 w' B c T) : Row1 w0 w' B c D L T := by
  refine ⟨hr, fun y hm => ?_, hp.tl.trans h.len⟩
  rw [hp.eq] at hm
  rcases List.mem_append.1 hm with q | q
  · exact h.dom y (List.mem_of_mem_take q)
  · rcases List.mem_append.1 q with q | q
    · exact h.dom y (hC y (hy.subset q))
    · exact h.dom y (List.mem_of_mem_drop q)

theorem sg_mem {X : List Int} {a d : Nat} {y : Int} (h : y ∈ sg X a d) : y ∈ X := List.mem_of_mem_drop (List.mem_of_mem_take h)

/-- A block of 20 (or what is left). -/
theorem blk_call {w0 w : World} {B c L : Nat} {p : Value} {f : Int → Int} {D : Int → Prop} {S X : List Int} (hS : S.Pairwise (· < ·)) (hc : Cmp w0 B p f D) (h : Row1 w0 w B c D L X) (hk : ∃ a, Bk1 f S X a ∧ True) (a b : Nat) (hb1 : Bk1 f S X a) (hL : L ≤ 288) (ha : a ≤ L) (hb : b = min (a + 20) L) :
    Calls Try.prog 60 #[.slice (some ⟨B, 0, none⟩) L c, .int .i64 a, .int .i64 b, .func (.func 29) #[] #[p]] w fun e w' => e = .returned (.tuple #[]) ∧ ∃ T, Row1 w0 w' B c D L T ∧ Bk1 f S T (a + 20) := by
  have hXl := h.len
  have e : sg X a 20 = sg S a 20 := by unfold sg; rw [hb1.high]
  have hla : (X.take a).length = a := by rw [List.length_take]; omega
  have := ins_any (X.take a) (sg X a 20) (X.drop (a + 20)) X (sg_cut X a 20) h.row hc h.dom (by omega) a b hla.symm (by rw [hla, sg_len]; omega) (by rw [e]; exact sg_rise hS a 20)
  rw [hXl] at this
  refine this.mono fun e w' ⟨he, hm⟩ => ⟨he, ?_⟩
  obtain ⟨Y, T, hp, hy, hs, hr⟩ := mrg_pce hm rfl rfl (by omega)
  exact ⟨T, h.next hp hy (fun y q => sg_mem q) hr, bk1_next hb1 hp hy hs⟩

/-- Two blocks become one. -/
theorem mrg_call {w0 w : World} {B c L : Nat} {p : Value} {f : Int → Int} {D : Int → Prop} {S X : List Int} (hS : S.Pairwise (· < ·)) (hc : Cmp w0 B p f D) (h : Row1 w0 w B c D L X) (a m b bs : Nat) (hbs : 0 < bs) (hb1 : Bst f S X bs a) (hL : L ≤ 288) (hm : m = a + bs) (hmL : m < L) (hb : b = min (a + 2 * bs) L) :
    Calls Try.prog 61 #[.slice (some ⟨B, 0, none⟩) L c, .int .i64 a, .int .i64 m, .int .i64 b, .func (.func 29) #[] #[p]] w fun e w' => e = .returned (.tuple #[]) ∧ ∃ T, Row1 w0 w' B c D L T ∧ Bst f S T bs (a + 2 * bs) := by
  have hXl := h.len
  obtain ⟨hU, hV, hx⟩ := bst_in hS hb1
  have hla : (X.take a).length = a := by rw [List.length_take]; omega
  have lU : (sg X a bs).length = bs := by rw [sg_len]; omega
  have lV : (sg X (a + bs) bs).length = b - m := by rw [sg_len]; omega
  have e : sg X a (2 * bs) = sg X a bs ++ sg X (a + bs) bs := by rw [show 2 * bs = bs + bs by omega, sg_add]
  have hX : X = X.take a ++ (sg X a bs ++ (sg X (a + bs) bs ++ X.drop (a + 2 * bs))) := by
    have := sg_cut X a (2 * bs)
    rw [e] at this
    simpa using this
  have := sym_all (c := c) hc (X.length) w (X.take a) (sg X a bs) (sg X (a + bs) bs) (X.drop (a + 2 * bs)) X a m b (by rw [lU, lV]; omega) hX h.row h.dom (by omega) hla.symm (by rw [hla, lU]; exact hm) (by rw [lV]; omega) (by omega) (by rw [lV]; omega) hU hV hx
  rw [hXl] at this
  refine this.mono fun e' w' ⟨he, hm'⟩ => ⟨he, ?_⟩
  obtain ⟨Y, T, hp, hy, hs, hr⟩ := mrg_pce (d := 2 * bs) hm' rfl (by rw [e]) (by omega)
  refine ⟨T, h.next hp hy (fun y q => ?_) hr, bst_next hbs hb1 hp hy hs⟩
  rcases List.mem_append.1 q with q | q
  · exact sg_mem q
  · exact sg_mem q

set_option maxHeartbeats 4000000 in
theorem stab_any {w0 w : World} {B c : Nat} {p : Value} {f : Int → Int} {D : Int → Prop} (S : List Int) (hS : S.Pairwise (· < ·)) (h : Srow w0 w B c S) (hc : Cmp w0 B p f D) (hD : ∀ y ∈ S, D y) (hL : S.length ≤ 288) :
    Calls Try.prog 45 #[.slice (some ⟨B, 0, none⟩) S.length c, .int .i64 S.length, .func (.func 29) #[] #[p]] w fun e w' => e = .returned (.tuple #[]) ∧ Std w0 w' B c S f := by
  obtain ⟨L, HLL⟩ : ∃ L, Hid (L = S.length) := ⟨_, rfl⟩
  have HSS := hide hS
  have HCM := hide hc
  have HK0 : Hid (∃ X, Row1 w0 w B c D L X ∧ Bk1 f S X 0) := ⟨S, ⟨h, hD, HLL.out.symm⟩, rfl, Nat.dvd_zero _, (fun c hc => by omega), rfl⟩
  rw [← HLL.out] at hL ⊢
  clear h hc hD hS
  go_enter Try.func45, Try.ntmps45
  go_wp2
  go_loopw [7, 8] (fun va vb wr => ∃ a : Nat, a ≤ L ∧ va = .int .i64 a ∧ vb = .int .i64 ((a : Int) + 20) ∧ Hid (∃ X, Row1 w0 wr B c D L X ∧ Bk1 f S X a)) (fun va _ _ => L - (intOf va).toNat)
  case atStart => exact ⟨0, Nat.zero_le _, rfl, by go_num, HK0⟩
  case round =>
    obtain ⟨a, haL, rfl, rfl, HK⟩ := hrel
    obtain ⟨X, hr, hk⟩ := HK.out
    by_cases hlt : a + 20 ≤ L
    · have hlt' : (a : Int) + 20 ≤ (L : Int) := by omega
      have HC := hide (blk_call HSS.out HCM.out hr ⟨a, hk, trivial⟩ a (a + 20) hk hL haL (by omega))
      have hcast : ((a + 20 : Nat) : Int) = (a : Int) + 20 := by omega
      rw [hcast] at HC
      clear hr hk HK hcast
      go_wp2_with fail
      refine HC.out.mono ?_
      rintro e w2 ⟨rfl, hT⟩
      have HT := hide hT
      clear hT
      have hcc : ((a : Int) + 20) + 20 = (a : Int) + 40 := by omega
      go_wp2
      go_roundw
      case rel => exact ⟨a + 20, hlt, by go_num, by go_num, HT⟩
      case measure => simp [intOf]; omega
    · have hlt' : ¬ (a : Int) + 20 ≤ (L : Int) := by omega
      have HC := hide (blk_call HSS.out HCM.out hr ⟨a, hk, trivial⟩ a L hk hL haL (by omega))
      clear hr hk HK
      go_wp2_with fail
      refine HC.out.mono ?_
      rintro e w2 ⟨rfl, hT⟩
      have HB0 : Hid (∃ X, Row1 w0 w2 B c D L X ∧ Bst f S X 20 0) := by
        obtain ⟨T, h1, h2⟩ := hT
        exact ⟨T, h1, bk1_end h2 (by rw [h1.len]; omega)⟩
      clear hT HC
      go_wp2
      go_loopw [6] (fun vb wr => ∃ bs : Nat, 20 ≤ bs ∧ bs ≤ 600 ∧ vb = .int .i64 bs ∧ Hid (∃ X, Row1 w0 wr B c D L X ∧ Bst f S X bs 0)) (fun vb _ => 1000 - (intOf vb).toNat)
      case atStart => exact ⟨20, Nat.le_refl _, by omega, rfl, HB0⟩
      case round =>
        obtain ⟨bs, hb20, hb6, rfl, HB⟩ := hrel
        by_cases hbl : bs < L
        · have hbl' : (bs : Int) < (L : Int) := by omega
          have hw2 : (2 : Int) * (bs : Int) = ((2 * bs : Nat) : Int) := by omega
          obtain ⟨d, hd⟩ : ∃ d, d = 2 * bs := ⟨_, rfl⟩
          have hd1 : (2 : Int) * (bs : Int) = (d : Int) := by omega
          have hd2 : (bs : Int) * 2 = (d : Int) := by omega
          have hd3 : 2 * bs ≤ d ∧ d ≤ 2 * bs := by omega
          have HD := hide hd
          clear hw2 hd
          go_wp2
          go_loopw [7, 8] (fun va vb wr => ∃ a : Nat, a ≤ L ∧ va = .int .i64 a ∧ vb = .int .i64 ((a : Int) + d) ∧ Hid (∃ X, Row1 w0 wr B c D L X ∧ Bst f S X bs a)) (fun va _ _ => L - (intOf va).toNat)
          case atStart => exact ⟨0, Nat.zero_le _, rfl, by go_num, HB⟩
          case round =>
            obtain ⟨a, haL2, rfl, rfl, HK⟩ := hrel
            obtain ⟨X, hr, hk⟩ := HK.out
            by_cases hle : a + d ≤ L
            · have hle' : (a : Int) + d ≤ (L : Int) := by omega
              have HC := hide (mrg_call HSS.out HCM.out hr a (a + bs) (a + d) bs (by omega) hk hL rfl (by omega) (by omega))
              rw [← HD.out] at HC
              have c1 : ((a + bs : Nat) : Int) = (a : Int) + bs := by omega
              have c2 : ((a + d : Nat) : Int) = (a : Int) + d := by omega
              rw [c1, c2] at HC
              clear hr hk HK c1 c2
              go_wp2_with fail
              refine HC.out.mono ?_
              rintro e w3 ⟨rfl, hT⟩
              have HT := hide hT
              clear hT
              go_wp2
              go_roundw
              case rel => exact ⟨a + d, hle, by go_num, by go_num, HT⟩
              case measure => simp [intOf]; omega
            · have hle' : ¬ (a : Int) + d ≤ (L : Int) := by omega
              by_cases hmm : a + bs < L
              · have hmm' : (a : Int) + bs < (L : Int) := by omega
                have HC := hide (mrg_call HSS.out HCM.out hr a (a + bs) L bs (by omega) hk hL rfl hmm (by omega))
                have c1 : ((a + bs : Nat) : Int) = (a : Int) + bs := by omega
                rw [c1] at HC
                clear hr hk HK c1
                go_wp2_with fail
                refine HC.out.mono ?_
                rintro e w3 ⟨rfl, hT⟩
                have HT : Hid (∃ X, Row1 w0 w3 B c D L X ∧ Bst f S X d 0) := by
                  obtain ⟨T, h1, h2⟩ := hT
                  rw [HD.out]
                  exact ⟨T, h1, bst_end h2 (by rw [h1.len]; omega)⟩
                clear hT
                go_wp2
                go_roundw
                case rel => exact ⟨d, by omega, by omega, by go_num, HT⟩
                case measure => simp [intOf]; omega
              · have hmm' : ¬ (a : Int) + bs < (L : Int) := by omega
                have HT : Hid (∃ X, Row1 w0 wr B c D L X ∧ Bst f S X d 0) := by
                  rw [HD.out]
                  exact ⟨X, hr, bst_end (bst_skip (by omega) hk (by rw [hr.len]; omega)) (by rw [hr.len]; omega)⟩
                clear hr hk HK
                go_wp2
                go_roundw
                case rel => exact ⟨d, by omega, by omega, by go_num, HT⟩
                case measure => simp [intOf]; omega
        · have hbl' : ¬ (bs : Int) < (L : Int) := by omega
          have HF : Hid (Std w0 wr B c S f) := by
            obtain ⟨X, h1, h2⟩ := HB.out
            obtain ⟨p1, p2⟩ := bst_done h2 (by rw [h1.len]; omega)
            exact ⟨X, p1, p2, h1.row⟩
          go_wp2
          (try simp only [Exit.inBlock, Exit.then])
          refine bodyPost_end (results_none rfl _ _ _) rfl ?_
          exact ⟨rfl, HF.out⟩
end Go.Proofs.Ytncniahpglgkmaa

namespace Go.Proofs.Ytncniahpglgkmaa
open Go.RowKit Go.Maps
set_option maxRecDepth 20000
set_option linter.unusedVariables false

theorem isNaN_any (w : World) (x : Int) : Calls Try.prog 46 #[.int .i64 x] w fun e w' => e = .returned (.bool false) ∧ w' = w := by
  have h : (x != x) = false := by simp
  go_enter Try.func46, Try.ntmps46
  go_wp2
  go_ret
  exact ⟨by simp, rfl⟩

theorem cmpI_any (w : World) (x y : Int) : Calls Try.prog 30 #[.int .i64 x, .int .i64 y] w fun e w' => e = .returned (.int .i64 (cmpv x y)) ∧ w' = w := by
  by_cases h1 : x < y
  · have HE : Hid (cmpv x y = -1) := if_pos h1
    rw [HE.out]
    go_enter Try.func30, Try.ntmps30
    go_wp2_with fail
    refine (isNaN_any _ x).mono ?_
    rintro e w1 ⟨rfl, rfl⟩
    go_wp2_with fail
    refine (isNaN_any _ y).mono ?_
    rintro e w2 ⟨rfl, rfl⟩
    go_wp2
    go_ret
    exact ⟨rfl, rfl⟩
  · by_cases h2 : y < x
    · have HE : Hid (cmpv x y = 1) := by show cmpv x y = 1; unfold cmpv; rw [if_neg h1, if_pos h2]
      rw [HE.out]
      go_enter Try.func30, Try.ntmps30
      go_wp2_with fail
      refine (isNaN_any _ x).mono ?_
      rintro e w1 ⟨rfl, rfl⟩
      go_wp2_with fail
      refine (isNaN_any _ y).mono ?_
      rintro e w2 ⟨rfl, rfl⟩
      go_wp2
      go_ret
      exact ⟨rfl, rfl⟩
    · have HE : Hid (cmpv x y = 0) := by show cmpv x y = 0; unfold cmpv; rw [if_neg h1, if_neg h2]
      rw [HE.out]
      go_enter Try.func30, Try.ntmps30
      go_wp2_with fail
      refine (isNaN_any _ x).mono ?_
      rintro e w1 ⟨rfl, rfl⟩
      go_wp2_with fail
      refine (isNaN_any _ y).mono ?_
      rintro e w2 ⟨rfl, rfl⟩
      go_wp2
      go_ret
      exact ⟨rfl, rfl⟩

/-- The closure that compares two symbols by their frequencies. -/
theorem less_any (W : World) (Bs : Nat) (af : Option Addr) (cf : Nat) (l : List Int) (hb : W.cell? ⟨Bs, 0, none⟩ = some (.slice af l.length cf)) (hs : SI W (.slice af l.length cf) l) (x y : Int) (hx : 0 ≤ x ∧ x < l.length) (hy : 0 ≤ y ∧ y < l.length) :
    Calls Try.prog 29 #[.int .i64 x, .int .i64 y, .pointer (some ⟨Bs, 0, none⟩)] W fun e W' => e = .returned (.int .i64 (cmpv (l.getD x.toNat 0) (l.getD y.toNat 0))) ∧ ∃ q, W' = W.drewN q := by
  obtain ⟨i, rfl⟩ : ∃ i : Nat, x = i := ⟨x.toNat, by omega⟩
  obtain ⟨j, rfl⟩ : ∃ j : Nat, y = j := ⟨y.toNat, by omega⟩
  obtain ⟨b1, o1, rfl, c1⟩ := hs.get (Below.refl _ _) (k := i) (by omega)
  obtain ⟨b2, o2, he, c2⟩ := hs.get (Below.refl _ _) (k := j) (by omega)
  simp only [Option.some.injEq, Addr.mk.injEq, and_true] at he
  obtain ⟨rfl, rfl⟩ := he
  have HSI := hide hs
  obtain ⟨u, HU⟩ : ∃ u, Hid (u = l.getD i 0) := ⟨_, rfl⟩
  obtain ⟨v, HV⟩ : ∃ u, Hid (u = l.getD j 0) := ⟨_, rfl⟩
  have e1 : (i : Int).toNat = i := by omega
  have e2 : (j : Int).toNat = j := by omega
  rw [e1, e2, ← HU.out, ← HV.out]
  rw [← HU.out] at c1
  rw [← HV.out] at c2
  have HC : Hid (∀ n, Calls Try.prog 30 #[.int .i64 u, .int .i64 v] (W.drewN n) fun e W' => e = .returned (.int .i64 (cmpv u v)) ∧ ∃ k, W' = W.drewN k) := fun n => (cmpI_any (W.drewN n) u v).mono fun e W' ⟨he, hw⟩ => ⟨he, n, hw⟩
  obtain ⟨cv, HCV⟩ : ∃ cv, Hid (cv = cmpv u v) := ⟨_, rfl⟩
  rw [← HCV.out] at HC ⊢
  have hi : (i : Int) < (l.length : Int) := hx.2
  have hj : (j : Int) < (l.length : Int) := hy.2
  clear hs hx hy e1 e2
  go_enter Try.func29, Try.ntmps29
  go_wp2
  go_quiet (first | (go_at_call 30; exact HC.out _))
  go_wp2
  go_ret
  exact ⟨rfl, _, rfl⟩

def fo (l : List Int) (x : Int) : Int := l.getD x.toNat 0

theorem less_cmp {w : World} {B Bs : Nat} {af : Option Addr} {cf : Nat} {l : List Int} (hb : w.cell? ⟨Bs, 0, none⟩ = some (.slice af l.length cf)) (hs : SI w (.slice af l.length cf) l) (h1 : Bs ≠ B) (h2 : ∀ k, (Value.slice af l.length cf).ownBlock = some k → k ≠ B) :
    Cmp w B (.pointer (some ⟨Bs, 0, none⟩)) (fo l) (fun x => 0 ≤ x ∧ x < l.length) := fun W hW x y hx hy => by
  have hbl : ∀ k, k ≠ B → W.heap[k]? = w.heap[k]? := hW.block
  have hcell : ∀ a : Addr, a.block ≠ B → W.cell? a = w.cell? a := fun a ha => by unfold World.cell?; rw [hbl _ ha]
  refine less_any W Bs af cf l ?_ ?_ x y hx hy
  · rw [hcell _ h1]; exact hb
  · exact hs.move fun a u ha hk => by rw [hcell _ (h2 _ hk)]; exact ha

set_option maxHeartbeats 1000000 in
theorem sort_any {w0 w : World} {B c : Nat} {p : Value} {f : Int → Int} {D : Int → Prop} (S : List Int) (hS : S.Pairwise (· < ·)) (h : Srow w0 w B c S) (hc : Cmp w0 B p f D) (hD : ∀ y ∈ S, D y) (hL : S.length ≤ 288) :
    Calls Try.prog 28 #[.slice (some ⟨B, 0, none⟩) S.length c, .func (.func 29) #[] #[p]] w fun e w' => e = .returned (.tuple #[]) ∧ Std w0 w' B c S f := by
  have HC := hide (stab_any S hS h hc hD hL)
  clear h hc hD hS
  obtain ⟨L, HLL⟩ : ∃ L, Hid (L = S.length) := ⟨_, rfl⟩
  rw [← HLL.out] at HC ⊢
  go_enter Try.func28, Try.ntmps28
  go_wp2_with fail
  refine HC.out.mono ?_
  rintro e w1 ⟨rfl, hs⟩
  have HS := hide hs
  clear hs
  go_wp2
  (try simp only [Exit.inBlock, Exit.then])
  refine bodyPost_end (results_none rfl _ _ _) rfl ?_
  exact ⟨rfl, HS.out⟩

/-- The order by frequency, then by symbol. -/
def Lf (l : List Int) (s t : Nat) : Prop := l.getD s 0 < l.getD t 0 ∨ l.getD s 0 = l.getD t 0 ∧ s < t

/-- Sorted symbols. -/
structure Srt (l : List Int) (S T : List Nat) : Prop where
  perm : T.Perm S
  rise : T.Pairwise (Lf l)

theorem srt_of {l : List Int} {S : List Nat} {X : List Int} (hp : X.Perm (ci S)) (hs : X.Pairwise (Lx (fo l))) : ∃ T, X = ci T ∧ Srt l S T := by
  refine ⟨X.map Int.toNat, ?_, ?_, ?_⟩
  · unfold ci
    rw [List.map_map]
    have : ∀ x ∈ X, ((fun s : Nat => (s : Int)) ∘ Int.toNat) x = x := fun x hx => by
      have := hp.subset hx
      simp only [ci, List.mem_map] at this
      obtain ⟨s, _, rfl⟩ := this
      simp
    rw [List.map_congr_left this]
    simp
  · have := hp.map Int.toNat
    unfold ci at this
    rw [List.map_map] at this
    have e : (Int.toNat ∘ fun s : Nat => (s : Int)) = id := by funext s; simp
    rwa [e, List.map_id] at this
  · rw [List.pairwise_map]
    refine hs.imp_of_mem fun {x y} hx hy h => ?_
    have hx' := hp.subset hx
    have hy' := hp.subset hy
    simp only [ci, List.mem_map] at hx' hy'
    obtain ⟨s, _, rfl⟩ := hx'
    obtain ⟨t, _, rfl⟩ := hy'
    unfold Lx fo at h
    unfold Lf
    simp only [Int.toNat_natCast] at h ⊢
    omega

set_option maxHeartbeats 1000000 in
theorem first_any (v : Value) (l : List Int) (S : List Nat) (w : World) (B c base : Nat) (hl : SI w v l) (ho : OI w base (.slice (some ⟨B, 0, none⟩) S.length c) (ci S)) (hne : ∀ k, v.ownBlock = some k → k < base) (hS : S.Pairwise (· < ·)) (hD : ∀ s ∈ S, s < l.length) (hL : S.length ≤ 288) :
    Calls Try.prog 15 #[v, .slice (some ⟨B, 0, none⟩) S.length c] w fun e w' => e = .returned (.tuple #[]) ∧ ∃ T, Srt l S T ∧ OI w' base (.slice (some ⟨B, 0, none⟩) S.length c) (ci T) ∧ Below base w w' := by
  have HL := hide hl
  obtain ⟨af, cf, rfl, hlc, hcm⟩ := hl.open
  obtain ⟨hb1, hb2⟩ := ho.lt B rfl
  obtain ⟨w1, hw1⟩ : ∃ w1, w1 = w.alloc (.cells #[.slice af l.length cf] 23) := ⟨_, rfl⟩
  have hbel : Below w.heap.size w w1 := by rw [hw1]; exact (Below.refl _ _).alloc (Nat.le_refl _) _
  have hbox : w1.cell? ⟨w.heap.size, 0, none⟩ = some (.slice af l.length cf) := by rw [hw1]; exact (H4.cellNew w _ _).1
  have hrow : Srow w1 w1 B c (ci S) := Srow.refl (by
    rw [ci_len, hw1]
    exact (ho.base (Nat.zero_le _)).alloc _)
  have hcmp := less_cmp (B := B) hbox (hl.below hbel) (by omega) (fun k hk => by have := hne k hk; omega)
  have hSi : (ci S).Pairwise (· < ·) := by
    unfold ci
    rw [List.pairwise_map]
    exact hS.imp fun h => by omega
  have HC := hide (sort_any (ci S) hSi hrow hcmp (fun y hy => by
    simp only [ci, List.mem_map] at hy
    obtain ⟨s, hs, rfl⟩ := hy
    have := hD s hs
    omega) (by rw [ci_len]; exact hL))
  have HB := hide hb1
  have hsz : w1.heap.size = w.heap.size + 1 := by rw [hw1]; simp
  rw [ci_len] at HC
  have HW := hide hw1
  have HO := hide ho
  have HBE := hide hbel
  rw [HW.out] at HC
  clear hl ho hne hS hD hrow hcmp hSi hbox hbel hw1 hb1 hsz
  go_enter Try.func15, Try.ntmps15
  go_wp2_with fail
  refine HC.out.mono ?_
  rintro e w2 ⟨rfl, hs⟩
  have HF : Hid (∃ T, Srt l S T ∧ OI w2 base (.slice (some ⟨B, 0, none⟩) S.length c) (ci T) ∧ Below base w w2) := by
    obtain ⟨X, hp, hr, hrow⟩ := hs
    obtain ⟨T, rfl, hT⟩ := srt_of hp hr
    refine ⟨T, hT, ?_, ?_⟩
    · have h1 := hrow.own
      rw [ci_len, hT.perm.length_eq] at h1
      refine ⟨h1.1, ?_⟩
      rcases h1.2 with q | ⟨g, cap, cur, he, _, r⟩
      · simp at q
      · simp only [Value.slice.injEq, Option.some.injEq, Addr.mk.injEq, and_true] at he
        exact .inr ⟨g, cap, cur, by simp only [Value.slice.injEq, Option.some.injEq, Addr.mk.injEq, and_true]; exact he, by rw [← he.1]; exact HB.out, r⟩
    · have ho := hrow.only
      have hle : base ≤ w.heap.size := by have := HB.out; omega
      refine ⟨ho.os, ho.tape, ho.output, ?_, fun k hk => ?_⟩
      · rw [ho.size]; simp
      · rw [ho.block k (by have := HB.out; omega)]
        exact Below.heap_alloc w _ k (by omega)
  clear hs
  go_wp2
  (try simp only [Exit.inBlock, Exit.then])
  refine bodyPost_end (results_none rfl _ _ _) rfl ?_
  exact ⟨rfl, HF.out⟩
end Go.Proofs.Ytncniahpglgkmaa

