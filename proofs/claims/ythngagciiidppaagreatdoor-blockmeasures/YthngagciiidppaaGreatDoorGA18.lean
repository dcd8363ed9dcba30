import Derived.Test.YthngagciiidppaaGreatDoorGA17
import Derived.Test.YthngagciiidppaaGreatDoorGA11
import Derived.Test.YthngagciiidppaaGreatDoorGA14
import Derived.Test.YthngagciiidppaaGreatDoorGA13
import Derived.Test.YthngagciiidppaaGreatDoorGA09
namespace Go.Proofs.YthngagciiidppaaGreatDoor
open Go.RowKit Go.Maps
set_option maxRecDepth 20000
set_option linter.unusedVariables false

/-- Sorted: a row of what stood there, in order. -/
def Std (w0 w' : World) (B c : Nat) (S : List Int) (f : Int → Int) : Prop := ∃ X, X.Perm S ∧ X.Pairwise (Lx f) ∧ Srow w0 w' B c X

theorem perm_all {D : Int → Prop} {S T : List Int} (hS : ∀ y ∈ S, D y) (h : ∀ y ∈ T, y ∈ S) : ∀ y ∈ T, D y := fun y hy => hS y (h y hy)

/-- What the row holds stays what it held. -/
structure Row1 (w0 w : World) (B c : Nat) (D : Int → Prop) (L : Nat) (X : List Int) : Prop where
  row : Srow w0 w B c X
  dom : ∀ y ∈ X, D y
  len : X.length = L

theorem Row1.next {w0 w w' : World} {B c L : Nat} {D : Int → Prop} {X T Y C : List Int} {a d : Nat} (h : Row1 w0 w B c D L X) (hp : Pce X T Y a d) (hy : Y.Perm C) (hC : ∀ y ∈ C, y ∈ X) (hr : Srow w0 w' B c T) : Row1 w0 w' B c D L T := by
  refine ⟨hr, fun y hm => ?_, hp.tl.trans h.len⟩
  rw [hp.eq] at hm
  rcases List.mem_append.1 hm with q | q
  · exact h.dom y (List.mem_of_mem_take q)
  · rcases List.mem_append.1 q with q | q
    · exact h.dom y (hC y (hy.subset q))
    · exact h.dom y (List.mem_of_mem_drop q)

theorem sg_mem {X : List Int} {a d : Nat} {y : Int} (h : y ∈ sg X a d) : y ∈ X := List.mem_of_mem_drop (List.mem_of_mem_take h)

/-- A block of 20 (or what is left). -/
theorem blk_call {w0 w : World} {B c L : Nat} {p : Value} {f : Int → Int} {D : Int → Prop} {S X : List Int} (hS : S.Pairwise (· < ·)) (hc : Cmp w0 B p f D) (h : Row1 w0 w B c D L X) (hk : ∃ a, Bk1 f S X a ∧ True) (a b : Nat) (hb1 : Bk1 f S X a) (hL : L ≤ 288) (ha : a ≤ L) (hb : b = min (a + 20) L) :
    Calls Tryz.prog 103 #[.slice (some ⟨B, 0, none⟩) L c, .int .i64 a, .int .i64 b, .func (.func 88) #[] #[p]] w fun e w' => e = .returned (.tuple #[]) ∧ ∃ T, Row1 w0 w' B c D L T ∧ Bk1 f S T (a + 20) := by
  have hXl := h.len
  have e : sg X a 20 = sg S a 20 := by unfold sg; rw [hb1.high]
  have hla : (X.take a).length = a := by rw [List.length_take]; omega
  have := ins_any (X.take a) (sg X a 20) (X.drop (a + 20)) X (sg_cut X a 20) h.row hc h.dom (by omega) a b hla.symm (by rw [hla, sg_len]; omega) (by rw [e]; exact sg_rise hS a 20)
  rw [hXl] at this
  refine this.mono fun e w' ⟨he, hm⟩ => ⟨he, ?_⟩
  obtain ⟨Y, T, hp, hy, hs, hr⟩ := mrg_pce hm rfl rfl (by omega)
  exact ⟨T, h.next hp hy (fun y q => sg_mem q) hr, bk1_next hb1 hp hy hs⟩

/-- Two blocks become one. -/
theorem mrg_call {w0 w : World} {B c L : Nat} {p : Value} {f : Int → Int} {D : Int → Prop} {S X : List Int} (hS : S.Pairwise (· < ·)) (hc : Cmp w0 B p f D) (h : Row1 w0 w B c D L X) (a m b bs : Nat) (hbs : 0 < bs) (hb1 : Bst f S X bs a) (hL : L ≤ 288) (hm : m = a + bs) (hmL : m < L) (hb : b = min (a + 2 * bs) L) :
    Calls Tryz.prog 104 #[.slice (some ⟨B, 0, none⟩) L c, .int .i64 a, .int .i64 m, .int .i64 b, .func (.func 88) #[] #[p]] w fun e w' => e = .returned (.tuple #[]) ∧ ∃ T, Row1 w0 w' B c D L T ∧ Bst f S T bs (a + 2 * bs) := by
  have hXl := h.len
  obtain ⟨hU, hV, hx⟩ := bst_in hS hb1
  have hla : (X.take a).length = a := by rw [List.length_take]; omega
  have lU : (sg X a bs).length = bs := by rw [sg_len]; omega
  have lV : (sg X (a + bs) bs).length = b - m := by rw [sg_len]; omega
  have e : sg X a (2 * bs) = sg X a bs ++ sg X (a + bs) bs := by rw [show 2 * bs = bs + bs by omega, sg_add]
  have hX : X = X.take a ++ (sg X a bs ++ (sg X (a + bs) bs ++ X.drop (a + 2 * bs))) := by
    have := sg_cut X a (2 * bs)
    rw [e] at this
    simpa using this
  have := sym_all (c := c) hc (X.length) w (X.take a) (sg X a bs) (sg X (a + bs) bs) (X.drop (a + 2 * bs)) X a m b (by rw [lU, lV]; omega) hX h.row h.dom (by omega) hla.symm (by rw [hla, lU]; exact hm) (by rw [lV]; omega) (by omega) (by rw [lV]; omega) hU hV hx
  rw [hXl] at this
  refine this.mono fun e' w' ⟨he, hm'⟩ => ⟨he, ?_⟩
  obtain ⟨Y, T, hp, hy, hs, hr⟩ := mrg_pce (d := 2 * bs) hm' rfl (by rw [e]) (by omega)
  refine ⟨T, h.next hp hy (fun y q => ?_) hr, bst_next hbs hb1 hp hy hs⟩
  rcases List.mem_append.1 q with q | q
  · exact sg_mem q
  · exact sg_mem q

set_option maxHeartbeats 4000000 in
theorem stab_any {w0 w : World} {B c : Nat} {p : Value} {f : Int → Int} {D : Int → Prop} (S : List Int) (hS : S.Pairwise (· < ·)) (h : Srow w0 w B c S) (hc : Cmp w0 B p f D) (hD : ∀ y ∈ S, D y) (hL : S.length ≤ 288) :
    Calls Tryz.prog 97 #[.slice (some ⟨B, 0, none⟩) S.length c, .int .i64 S.length, .func (.func 88) #[] #[p]] w fun e w' => e = .returned (.tuple #[]) ∧ Std w0 w' B c S f := by
  obtain ⟨L, HLL⟩ : ∃ L, Hid (L = S.length) := ⟨_, rfl⟩
  have HSS := hide hS
  have HCM := hide hc
  have HK0 : Hid (∃ X, Row1 w0 w B c D L X ∧ Bk1 f S X 0) := ⟨S, ⟨h, hD, HLL.out.symm⟩, rfl, Nat.dvd_zero _, (fun c hc => by omega), rfl⟩
  rw [← HLL.out] at hL ⊢
  clear h hc hD hS
  go_enter Tryz.func97, Tryz.ntmps97
  go_wp2
  go_loopw [7, 8] (fun va vb wr => ∃ a : Nat, a ≤ L ∧ va = .int .i64 a ∧ vb = .int .i64 ((a : Int) + 20) ∧ Hid (∃ X, Row1 w0 wr B c D L X ∧ Bk1 f S X a)) (fun va _ _ => L - (intOf va).toNat)
  case atStart => exact ⟨0, Nat.zero_le _, rfl, by go_num, HK0⟩
  case round =>
    obtain ⟨a, haL, rfl, rfl, HK⟩ := hrel
    obtain ⟨X, hr, hk⟩ := HK.out
    by_cases hlt : a + 20 ≤ L
    · have hlt' : (a : Int) + 20 ≤ (L : Int) := by omega
      have HC := hide (blk_call HSS.out HCM.out hr ⟨a, hk, trivial⟩ a (a + 20) hk hL haL (by omega))
      have hcast : ((a + 20 : Nat) : Int) = (a : Int) + 20 := by omega
      rw [hcast] at HC
      clear hr hk HK hcast
      go_wp2_with fail
      refine HC.out.mono ?_
      rintro e w2 ⟨rfl, hT⟩
      have HT := hide hT
      clear hT
      have hcc : ((a : Int) + 20) + 20 = (a : Int) + 40 := by omega
      go_wp2
      go_roundw
      case rel => exact ⟨a + 20, hlt, by go_num, by go_num, HT⟩
      case measure => simp [intOf]; omega
    · have hlt' : ¬ (a : Int) + 20 ≤ (L : Int) := by omega
      have HC := hide (blk_call HSS.out HCM.out hr ⟨a, hk, trivial⟩ a L hk hL haL (by omega))
      clear hr hk HK
      go_wp2_with fail
      refine HC.out.mono ?_
      rintro e w2 ⟨rfl, hT⟩
      have HB0 : Hid (∃ X, Row1 w0 w2 B c D L X ∧ Bst f S X 20 0) := by
        obtain ⟨T, h1, h2⟩ := hT
        exact ⟨T, h1, bk1_end h2 (by rw [h1.len]; omega)⟩
      clear hT HC
      go_wp2
      go_loopw [6] (fun vb wr => ∃ bs : Nat, 20 ≤ bs ∧ bs ≤ 600 ∧ vb = .int .i64 bs ∧ Hid (∃ X, Row1 w0 wr B c D L X ∧ Bst f S X bs 0)) (fun vb _ => 1000 - (intOf vb).toNat)
      case atStart => exact ⟨20, Nat.le_refl _, by omega, rfl, HB0⟩
      case round =>
        obtain ⟨bs, hb20, hb6, rfl, HB⟩ := hrel
        by_cases hbl : bs < L
        · have hbl' : (bs : Int) < (L : Int) := by omega
          have hw2 : (2 : Int) * (bs : Int) = ((2 * bs : Nat) : Int) := by omega
          obtain ⟨d, hd⟩ : ∃ d, d = 2 * bs := ⟨_, rfl⟩
          have hd1 : (2 : Int) * (bs : Int) = (d : Int) := by omega
          have hd2 : (bs : Int) * 2 = (d : Int) := by omega
          have hd3 : 2 * bs ≤ d ∧ d ≤ 2 * bs := by omega
          have HD := hide hd
          clear hw2 hd
          go_wp2
          go_loopw [7, 8] (fun va vb wr => ∃ a : Nat, a ≤ L ∧ va = .int .i64 a ∧ vb = .int .i64 ((a : Int) + d) ∧ Hid (∃ X, Row1 w0 wr B c D L X ∧ Bst f S X bs a)) (fun va _ _ => L - (intOf va).toNat)
          case atStart => exact ⟨0, Nat.zero_le _, rfl, by go_num, HB⟩
          case round =>
            obtain ⟨a, haL2, rfl, rfl, HK⟩ := hrel
            obtain ⟨X, hr, hk⟩ := HK.out
            by_cases hle : a + d ≤ L
            · have hle' : (a : Int) + d ≤ (L : Int) := by omega
              have HC := hide (mrg_call HSS.out HCM.out hr a (a + bs) (a + d) bs (by omega) hk hL rfl (by omega) (by omega))
              rw [← HD.out] at HC
              have c1 : ((a + bs : Nat) : Int) = (a : Int) + bs := by omega
              have c2 : ((a + d : Nat) : Int) = (a : Int) + d := by omega
              rw [c1, c2] at HC
              clear hr hk HK c1 c2
              go_wp2_with fail
              refine HC.out.mono ?_
              rintro e w3 ⟨rfl, hT⟩
              have HT := hide hT
              clear hT
              go_wp2
              go_roundw
              case rel => exact ⟨a + d, hle, by go_num, by go_num, HT⟩
              case measure => simp [intOf]; omega
            · have hle' : ¬ (a : Int) + d ≤ (L : Int) := by omega
              by_cases hmm : a + bs < L
              · have hmm' : (a : Int) + bs < (L : Int) := by omega
                have HC := hide (mrg_call HSS.out HCM.out hr a (a + bs) L bs (by omega) hk hL rfl hmm (by omega))
                have c1 : ((a + bs : Nat) : Int) = (a : Int) + bs := by omega
                rw [c1] at HC
                clear hr hk HK c1
                go_wp2_with fail
                refine HC.out.mono ?_
                rintro e w3 ⟨rfl, hT⟩
                have HT : Hid (∃ X, Row1 w0 w3 B c D L X ∧ Bst f S X d 0) := by
                  obtain ⟨T, h1, h2⟩ := hT
                  rw [HD.out]
                  exact ⟨T, h1, bst_end h2 (by rw [h1.len]; omega)⟩
                clear hT
                go_wp2
                go_roundw
                case rel => exact ⟨d, by omega, by omega, by go_num, HT⟩
                case measure => simp [intOf]; omega
              · have hmm' : ¬ (a : Int) + bs < (L : Int) := by omega
                have HT : Hid (∃ X, Row1 w0 wr B c D L X ∧ Bst f S X d 0) := by
                  rw [HD.out]
                  exact ⟨X, hr, bst_end (bst_skip (by omega) hk (by rw [hr.len]; omega)) (by rw [hr.len]; omega)⟩
                clear hr hk HK
                go_wp2
                go_roundw
                case rel => exact ⟨d, by omega, by omega, by go_num, HT⟩
                case measure => simp [intOf]; omega
        · have hbl' : ¬ (bs : Int) < (L : Int) := by omega
          have HF : Hid (Std w0 wr B c S f) := by
            obtain ⟨X, h1, h2⟩ := HB.out
            obtain ⟨p1, p2⟩ := bst_done h2 (by rw [h1.len]; omega)
            exact ⟨X, p1, p2, h1.row⟩
          go_wp2
          (try simp only [Exit.inBlock, Exit.then])
          refine bodyPost_end (results_none rfl _ _ _) rfl ?_
          exact ⟨rfl, HF.out⟩
end Go.Proofs.YthngagciiidppaaGreatDoor

namespace Go.Proofs.YthngagciiidppaaGreatDoor
open Go.RowKit Go.Maps
set_option maxRecDepth 20000
set_option linter.unusedVariables false

theorem isNaN_any (w : World) (x : Int) : Calls Tryz.prog 98 #[.int .i64 x] w fun e w' => e = .returned (.bool false) ∧ w' = w := by
  have h : (x != x) = false := by simp
  go_enter Tryz.func98, Tryz.ntmps98
  go_wp2
  go_ret
  exact ⟨by simp, rfl⟩

theorem cmpI_any (w : World) (x y : Int) : Calls Tryz.prog 89 #[.int .i64 x, .int .i64 y] w fun e w' => e = .returned (.int .i64 (cmpv x y)) ∧ w' = w := by
  by_cases h1 : x < y
  · have HE : Hid (cmpv x y = -1) := if_pos h1
    rw [HE.out]
    go_enter Tryz.func89, Tryz.ntmps89
    go_wp2_with fail
    refine (isNaN_any _ x).mono ?_
    rintro e w1 ⟨rfl, rfl⟩
    go_wp2_with fail
    refine (isNaN_any _ y).mono ?_
    rintro e w2 ⟨rfl, rfl⟩
    go_wp2
    go_ret
    exact ⟨rfl, rfl⟩
  · by_cases h2 : y < x
    · have HE : Hid (cmpv x y = 1) := by show cmpv x y = 1; unfold cmpv; rw [if_neg h1, if_pos h2]
      rw [HE.out]
      go_enter Tryz.func89, Tryz.ntmps89
      go_wp2_with fail
      refine (isNaN_any _ x).mono ?_
      rintro e w1 ⟨rfl, rfl⟩
      go_wp2_with fail
      refine (isNaN_any _ y).mono ?_
      rintro e w2 ⟨rfl, rfl⟩
      go_wp2
      go_ret
      exact ⟨rfl, rfl⟩
    · have HE : Hid (cmpv x y = 0) := by show cmpv x y = 0; unfold cmpv; rw [if_neg h1, if_neg h2]
      rw [HE.out]
      go_enter Tryz.func89, Tryz.ntmps89
      go_wp2_with fail
      refine (isNaN_any _ x).mono ?_
      rintro e w1 ⟨rfl, rfl⟩
      go_wp2_with fail
      refine (isNaN_any _ y).mono ?_
      rintro e w2 ⟨rfl, rfl⟩
      go_wp2
      go_ret
      exact ⟨rfl, rfl⟩

/-- The closure that compares two symbols by their frequencies. -/
theorem less_any (W : World) (Bs : Nat) (af : Option Addr) (cf : Nat) (l : List Int) (hb : W.cell? ⟨Bs, 0, none⟩ = some (.slice af l.length cf)) (hs : SI W (.slice af l.length cf) l) (x y : Int) (hx : 0 ≤ x ∧ x < l.length) (hy : 0 ≤ y ∧ y < l.length) :
    Calls Tryz.prog 88 #[.int .i64 x, .int .i64 y, .pointer (some ⟨Bs, 0, none⟩)] W fun e W' => e = .returned (.int .i64 (cmpv (l.getD x.toNat 0) (l.getD y.toNat 0))) ∧ ∃ q, W' = W.drewN q := by
  obtain ⟨i, rfl⟩ : ∃ i : Nat, x = i := ⟨x.toNat, by omega⟩
  obtain ⟨j, rfl⟩ : ∃ j : Nat, y = j := ⟨y.toNat, by omega⟩
  obtain ⟨b1, o1, rfl, c1⟩ := hs.get (Below.refl _ _) (k := i) (by omega)
  obtain ⟨b2, o2, he, c2⟩ := hs.get (Below.refl _ _) (k := j) (by omega)
  simp only [Option.some.injEq, Addr.mk.injEq, and_true] at he
  obtain ⟨rfl, rfl⟩ := he
  have HSI := hide hs
  obtain ⟨u, HU⟩ : ∃ u, Hid (u = l.getD i 0) := ⟨_, rfl⟩
  obtain ⟨v, HV⟩ : ∃ u, Hid (u = l.getD j 0) := ⟨_, rfl⟩
  have e1 : (i : Int).toNat = i := by omega
  have e2 : (j : Int).toNat = j := by omega
  rw [e1, e2, ← HU.out, ← HV.out]
  rw [← HU.out] at c1
  rw [← HV.out] at c2
  have HC : Hid (∀ n, Calls Tryz.prog 89 #[.int .i64 u, .int .i64 v] (W.drewN n) fun e W' => e = .returned (.int .i64 (cmpv u v)) ∧ ∃ k, W' = W.drewN k) := fun n => (cmpI_any (W.drewN n) u v).mono fun e W' ⟨he, hw⟩ => ⟨he, n, hw⟩
  obtain ⟨cv, HCV⟩ : ∃ cv, Hid (cv = cmpv u v) := ⟨_, rfl⟩
  rw [← HCV.out] at HC ⊢
  have hi : (i : Int) < (l.length : Int) := hx.2
  have hj : (j : Int) < (l.length : Int) := hy.2
  clear hs hx hy e1 e2
  go_enter Tryz.func88, Tryz.ntmps88
  go_wp2
  go_quiet (first | (go_at_call 89; exact HC.out _))
  go_wp2
  go_ret
  exact ⟨rfl, _, rfl⟩

def fo (l : List Int) (x : Int) : Int := l.getD x.toNat 0

theorem less_cmp {w : World} {B Bs : Nat} {af : Option Addr} {cf : Nat} {l : List Int} (hb : w.cell? ⟨Bs, 0, none⟩ = some (.slice af l.length cf)) (hs : SI w (.slice af l.length cf) l) (h1 : Bs ≠ B) (h2 : ∀ k, (Value.slice af l.length cf).ownBlock = some k → k ≠ B) :
    Cmp w B (.pointer (some ⟨Bs, 0, none⟩)) (fo l) (fun x => 0 ≤ x ∧ x < l.length) := fun W hW x y hx hy => by
  have hbl : ∀ k, k ≠ B → W.heap[k]? = w.heap[k]? := hW.block
  have hcell : ∀ a : Addr, a.block ≠ B → W.cell? a = w.cell? a := fun a ha => by unfold World.cell?; rw [hbl _ ha]
  refine less_any W Bs af cf l ?_ ?_ x y hx hy
  · rw [hcell _ h1]; exact hb
  · exact hs.move fun a u ha hk => by rw [hcell _ (h2 _ hk)]; exact ha

set_option maxHeartbeats 1000000 in
theorem sort_any {w0 w : World} {B c : Nat} {p : Value} {f : Int → Int} {D : Int → Prop} (S : List Int) (hS : S.Pairwise (· < ·)) (h : Srow w0 w B c S) (hc : Cmp w0 B p f D) (hD : ∀ y ∈ S, D y) (hL : S.length ≤ 288) :
    Calls Tryz.prog 87 #[.slice (some ⟨B, 0, none⟩) S.length c, .func (.func 88) #[] #[p]] w fun e w' => e = .returned (.tuple #[]) ∧ Std w0 w' B c S f := by
  have HC := hide (stab_any S hS h hc hD hL)
  clear h hc hD hS
  obtain ⟨L, HLL⟩ : ∃ L, Hid (L = S.length) := ⟨_, rfl⟩
  rw [← HLL.out] at HC ⊢
  go_enter Tryz.func87, Tryz.ntmps87
  go_wp2_with fail
  refine HC.out.mono ?_
  rintro e w1 ⟨rfl, hs⟩
  have HS := hide hs
  clear hs
  go_wp2
  (try simp only [Exit.inBlock, Exit.then])
  refine bodyPost_end (results_none rfl _ _ _) rfl ?_
  exact ⟨rfl, HS.out⟩

/-- The order by frequency, then by symbol. -/
def Lf (l : List Int) (s t : Nat) : Prop := l.getD s 0 < l.getD t 0 ∨ l.getD s 0 = l.getD t 0 ∧ s < t

/-- Sorted symbols. -/
structure Srt (l : List Int) (S T : List Nat) : Prop where
  perm : T.Perm S
  rise : T.Pairwise (Lf l)

theorem srt_of {l : List Int} {S : List Nat} {X : List Int} (hp : X.Perm (ci S)) (hs : X.Pairwise (Lx (fo l))) : ∃ T, X = ci T ∧ Srt l S T := by
  refine ⟨X.map Int.toNat, ?_, ?_, ?_⟩
  · unfold ci
    rw [List.map_map]
    have : ∀ x ∈ X, ((fun s : Nat => (s : Int)) ∘ Int.toNat) x = x := fun x hx => by
      have := hp.subset hx
      simp only [ci, List.mem_map] at this
      obtain ⟨s, _, rfl⟩ := this
      simp
    rw [List.map_congr_left this]
    simp
  · have := hp.map Int.toNat
    unfold ci at this
    rw [List.map_map] at this
    have e : (Int.toNat ∘ fun s : Nat => (s : Int)) = id := by funext s; simp
    rwa [e, List.map_id] at this
  · rw [List.pairwise_map]
    refine hs.imp_of_mem fun {x y} hx hy h => ?_
    have hx' := hp.subset hx
    have hy' := hp.subset hy
    simp only [ci, List.mem_map] at hx' hy'
    obtain ⟨s, _, rfl⟩ := hx'
    obtain ⟨t, _, rfl⟩ := hy'
    unfold Lx fo at h
    unfold Lf
    simp only [Int.toNat_natCast] at h ⊢
    omega

set_option maxHeartbeats 1000000 in
theorem first_any (v : Value) (l : List Int) (S : List Nat) (w : World) (B c base : Nat) (hl : SI w v l) (ho : OI w base (.slice (some ⟨B, 0, none⟩) S.length c) (ci S)) (hne : ∀ k, v.ownBlock = some k → k < base) (hS : S.Pairwise (· < ·)) (hD : ∀ s ∈ S, s < l.length) (hL : S.length ≤ 288) :
    Calls Tryz.prog 70 #[v, .slice (some ⟨B, 0, none⟩) S.length c] w fun e w' => e = .returned (.tuple #[]) ∧ ∃ T, Srt l S T ∧ OI w' base (.slice (some ⟨B, 0, none⟩) S.length c) (ci T) ∧ Below base w w' := by
  have HL := hide hl
  obtain ⟨af, cf, rfl, hlc, hcm⟩ := hl.open
  obtain ⟨hb1, hb2⟩ := ho.lt B rfl
  obtain ⟨w1, hw1⟩ : ∃ w1, w1 = w.alloc (.cells #[.slice af l.length cf] 36) := ⟨_, rfl⟩
  have hbel : Below w.heap.size w w1 := by rw [hw1]; exact (Below.refl _ _).alloc (Nat.le_refl _) _
  have hbox : w1.cell? ⟨w.heap.size, 0, none⟩ = some (.slice af l.length cf) := by rw [hw1]; exact (H4.cellNew w _ _).1
  have hrow : Srow w1 w1 B c (ci S) := Srow.refl (by
    rw [ci_len, hw1]
    exact (ho.base (Nat.zero_le _)).alloc _)
  have hcmp := less_cmp (B := B) hbox (hl.below hbel) (by omega) (fun k hk => by have := hne k hk; omega)
  have hSi : (ci S).Pairwise (· < ·) := by
    unfold ci
    rw [List.pairwise_map]
    exact hS.imp fun h => by omega
  have HC := hide (sort_any (ci S) hSi hrow hcmp (fun y hy => by
    simp only [ci, List.mem_map] at hy
    obtain ⟨s, hs, rfl⟩ := hy
    have := hD s hs
    omega) (by rw [ci_len]; exact hL))
  have HB := hide hb1
  have hsz : w1.heap.size = w.heap.size + 1 := by rw [hw1]; simp
  rw [ci_len] at HC
  have HW := hide hw1
  have HO := hide ho
  have HBE := hide hbel
  rw [HW.out] at HC
  clear hl ho hne hS hD hrow hcmp hSi hbox hbel hw1 hb1 hsz
  go_enter Tryz.func70, Tryz.ntmps70
  go_wp2_with fail
  refine HC.out.mono ?_
  rintro e w2 ⟨rfl, hs⟩
  have HF : Hid (∃ T, Srt l S T ∧ OI w2 base (.slice (some ⟨B, 0, none⟩) S.length c) (ci T) ∧ Below base w w2) := by
    obtain ⟨X, hp, hr, hrow⟩ := hs
    obtain ⟨T, rfl, hT⟩ := srt_of hp hr
    refine ⟨T, hT, ?_, ?_⟩
    · have h1 := hrow.own
      rw [ci_len, hT.perm.length_eq] at h1
      refine ⟨h1.1, ?_⟩
      rcases h1.2 with q | ⟨g, cap, cur, he, _, r⟩
      · simp at q
      · simp only [Value.slice.injEq, Option.some.injEq, Addr.mk.injEq, and_true] at he
        exact .inr ⟨g, cap, cur, by simp only [Value.slice.injEq, Option.some.injEq, Addr.mk.injEq, and_true]; exact he, by rw [← he.1]; exact HB.out, r⟩
    · have ho := hrow.only
      have hle : base ≤ w.heap.size := by have := HB.out; omega
      refine ⟨ho.os, ho.tape, ho.output, ?_, fun k hk => ?_⟩
      · rw [ho.size]; simp
      · rw [ho.block k (by have := HB.out; omega)]
        exact Below.heap_alloc w _ k (by omega)
  clear hs
  go_wp2
  (try simp only [Exit.inBlock, Exit.then])
  refine bodyPost_end (results_none rfl _ _ _) rfl ?_
  exact ⟨rfl, HF.out⟩
end Go.Proofs.YthngagciiidppaaGreatDoor

namespace Go.Proofs.YthngagciiidppaaGreatDoor
open Go.RowKit Go.Maps
set_option maxRecDepth 20000
set_option linter.unusedVariables false

/-- The used symbols, by frequency, then by symbol. -/
def srl (l : List Int) : List Nat := (us6 l).mergeSort fun s t => decide (l.getD s 0 < l.getD t 0 ∨ l.getD s 0 = l.getD t 0 ∧ s ≤ t)

theorem srl_srt (l : List Int) : Srt l (us6 l) (srl l) := by
  have hp := List.mergeSort_perm (us6 l) fun s t => decide (l.getD s 0 < l.getD t 0 ∨ l.getD s 0 = l.getD t 0 ∧ s ≤ t)
  refine ⟨hp, ?_⟩
  have h := List.pairwise_mergeSort (le := fun s t => decide (l.getD s 0 < l.getD t 0 ∨ l.getD s 0 = l.getD t 0 ∧ s ≤ t)) (fun a b c h1 h2 => by simp only [decide_eq_true_eq] at *; omega) (fun a b => by simp only [Bool.or_eq_true, decide_eq_true_eq]; omega) (us6 l)
  have hn : (srl l).Nodup := hp.nodup_iff.2 (us_nodup l)
  refine (h.and hn).imp fun {a b} hab => ?_
  obtain ⟨h1, h2⟩ := hab
  simp only [decide_eq_true_eq] at h1
  unfold Lf
  omega

theorem srt_eq {l : List Int} {S T T' : List Nat} (h : Srt l S T) (h' : Srt l S T') : T = T' :=
  (h.perm.trans h'.perm.symm).eq_of_pairwise (le := Lf l) (fun a b _ _ h1 h2 => by unfold Lf at h1 h2; omega) h.rise h'.rise

theorem srl_len (l : List Int) : (srl l).length = (us6 l).length := (srl_srt l).perm.length_eq
theorem srl_mem {l : List Int} {s : Nat} : s ∈ srl l ↔ s ∈ us6 l := (srl_srt l).perm.mem_iff
theorem srl_nodup (l : List Int) : (srl l).Nodup := (srl_srt l).perm.nodup_iff.2 (us_nodup l)

/-- The weights of the leaves. -/
def lws (l : List Int) : List Nat := (srl l).map (fq l)

theorem lws_len (l : List Int) : (lws l).length = (us6 l).length := by simp [lws, srl_len]

theorem lws_rise {l : List Int} (h : ∀ i, 0 ≤ l.getD i 0) : Rise (lws l) := by
  unfold lws Rise
  rw [List.pairwise_map]
  refine (srl_srt l).rise.imp fun {a b} hab => ?_
  unfold Lf at hab
  have := h a
  have := h b
  unfold fq
  omega

/-- Limited's length of a symbol. -/
def lm (l : List Int) (L s : Nat) : Nat := if (us6 l).length = 1 then (if s ∈ us6 l then 1 else 0) else if s ∈ us6 l then ct (sel (lws l) L (2 * (us6 l).length - 2)) ((srl l).idxOf s) else 0

def lmt (l : List Int) (L : Nat) : List Int := (List.range l.length).map fun s => (lm l L s : Int)

def lmE (l : List Int) (lim : Int) : Int := if 288 < l.length ∨ lim < 1 ∨ 15 < lim then 1 else if bnb l 4294967296 = false then 61 else if 2 ^ lim.toNat < (us6 l).length then 60 else 0
def lmL (l : List Int) (lim : Int) : List Int := if lmE l lim = 0 then lmt l lim.toNat else []

theorem lmt_len (l : List Int) (L : Nat) : (lmt l L).length = l.length := by simp [lmt]

theorem lm_out {l : List Int} {L s : Nat} (h : s ∉ us6 l) : lm l L s = 0 := by
  unfold lm
  rw [if_neg h, if_neg h]
  split <;> rfl

theorem lmt_spr (l : List Int) (L : Nat) : spr l.length (srl l) (fun s => (lm l L s : Int)) = lmt l L := by
  unfold spr lmt
  refine List.map_congr_left fun s _ => ?_
  by_cases h : s ∈ srl l
  · rw [if_pos h]
  · rw [if_neg h, lm_out (fun q => h (srl_mem.2 q))]; rfl

theorem lmt_few {l : List Int} {L : Nat} (h : (us6 l).length < 2) : spr l.length (us6 l) (fun _ => 1) = lmt l L := by
  unfold spr lmt
  refine List.map_congr_left fun s _ => ?_
  by_cases hs : s ∈ us6 l
  · have h1 : (us6 l).length = 1 := by have := List.length_pos_of_mem hs; omega
    rw [if_pos hs]
    unfold lm
    rw [if_pos h1, if_pos hs]
    rfl
  · rw [if_neg hs, lm_out hs]; rfl

theorem lm_at {l : List Int} {L i : Nat} (h2 : 2 ≤ (us6 l).length) (hi : i < (srl l).length) : lm l L ((srl l)[i]) = ct (sel (lws l) L (2 * (us6 l).length - 2)) i := by
  unfold lm
  rw [if_neg (by omega), if_pos (srl_mem.1 (List.getElem_mem hi)), (srl_nodup l).idxOf_getElem i hi]

theorem lm_pack {l : List Int} {L : Nat} (h2 : 2 ≤ (us6 l).length) : hls (us6 l).length (ct (sel (lws l) L (2 * (us6 l).length - 2))) = (srl l).map fun s => (lm l L s : Int) := by
  apply List.ext_getElem
  · simp [hls, srl_len]
  · intro i h1 h3
    rw [List.length_map] at h3
    simp only [hls, List.getElem_map, List.getElem_range]
    rw [lm_at h2 h3]
end Go.Proofs.YthngagciiidppaaGreatDoor

namespace Go.Proofs.YthngagciiidppaaGreatDoor
open Go.RowKit Go.Maps
set_option maxRecDepth 20000
set_option linter.unusedVariables false

/-- Leaves and packages merged, each with its mark. -/
def cmr : List Nat → List Nat → List (Nat × Bool)
  | [], p => p.map (·, false)
  | a :: w, [] => (a :: w).map (·, true)
  | a :: w, b :: p => if a ≤ b then (a, true) :: cmr w (b :: p) else (b, false) :: cmr (a :: w) p
termination_by w p => w.length + p.length

theorem cmr_nil (w : List Nat) : cmr w [] = w.map (·, true) := by cases w <;> simp [cmr]

theorem cmr_fst (w p : List Nat) : (cmr w p).map (·.1) = mrg w p := by
  induction w, p using cmr.induct with
  | case1 p => simp [cmr, mrg, Function.comp_def]
  | case2 a w => simp [cmr, mrg, Function.comp_def]
  | case3 a w b p h ih => simp only [cmr, mrg, if_pos h, List.map_cons, ih]
  | case4 a w b p h ih => simp only [cmr, mrg, if_neg h, List.map_cons, ih]

theorem cmr_len (w p : List Nat) : (cmr w p).length = w.length + p.length := by
  have := congrArg List.length (cmr_fst w p)
  rw [List.length_map, mrg_len] at this
  exact this

/-- Leaves among the first m. -/
def lvs (R : List (Nat × Bool)) (m : Nat) : Nat := ((R.take m).filter (·.2)).length

theorem cmr_cnt (w p : List Nat) (m : Nat) : lvs (cmr w p) m = cnt w p m := by
  induction w, p using cmr.induct generalizing m with
  | case1 p =>
    have e : ∀ (p : List Nat) (m : Nat), lvs (p.map (·, false)) m = 0 := fun p m => by
      unfold lvs
      rw [List.length_eq_zero_iff, List.filter_eq_nil_iff]
      intro x hx
      have := List.mem_of_mem_take hx
      obtain ⟨y, _, rfl⟩ := List.mem_map.1 this
      simp
    simp only [cmr, e]
    cases m <;> simp [cnt]
  | case2 a w =>
    have e : ∀ (w : List Nat) (m : Nat), lvs (w.map (·, true)) m = cnt w [] m := fun w => by
      induction w with
      | nil => intro m; cases m <;> simp [lvs, cnt]
      | cons a w ih =>
        intro m
        cases m with
        | zero => simp [lvs, cnt]
        | succ m =>
          have := ih m
          simp only [lvs, List.map_cons, List.take_succ_cons, cnt] at this ⊢
          rw [List.filter_cons_of_pos rfl, List.length_cons, this]
    simp only [cmr]
    exact e (a :: w) m
  | case3 a w b p h ih =>
    cases m with
    | zero => simp [lvs, cnt]
    | succ m =>
      have := ih m
      simp only [cmr, if_pos h, lvs, List.take_succ_cons, cnt] at this ⊢
      rw [List.filter_cons_of_pos rfl, List.length_cons, this]
  | case4 a w b p h ih =>
    cases m with
    | zero => simp [lvs, cnt]
    | succ m =>
      have := ih m
      simp only [cmr, if_neg h, lvs, List.take_succ_cons, cnt] at this ⊢
      rw [List.filter_cons_of_neg (by simp), this]

/-- Coins in memory. -/
def fc (R : List (Nat × Bool)) : List Value := R.flatMap fun p => [.int .i64 (p.1 : Int), .bool p.2]

theorem fc_len (R : List (Nat × Bool)) : (fc R).length = R.length * 2 := by
  induction R with
  | nil => rfl
  | cons a r ih => unfold fc at ih ⊢; rw [List.flatMap_cons, List.length_append, ih]; simp; omega

theorem fc_get {R : List (Nat × Bool)} {i : Nat} (h : i < R.length) : (fc R)[i * 2]? = some (.int .i64 ((R.getD i (0, false)).1 : Int)) ∧ (fc R)[i * 2 + 1]? = some (.bool (R.getD i (0, false)).2) := by
  induction R generalizing i with
  | nil => simp at h
  | cons a r ih =>
    cases i with
    | zero => exact ⟨rfl, rfl⟩
    | succ i =>
      have := ih (i := i) (by simpa using h)
      have e : fc (a :: r) = .int .i64 (a.1 : Int) :: .bool a.2 :: fc r := rfl
      rw [e, show (i + 1) * 2 = i * 2 + 1 + 1 by omega, show i * 2 + 1 + 1 + 1 = (i * 2 + 1) + 1 + 1 by omega]
      simp only [List.getElem?_cons_succ]
      exact this

theorem fc_snoc (R : List (Nat × Bool)) (p : Nat × Bool) : fc (R ++ [p]) = fc R ++ [.int .i64 (p.1 : Int), .bool p.2] := by simp [fc]

def OC (w : World) (base : Nat) (v : Value) (R : List (Nat × Bool)) : Prop := w.ownsRow base 130 2 v R.length (fc R)

theorem OC.lt {w : World} {base : Nat} {v : Value} {R : List (Nat × Bool)} (h : OC w base v R) : ∀ k, v.ownBlock = some k → base ≤ k ∧ k < w.heap.size := World.ownsRow.lt h

theorem OC.move {w w' : World} {base : Nat} {v : Value} {R : List (Nat × Bool)} (h : OC w base v R) (hb : ∀ k, v.ownBlock = some k → w'.heap[k]? = w.heap[k]?) : OC w' base v R := by
  refine ⟨h.1, ?_⟩
  rcases h.2 with h2 | ⟨g, cap, cur, rfl, h1, h2, r⟩
  · exact .inl h2
  · exact .inr ⟨g, cap, cur, rfl, h1, (hb g rfl).trans h2, r⟩

theorem OC.base {w : World} {base base' : Nat} {v : Value} {R : List (Nat × Bool)} (h : OC w base v R) (hb : base' ≤ base) : OC w base' v R := by
  refine ⟨h.1, ?_⟩
  rcases h.2 with h2 | ⟨g, cap, cur, rfl, h1, r⟩
  · exact .inl h2
  · exact .inr ⟨g, cap, cur, rfl, Nat.le_trans hb h1, r⟩

theorem OC.below {w w' : World} {base B : Nat} {v : Value} {R : List (Nat × Bool)} (h : OC w base v R) (hb : Below B w w') (hB : w.heap.size ≤ B) : OC w' base v R :=
  h.move fun k hk => hb.block k (Nat.lt_of_lt_of_le (h.lt k hk).2 hB)

theorem OC.alloc {w : World} {base : Nat} {v : Value} {R : List (Nat × Bool)} (h : OC w base v R) (o : Obj) : OC (w.alloc o) base v R := h.move fun k hk => Below.heap_alloc w o k (h.lt k hk).2

theorem OC.shape {w : World} {base : Nat} {v : Value} {R : List (Nat × Bool)} (h : OC w base v R) : ∃ a c, v = .slice a R.length c ∧ R.length ≤ c ∧ c ≤ 9223372036854775807 := by
  rcases h.2 with ⟨rfl, h0⟩ | ⟨g, cap, cur, rfl, _, _, h3, h4, _⟩
  · exact ⟨none, 0, by rw [h0], by omega, by omega⟩
  · unfold maxLen at h4; exact ⟨_, _, rfl, h3, by omega⟩

theorem OC.get {w : World} {base : Nat} {v : Value} {R : List (Nat × Bool)} (h : OC w base v R) {i : Nat} (hi : i < R.length) : ∃ g c, v = .slice (some ⟨g, 0, none⟩) R.length c ∧ w.cell? ⟨g, i * 2, none⟩ = some (.int .i64 ((R.getD i (0, false)).1 : Int)) ∧ w.cell? ⟨g, i * 2 + 1, none⟩ = some (.bool (R.getD i (0, false)).2) := by
  have hc := @World.ownsRow.cells _ _ _ _ _ _ _ h
  rcases h.2 with ⟨rfl, h0⟩ | ⟨g, cap, cur, rfl, _⟩
  · omega
  · obtain ⟨g1, g2⟩ := fc_get hi
    have c1 := hc (g := g) rfl _ _ g1
    have c2 := hc (g := g) rfl _ _ g2
    rw [Addr.add_lit, Nat.zero_add] at c1 c2
    exact ⟨g, cap, rfl, c1, c2⟩

theorem infoCoin : (Tryz.prog.info? 130).map (fun i => (i.zero, i.size, i.bytes)) = some (some (.agg #[.int .i64 0, .bool false]), 2, 16) := by kernel_rfl

/-- One more coin behind an owned row. -/
theorem wpCoin {w : World} {ops : Array Oper} {rest : List Oper} {o : Oper} {a : Act} {Q : Exit → Act → World → Prop} (hgd : o.guard = none) (s x : Operand)
    (ho : o.op = .call { callee := .builtin .append, args := #[s, x], argTypes := #[127, 127] }) (base : Nat) (v : Value) (R : List (Nat × Bool)) (x1 : Nat) (X1 : Int) (b1 : Bool) (hX1 : X1 = (x1 : Int)) (hs : a.eval s = v) (hown : OC w base v R)
    (c : Nat) (hx : a.eval x = .slice (some ⟨w.heap.size, 0, none⟩) 1 c) (hn : R.length ≤ 1000000) (hbase : base ≤ w.heap.size)
    (h : ∀ v' w', OC w' base v' (R ++ [(x1, b1)]) → (w.alloc (.cells #[.int .i64 X1, .bool b1] 130)).grownBy w' v.ownBlock → wpList Tryz.prog ops Q rest (a.put o.dst v') w') :
    wpList Tryz.prog ops Q (o :: rest) a (w.alloc (.cells #[.int .i64 X1, .bool b1] 130)) := by
  obtain ⟨i0, hi0, hz0, hz1, hz2⟩ := info_parts infoCoin
  subst hX1
  refine wpList_append_own_at _ hgd s x 127 ho base 130 i0 _ 2 16 Tryz.underlying127 hi0 hz0 hz1 hz2 rfl (by omega) v R.length (fc R) hs (hown.alloc _) ⟨w.heap.size, 0, none⟩ 1 c [.int .i64 (x1 : Int), .bool b1] hx rfl (World.news_of_block (cs := #[.int .i64 (x1 : Int), .bool b1]) (t := 130) (fr := (0, 0)) (heap_alloc_new w _))
    (fun u hu => by
      rcases List.mem_cons.1 hu with rfl | hu
      · rfl
      · rw [List.mem_singleton.1 hu]; rfl) (by unfold maxLen; omega) (by omega) (by simp; omega) fun v' w' h1 h2 _ _ => h v' w' ?_ h2
  unfold OC
  rw [fc_snoc, List.length_append]
  exact h1

/-- A slice without its first. -/
theorem SI.tail {w : World} {b o n cap : Nat} {x : Int} {r : List Int} (h : SI w (.slice (some ⟨b, o, none⟩) n cap) (x :: r)) : SI w (.slice (some ⟨b, o + 1, none⟩) (n - 1) (cap - 1)) r := by
  obtain ⟨ao, c', he, h1, h2, h3, h4⟩ := h
  simp only [Value.slice.injEq] at he
  obtain ⟨rfl, rfl, rfl⟩ := he
  refine ⟨some ⟨b, o + 1, none⟩, cap - 1, by simp, by simp at h1; omega, by omega, (fun e => by cases e), fun y hy i hi => ?_⟩
  cases hy
  have := h4 _ rfl (i + 1) (by simp; omega)
  rw [Addr.add_lit] at this ⊢
  rw [show o + 1 + i = o + (i + 1) by omega, this]
  simp

theorem SI.tail' {w : World} {b o n cap : Nat} {x : Int} {r : List Int} (h : SI w (.slice (some ⟨b, o, none⟩) n cap) (x :: r)) : SI w (.slice (if cap = 1 then some ⟨b, o, none⟩ else some ⟨b, o + 1, none⟩) (n - 1) (cap - 1)) r := by
  by_cases c : cap = 1
  · rw [if_pos c]
    obtain ⟨ao, c', he, h1, h2, h3, h4⟩ := h
    simp only [Value.slice.injEq] at he
    obtain ⟨rfl, rfl, rfl⟩ := he
    have hr : r = [] := by
      simp at h1
      exact List.eq_nil_of_length_eq_zero (by omega)
    subst hr
    exact ⟨_, _, rfl, by simp, by omega, (fun e => by cases e), fun y hy i hi => by simp at hi⟩
  · rw [if_neg c]
    exact h.tail

theorem SI.nil' {w : World} (a : Addr) (cap : Nat) (hc : cap ≤ maxLen) : SI w (.slice (some a) 0 cap) [] := ⟨some a, cap, rfl, Nat.zero_le _, hc, (fun e => by cases e), fun x hx i hi => by simp at hi⟩
end Go.Proofs.YthngagciiidppaaGreatDoor

