import Derived.Test.YtcgeaidegppiaaaDoorGA12
namespace Go.Proofs.YtcgeaidegppiaaaDoor
open Go.RowKit Go.Maps
set_option maxRecDepth 20000

def takeOk (row : List Int) (p : Nat) (n : Int) : Prop := Cnt n ∧ n ≤ (row.length : Int) - p
instance (row : List Int) (p : Nat) (n : Int) : Decidable (takeOk row p n) := by unfold takeOk; exact inferInstance
def takeE (row : List Int) (p : Nat) (n : Int) : Int := if Cnt n then (if n ≤ (row.length : Int) - p then 0 else 30) else 1
def takeV (row : List Int) (p : Nat) (n : Int) : Int := if takeOk row p n then ahead row p n.toNat else 0
def takeP (row : List Int) (p : Nat) (n : Int) : Nat := if takeOk row p n then p + n.toNat else p

theorem rdtake_any {w : World} {K : Nat → Nat} {g : Nat} {row : List Int} {p : Nat} (h : Rp w K g row p) (n : Int) :
    Calls Tryd.prog 26 #[.pointer (some ⟨g, 0, none⟩), .int .i64 n] w fun e w' => e = .returned (.tuple #[.int .u32 (takeV row p n), .int .i64 (takeE row p n)]) ∧ Rp w' K g row (takeP row p n) ∧ Fr K K w w' := by
  have H := hide h
  have hle := h.le
  obtain ⟨v, d, h1, -⟩ := h
  have c1 : ∀ q, (w.drewN q).cell? ⟨g, 1, none⟩ = some (.int .i64 p) := fun q => h1.cell 1
  have cf : ∀ q, (w.drewN q).frozen? ⟨g, 1, none⟩ = false := fun q => h1.free 1
  clear h1
  by_cases hc : Cnt n
  case neg =>
    have HE : Hid (takeE row p n = 1 ∧ takeV row p n = 0 ∧ takeP row p n = p) := ⟨if_neg hc, if_neg fun h => hc h.1, if_neg fun h => hc h.1⟩
    have HC : Hid (decide (Cnt n) = false) := decide_eq_false hc
    clear hc c1 cf
    go_enter Tryd.func26, Tryd.ntmps26
    go_wp2_with fail
    refine (countable_any _ _).mono ?_
    rintro e w' ⟨rfl, rfl⟩
    rw [HC.out]
    go_wp2
    go_ret2
    rw [HE.out.1, HE.out.2.1, HE.out.2.2]
    exact ⟨rfl, H.out, Fr.refl _ _⟩
  case pos =>
  have HC : Hid (decide (Cnt n) = true) := decide_eq_true hc
  by_cases hl : n ≤ (row.length : Int) - p
  case neg =>
    have HE : Hid (takeE row p n = 30 ∧ takeV row p n = 0 ∧ takeP row p n = p) := ⟨by show (if _ then _ else _) = _; rw [if_pos hc, if_neg hl], if_neg fun h => hl h.2, if_neg fun h => hl h.2⟩
    clear hc c1 cf
    go_enter Tryd.func26, Tryd.ntmps26
    go_wp2_with fail
    refine (countable_any _ _).mono ?_
    rintro e w' ⟨rfl, rfl⟩
    rw [HC.out]
    go_wp2_with fail
    refine (rdleft_any H.out).mono ?_
    rintro e w1 ⟨rfl, q, rfl⟩
    go_wp2
    go_ret2
    rw [HE.out.1, HE.out.2.1, HE.out.2.2]
    exact ⟨rfl, H.out.drewN _, (Fr.refl _ _).drewN _⟩
  case pos =>
    have HE : Hid (takeE row p n = 0 ∧ takeV row p n = ahead row p n.toNat ∧ takeP row p n = p + n.toNat) := ⟨by show (if _ then _ else _) = _; rw [if_pos hc, if_pos hl], if_pos ⟨hc, hl⟩, if_pos ⟨hc, hl⟩⟩
    obtain ⟨n0, n1⟩ := hc
    obtain ⟨m, rfl⟩ : ∃ m : Nat, n = m := ⟨n.toNat, by omega⟩
    have HM : Hid (∀ q, Rp ((w.drewN q).setCell ⟨g, 1, none⟩ (.int .i64 ((p : Int) + m))) K g row (p + m) ∧ Fr K K w ((w.drewN q).setCell ⟨g, 1, none⟩ (.int .i64 ((p : Int) + m)))) := fun q => by
      obtain ⟨a1, a2⟩ := (H.out.drewN q).move (p + m) ((p : Int) + m) (by omega) (by omega)
      exact ⟨a1, ((Fr.refl _ _).drewN q).trans a2⟩
    go_enter Tryd.func26, Tryd.ntmps26
    go_wp2_with fail
    refine (countable_any _ _).mono ?_
    rintro e w' ⟨rfl, rfl⟩
    rw [HC.out]
    go_wp2_with fail
    refine (rdleft_any H.out).mono ?_
    rintro e w1 ⟨rfl, q, rfl⟩
    go_wp2_with fail
    refine (ahead_any (H.out.drewN q) m (by omega)).mono ?_
    rintro e w1 ⟨rfl, q2, rfl⟩
    go_wp2
    go_ret2
    rw [HE.out.1, HE.out.2.1, HE.out.2.2]
    exact ⟨rfl, HM.out _⟩

def peekV (row : List Int) (p : Nat) (n : Int) : Int := if Cnt n then ahead row p n.toNat else 0
def peekK (row : List Int) (p : Nat) (n : Int) : Int := if Cnt n then min n ((row.length : Int) - p) else 0

theorem rdpeek_any {w : World} {K : Nat → Nat} {g : Nat} {row : List Int} {p : Nat} (h : Rp w K g row p) (n : Int) :
    Calls Tryd.prog 51 #[.pointer (some ⟨g, 0, none⟩), .int .i64 n] w fun e w' => e = .returned (.tuple #[.int .u32 (peekV row p n), .int .i64 (peekK row p n)]) ∧ ∃ q, w' = w.drewN q := by
  have H := hide h
  have hle := h.le
  clear h
  by_cases hc : Cnt n
  case neg =>
    have HE : Hid (peekV row p n = 0 ∧ peekK row p n = 0) := ⟨if_neg hc, if_neg hc⟩
    have HC : Hid (decide (Cnt n) = false) := decide_eq_false hc
    clear hc
    go_enter Tryd.func51, Tryd.ntmps51
    go_wp2_with fail
    refine (countable_any _ _).mono ?_
    rintro e w' ⟨rfl, rfl⟩
    rw [HC.out]
    go_wp2
    go_ret2
    rw [HE.out.1, HE.out.2]
    exact ⟨rfl, 0, rfl⟩
  case pos =>
    have HC : Hid (decide (Cnt n) = true) := decide_eq_true hc
    have HE : Hid (peekV row p n = ahead row p n.toNat ∧ peekK row p n = min n ((row.length : Int) - p)) := ⟨if_pos hc, if_pos hc⟩
    obtain ⟨n0, n1⟩ := hc
    obtain ⟨m, rfl⟩ : ∃ m : Nat, n = m := ⟨n.toNat, by omega⟩
    go_enter Tryd.func51, Tryd.ntmps51
    go_wp2_with fail
    refine (countable_any _ _).mono ?_
    rintro e w' ⟨rfl, rfl⟩
    rw [HC.out]
    go_wp2_with fail
    refine (ahead_any H.out m (by omega)).mono ?_
    rintro e w1 ⟨rfl, q2, rfl⟩
    go_wp2_with fail
    refine (rdleft_any (H.out.drewN q2)).mono ?_
    rintro e w1 ⟨rfl, q, rfl⟩
    go_wp2
    all_goals go_ret2
    all_goals rw [HE.out.1, HE.out.2]
    all_goals refine ⟨?_, _, rfl⟩
    all_goals first
      | (rw [show min (m : Int) ((row.length : Int) - p) = (m : Int) by omega]; rfl)
      | (rw [show min (m : Int) ((row.length : Int) - p) = (row.length : Int) - p by omega]; rfl)

def skipE (row : List Int) (p : Nat) (n : Int) : Int := if n < 0 then 1 else if n ≤ (row.length : Int) - p then 0 else 30
def skipP (row : List Int) (p : Nat) (n : Int) : Nat := if n < 0 then p else if n ≤ (row.length : Int) - p then p + n.toNat else p

theorem rdskip_any {w : World} {K : Nat → Nat} {g : Nat} {row : List Int} {p : Nat} (h : Rp w K g row p) (n : Int) :
    Calls Tryd.prog 53 #[.pointer (some ⟨g, 0, none⟩), .int .i64 n] w fun e w' => e = .returned (.int .i64 (skipE row p n)) ∧ Rp w' K g row (skipP row p n) ∧ Fr K K w w' := by
  have H := hide h
  have hle := h.le
  obtain ⟨v, d, h1, -⟩ := h
  have c1 : ∀ q, (w.drewN q).cell? ⟨g, 1, none⟩ = some (.int .i64 p) := fun q => h1.cell 1
  have cf : ∀ q, (w.drewN q).frozen? ⟨g, 1, none⟩ = false := fun q => h1.free 1
  clear h1
  by_cases hn : n < 0
  · have HE : Hid (skipE row p n = 1 ∧ skipP row p n = p) := ⟨if_pos hn, if_pos hn⟩
    clear c1 cf
    go_enter Tryd.func53, Tryd.ntmps53
    go_wp2
    go_ret
    rw [HE.out.1, HE.out.2]
    exact ⟨rfl, H.out, Fr.refl _ _⟩
  by_cases hl : n ≤ (row.length : Int) - p
  · have HE : Hid (skipE row p n = 0 ∧ skipP row p n = p + n.toNat) := ⟨by show (if _ then _ else _) = _; rw [if_neg hn, if_pos hl], by show (if _ then _ else _) = _; rw [if_neg hn, if_pos hl]⟩
    obtain ⟨m, rfl⟩ : ∃ m : Nat, n = m := ⟨n.toNat, by omega⟩
    have HM : Hid (∀ q, Rp ((w.drewN q).setCell ⟨g, 1, none⟩ (.int .i64 ((p : Int) + m))) K g row (p + m) ∧ Fr K K w ((w.drewN q).setCell ⟨g, 1, none⟩ (.int .i64 ((p : Int) + m)))) := fun q => by
      obtain ⟨a1, a2⟩ := (H.out.drewN q).move (p + m) ((p : Int) + m) (by omega) (by omega)
      exact ⟨a1, ((Fr.refl _ _).drewN q).trans a2⟩
    go_enter Tryd.func53, Tryd.ntmps53
    go_wp2_with fail
    refine (rdleft_any H.out).mono ?_
    rintro e w1 ⟨rfl, q, rfl⟩
    go_wp2
    go_ret
    rw [HE.out.1, HE.out.2]
    exact ⟨rfl, HM.out _⟩
  · have HE : Hid (skipE row p n = 30 ∧ skipP row p n = p) := ⟨by show (if _ then _ else _) = _; rw [if_neg hn, if_neg hl], by show (if _ then _ else _) = _; rw [if_neg hn, if_neg hl]⟩
    clear c1 cf
    go_enter Tryd.func53, Tryd.ntmps53
    go_wp2_with fail
    refine (rdleft_any H.out).mono ?_
    rintro e w1 ⟨rfl, q, rfl⟩
    go_wp2
    go_ret
    rw [HE.out.1, HE.out.2]
    exact ⟨rfl, H.out.drewN _, (Fr.refl _ _).drewN _⟩

def algn (p : Nat) : Nat := (p + 7) / 8 * 8

theorem rdalign_any {w : World} {K : Nat → Nat} {g : Nat} {row : List Int} {p : Nat} (h : Rp w K g row p) :
    Calls Tryd.prog 27 #[.pointer (some ⟨g, 0, none⟩)] w fun e w' => e = .returned (.tuple #[]) ∧ Rp w' K g row (algn p) ∧ Fr K K w w' := by
  have H := hide h
  have hle := h.le
  obtain ⟨v, d, h1, -⟩ := h
  have c1 : w.cell? ⟨g, 1, none⟩ = some (.int .i64 p) := h1.cell 1
  have cf : w.frozen? ⟨g, 1, none⟩ = false := h1.free 1
  have HM := hide (H.out.move (algn p) (((p : Int) + 7) / 8 * 8) (by unfold algn; omega) (by unfold algn; omega))
  clear h1
  go_enter Tryd.func27, Tryd.ntmps27
  go_wp2
  (try simp only [Exit.inBlock, Exit.then]); refine bodyPost_end (results_none rfl _ _ _) rfl ?_
  exact ⟨rfl, HM.out⟩

def rrawE (row : List Int) (p : Nat) (n : Int) : Int := if n < 0 then 1 else if p % 8 ≠ 0 then 31 else if n ≤ ((row.length : Int) - p) / 8 then 0 else 30
noncomputable def rrawL (row : List Int) (p : Nat) (n : Int) : List Int := if rrawE row p n = 0 then pack ((row.drop p).take (8 * n.toNat)) else []
def rrawP (row : List Int) (p : Nat) (n : Int) : Nat := if rrawE row p n = 0 then p + 8 * n.toNat else p

theorem rdraw_any {w : World} {K : Nat → Nat} {g : Nat} {row : List Int} {p : Nat} (h : Rp w K g row p) (n : Int) :
    Calls Tryd.prog 29 #[.pointer (some ⟨g, 0, none⟩), .int .i64 n] w fun e w' => ∃ a c, e = .returned (.tuple #[.slice a (rrawL row p n).length c, .int .i64 (rrawE row p n)]) ∧ OB w' w.heap.size (.slice a (rrawL row p n).length c) (rrawL row p n) ∧ Rp w' K g row (rrawP row p n) ∧ Fr K K w w' := by
  have H := hide h
  have hle := h.le
  obtain ⟨v, d, h1, h2, h3, h4, h5⟩ := h
  have c0 : ∀ q, (w.drewN q).cell? ⟨g, 0, none⟩ = some v := fun q => h1.cell 0
  have c1 : ∀ q, (w.drewN q).cell? ⟨g, 1, none⟩ = some (.int .i64 p) := fun q => h1.cell 1
  have c1' : w.cell? ⟨g, 1, none⟩ = some (.int .i64 p) := h1.cell 1
  have cf : ∀ q, (w.drewN q).frozen? ⟨g, 1, none⟩ = false := fun q => h1.free 1
  have HW := hide h1
  have HU := hide h2
  have HBy := hide h3
  have hrl : row.length = 8 * d.length := by rw [h2, length_unpack]
  have HRL := hide hrl
  have HNil : Hid (∀ q, OB (w.drewN q) w.heap.size (.slice none 0 0) []) := fun q => World.ownsRow_nil _ _ _ _
  clear h1 h2 h3
  by_cases hn : n < 0
  · have he : rrawE row p n = 1 := if_pos hn
    have HE : Hid (rrawE row p n = 1 ∧ rrawL row p n = [] ∧ rrawP row p n = p) := ⟨he, if_neg (by rw [he]; omega), if_neg (by rw [he]; omega)⟩
    clear c0 c1 cf hrl he
    go_enter Tryd.func29, Tryd.ntmps29
    go_wp2
    go_ret2
    rw [HE.out.1, HE.out.2.1, HE.out.2.2]
    exact ⟨_, _, rfl, HNil.out 0, H.out, Fr.refl _ _⟩
  by_cases hp : p % 8 ≠ 0
  · have he : rrawE row p n = 31 := by unfold rrawE; rw [if_neg hn, if_pos hp]
    have HE : Hid (rrawE row p n = 31 ∧ rrawL row p n = [] ∧ rrawP row p n = p) := ⟨he, if_neg (by rw [he]; omega), if_neg (by rw [he]; omega)⟩
    have hp' : (0 : Int) < (p : Int) % 8 := by omega
    clear c0 c1 cf hrl he
    go_enter Tryd.func29, Tryd.ntmps29
    go_wp2
    go_ret2
    rw [HE.out.1, HE.out.2.1, HE.out.2.2]
    exact ⟨_, _, rfl, HNil.out 0, H.out, Fr.refl _ _⟩
  have hp' : (p : Int) % 8 = 0 := by omega
  by_cases hl : n ≤ ((row.length : Int) - p) / 8
  case neg =>
    have he : rrawE row p n = 30 := by unfold rrawE; rw [if_neg hn, if_neg hp, if_neg hl]
    have HE : Hid (rrawE row p n = 30 ∧ rrawL row p n = [] ∧ rrawP row p n = p) := ⟨he, if_neg (by rw [he]; omega), if_neg (by rw [he]; omega)⟩
    have hl' : ((row.length : Int) - p) / 8 < n := by omega
    clear c0 c1 cf hrl he hl
    go_enter Tryd.func29, Tryd.ntmps29
    go_wp2_with fail
    refine (rdleft_any H.out).mono ?_
    rintro e w1 ⟨rfl, q, rfl⟩
    go_wp2
    go_ret2
    rw [HE.out.1, HE.out.2.1, HE.out.2.2]
    exact ⟨_, _, rfl, HNil.out q, H.out.drewN _, (Fr.refl _ _).drewN _⟩
  case pos =>
    have he : rrawE row p n = 0 := by unfold rrawE; rw [if_neg hn, if_neg hp, if_pos hl]
    obtain ⟨m, rfl⟩ : ∃ m : Nat, n = m := ⟨n.toNat, by omega⟩
    obtain ⟨F, HF⟩ : ∃ F : Nat, Hid (F = p / 8) := ⟨_, rfl⟩
    have hF : ((p : Int) / 8) = (F : Int) := by rw [HF.out]; omega
    have hpF : 8 * F = p := by rw [HF.out]; omega
    have hFm : F + m ≤ d.length := by omega
    obtain ⟨l, HLl⟩ : ∃ l, Hid (l = (d.drop F).take m) := ⟨_, rfl⟩
    have hll : l.length = m := by rw [HLl.out, List.length_take, List.length_drop]; omega
    have HE : Hid (rrawE row p m = 0 ∧ rrawL row p m = l ∧ rrawP row p m = p + 8 * m) := by
      refine ⟨he, ?_, if_pos he⟩
      unfold rrawL
      rw [if_pos he, HU.out, ← hpF, Int.toNat_natCast, ← unpack_drop, ← unpack_take, ← HLl.out, pack_unpack]
      rw [HLl.out]; exact byt_take (byt_drop HBy.out _) _
    have HM : Hid (∀ q, Rp ((w.drewN q).setCell ⟨g, 1, none⟩ (.int .i64 ((p : Int) + 8 * m))) K g row (p + 8 * m) ∧ Fr K K w ((w.drewN q).setCell ⟨g, 1, none⟩ (.int .i64 ((p : Int) + 8 * m)))) := fun q => by
      obtain ⟨a1, a2⟩ := (H.out.drewN q).move (p + 8 * m) ((p : Int) + 8 * m) (by omega) (by omega)
      exact ⟨a1, ((Fr.refl _ _).drewN q).trans a2⟩
    obtain ⟨a, c, hv⟩ := HW.out.o.shape
    subst hv
    obtain ⟨_, _, hve, hcc, hcm, _⟩ := HW.out.o.sb
    simp only [Value.slice.injEq] at hve
    obtain ⟨-, -, rfl⟩ := hve
    unfold maxLen at hcm
    have c0' : ∀ q x, ((w.drewN q).setCell ⟨g, 1, none⟩ x).cell? ⟨g, 0, none⟩ = some (.slice a d.length c) := fun q x => by
      have := ((HW.out.drewN q).set 0 x).1.cell 0
      exact this
    have hl' : ¬ ((row.length : Int) - p) / 8 < m := by omega
    have HPL := hide hpF
    have HLL := hide hll
    clear hrl he hl hn hp hpF hll
    have HFIN : Hid (∀ (q : Nat) (w2 : World) (v' : Value), OB w2 w.heap.size v' l → ((w.drewN q).setCell ⟨g, 1, none⟩ (.int .i64 ((p : Int) + 8 * m))).grownBy w2 none → ∃ a c, v' = .slice a l.length c ∧ OB w2 w.heap.size (.slice a l.length c) l ∧ Rp w2 K g row (p + 8 * m) ∧ Fr K K w w2) := by
      intro q w2 v' ho hg
      obtain ⟨a', c', rfl⟩ := ho.shape
      obtain ⟨m1, m2⟩ := HM.out q
      have hs := m1.sup
      refine ⟨a', c', rfl, ho, m1.far hg.size (fun k hk => hg.block k (hs k hk) (by simp)), m2.trans ⟨hg.os, hg.tape, hg.output, hg.size, fun k hk _ => hg.block k hk (by simp), fun _ _ => rfl⟩⟩
    by_cases hedge : c = F
    · obtain rfl : m = 0 := by omega
      have HSRC : Hid (∀ W : World, SB W (.slice a 0 0) l) := fun W => by
        obtain rfl : l = [] := List.eq_nil_of_length_eq_zero HLL.out
        exact ⟨a, 0, rfl, Nat.le_refl _, Nat.zero_le _, fun _ => rfl, fun x _ i hi => absurd hi (Nat.not_lt_zero _)⟩
      have hl0 : l = [] := List.eq_nil_of_length_eq_zero HLL.out
      have HL0 := hide hl0
      subst hedge
      clear hl0
      go_enter Tryd.func29, Tryd.ntmps29
      go_wp2_with fail
      refine (rdleft_any H.out).mono ?_
      rintro e w1 ⟨rfl, q, rfl⟩
      have k0 := c0 q
      have k1 := c1 q
      have kf := cf q
      have k2 := c0' q
      clear c0 c1 cf c0'
      go_wp2_with (at_builtin; refine wpList_app rfl _ _ 22 rfl w.heap.size _ (.slice a 0 0) [] l rfl (World.ownsRow_nil _ _ _ _) rfl (HSRC.out _).src (by rw [HL0.out]; simp) (by simp) ?_)
      intro v' w2 ho hgr
      have HX := hide (HFIN.out q w2 v' ho (by simpa [Value.ownBlock] using hgr.by))
      obtain ⟨a', c', rfl⟩ := ho.shape
      clear ho hgr
      go_wp2
      go_ret2
      rw [HE.out.1, HE.out.2.1, HE.out.2.2]
      obtain ⟨a2, c2, x1, x2⟩ := HX.out
      exact ⟨a2, c2, by (try simp only [List.nil_append] at x1); rw [← x1]; rfl, x2⟩
    · have hsome : ∃ b, a = some ⟨b, 0, none⟩ := by
        rcases HW.out.o.2 with ⟨e, h0⟩ | ⟨gb, c', cur, e, _⟩
        · simp only [Value.slice.injEq] at e
          have : c = 0 := e.2.2
          omega
        · simp only [Value.slice.injEq] at e
          exact ⟨gb, e.1⟩
      obtain ⟨b, rfl⟩ := hsome
      have HSRC : Hid (∀ q x, SB ((w.drewN q).setCell ⟨g, 1, none⟩ x) (.slice (some ⟨b, F, none⟩) (F + m - F) (c - F)) l) := fun q x => by
        have hw := ((HW.out.drewN q).set 0 x).1
        obtain ⟨e1, e2⟩ := piece_cells hw.o HLl.out hFm
        refine ⟨some ⟨b, F, none⟩, c - F, by rw [e1, Nat.add_sub_cancel_left], by rw [e1]; omega, by unfold maxLen; omega, (fun h => by cases h), fun y hy i hi => ?_⟩
        cases hy
        rw [Addr.add_lit]
        exact e2 i hi
      have HLB : Hid (([] : List Int).length + l.length ≤ 140737488355328) := by show _ ≤ _; rw [HLL.out]; simp; omega
      go_enter Tryd.func29, Tryd.ntmps29
      go_wp2_with fail
      refine (rdleft_any H.out).mono ?_
      rintro e w1 ⟨rfl, q, rfl⟩
      have k0 := c0 q
      have k1 := c1 q
      have kf := cf q
      have k2 := c0' q
      clear c0 c1 cf c0'
      go_wp2_with (at_builtin; refine wpList_app rfl _ _ 22 rfl w.heap.size _ (.slice (some ⟨b, F, none⟩) (F + m - F) (c - F)) [] l rfl (World.ownsRow_nil _ _ _ _) rfl (HSRC.out _ _).src HLB.out (by simp) ?_)
      intro v' w2 ho hgr
      have HX := hide (HFIN.out q w2 v' ho (by simpa [Value.ownBlock] using hgr.by))
      obtain ⟨a', c', rfl⟩ := ho.shape
      clear ho hgr
      go_wp2
      go_ret2
      rw [HE.out.1, HE.out.2.1, HE.out.2.2]
      obtain ⟨a2, c2, x1, x2⟩ := HX.out
      exact ⟨a2, c2, by (try simp only [List.nil_append] at x1); rw [← x1]; rfl, x2⟩
end Go.Proofs.YtcgeaidegppiaaaDoor

namespace Go.Proofs.YtcgeaidegppiaaaDoor
open Go.RowKit Go.Maps
set_option maxRecDepth 20000

theorem tmod_pos {k n : Int} (h : 0 ≤ k) : k.tmod n = k % n := Int.tmod_eq_emod_of_nonneg h

theorem tmod_neg {k n : Int} (hn : 0 < n) (h : k < 0) : (k.tmod n < 0 → k.tmod n + n = k % n) ∧ (¬ k.tmod n < 0 → k.tmod n = k % n) := by
  have h1 := Int.emod_nonneg k (show n ≠ 0 by omega)
  have h2 := Int.emod_lt_of_pos k hn
  have e : k.tmod n = -((-k) % n) := by
    have h5 := Int.tmod_eq_emod_of_nonneg (a := -k) (b := n) (by omega)
    have := Int.neg_tmod (-k) n
    rw [Int.neg_neg, h5] at this
    exact this
  have h3 := Int.emod_nonneg (-k) (show n ≠ 0 by omega)
  have h4 := Int.emod_lt_of_pos (-k) hn
  have d1 := Int.mul_ediv_add_emod k n
  have d2 := Int.mul_ediv_add_emod (-k) n
  have key : k % n = (if (-k) % n = 0 then 0 else n - (-k) % n) := by
    by_cases hz : (-k) % n = 0
    · rw [if_pos hz]
      have : k = n * (-((-k) / n)) := by rw [Int.mul_neg]; omega
      rw [this, Int.mul_emod_right]
    · rw [if_neg hz]
      have : k = (n - (-k) % n) + n * (-((-k) / n) - 1) := by rw [Int.mul_sub, Int.mul_neg]; omega
      conv => lhs; rw [this]
      rw [Int.add_mul_emod_self_left, Int.emod_eq_of_lt (by omega) (by omega)]
  rw [e, key]
  refine ⟨fun h => ?_, fun h => ?_⟩
  · rw [if_neg (by omega)]; omega
  · rw [if_pos (by omega)]; omega

end Go.Proofs.YtcgeaidegppiaaaDoor

