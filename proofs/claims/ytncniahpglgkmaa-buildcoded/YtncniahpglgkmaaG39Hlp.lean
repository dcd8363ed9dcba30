import Derived.Test.YtncniahpglgkmaaG38Rd
namespace Go.Proofs.Ytncniahpglgkmaa
open Go.RowKit Go.Maps
set_option maxRecDepth 20000

def takeOk (row : List Int) (p : Nat) (n : Int) : Prop := Cnt n ∧ n ≤ (row.length : Int) - p
instance (row : List Int) (p : Nat) (n : Int) : Decidable (takeOk row p n) := by unfold takeOk; exact inferInstance
def takeE (row : List Int) (p : Nat) (n : Int) : Int := if Cnt n then (if n ≤ (row.length : Int) - p then 0 else 30) else 1
def takeV (row : List Int) (p : Nat) (n : Int) : Int := if takeOk row p n then ahead row p n.toNat else 0
def takeP (row : List Int) (p : Nat) (n : Int) : Nat := if takeOk row p n then p + n.toNat else p

def peekV (row : List Int) (p : Nat) (n : Int) : Int := if Cnt n then ahead row p n.toNat else 0
def peekK (row : List Int) (p : Nat) (n : Int) : Int := if Cnt n then min n ((row.length : Int) - p) else 0

theorem rdpeek_any {w : World} {K : Nat → Nat} {g : Nat} {row : List Int} {p : Nat} (h : Rp w K g row p) (n : Int) :
    Calls Try.prog 42 #[.pointer (some ⟨g, 0, none⟩), .int .i64 n] w fun e w' => e = .returned (.tuple #[.int .u32 (peekV row p n), .int .i64 (peekK row p n)]) ∧ ∃ q, w' = w.drewN q := by
  have H := hide h
  have hle := h.le
  clear h
  by_cases hc : Cnt n
  case neg =>
    have HE : Hid (peekV row p n = 0 ∧ peekK row p n = 0) := ⟨if_neg hc, if_neg hc⟩
    have HC : Hid (decide (Cnt n) = false) := decide_eq_false hc
    clear hc
    go_enter Try.func42, Try.ntmps42
    go_wp2_with fail
    refine (countable_any _ _).mono ?_
    rintro e w' ⟨rfl, rfl⟩
    rw [HC.out]
    go_wp2
    go_ret2
    rw [HE.out.1, HE.out.2]
    exact ⟨rfl, 0, rfl⟩
  case pos =>
    have HC : Hid (decide (Cnt n) = true) := decide_eq_true hc
    have HE : Hid (peekV row p n = ahead row p n.toNat ∧ peekK row p n = min n ((row.length : Int) - p)) := ⟨if_pos hc, if_pos hc⟩
    obtain ⟨n0, n1⟩ := hc
    obtain ⟨m, rfl⟩ : ∃ m : Nat, n = m := ⟨n.toNat, by omega⟩
    go_enter Try.func42, Try.ntmps42
    go_wp2_with fail
    refine (countable_any _ _).mono ?_
    rintro e w' ⟨rfl, rfl⟩
    rw [HC.out]
    go_wp2_with fail
    refine (ahead_any H.out m (by omega)).mono ?_
    rintro e w1 ⟨rfl, q2, rfl⟩
    go_wp2_with fail
    refine (rdleft_any (H.out.drewN q2)).mono ?_
    rintro e w1 ⟨rfl, q, rfl⟩
    go_wp2
    all_goals go_ret2
    all_goals rw [HE.out.1, HE.out.2]
    all_goals refine ⟨?_, _, rfl⟩
    all_goals first
      | (rw [show min (m : Int) ((row.length : Int) - p) = (m : Int) by omega]; rfl)
      | (rw [show min (m : Int) ((row.length : Int) - p) = (row.length : Int) - p by omega]; rfl)

def skipE (row : List Int) (p : Nat) (n : Int) : Int := if n < 0 then 1 else if n ≤ (row.length : Int) - p then 0 else 30
def skipP (row : List Int) (p : Nat) (n : Int) : Nat := if n < 0 then p else if n ≤ (row.length : Int) - p then p + n.toNat else p

theorem rdskip_any {w : World} {K : Nat → Nat} {g : Nat} {row : List Int} {p : Nat} (h : Rp w K g row p) (n : Int) :
    Calls Try.prog 44 #[.pointer (some ⟨g, 0, none⟩), .int .i64 n] w fun e w' => e = .returned (.int .i64 (skipE row p n)) ∧ Rp w' K g row (skipP row p n) ∧ Fr K K w w' := by
  have H := hide h
  have hle := h.le
  obtain ⟨v, d, h1, -⟩ := h
  have c1 : ∀ q, (w.drewN q).cell? ⟨g, 1, none⟩ = some (.int .i64 p) := fun q => h1.cell 1
  have cf : ∀ q, (w.drewN q).frozen? ⟨g, 1, none⟩ = false := fun q => h1.free 1
  clear h1
  by_cases hn : n < 0
  · have HE : Hid (skipE row p n = 1 ∧ skipP row p n = p) := ⟨if_pos hn, if_pos hn⟩
    clear c1 cf
    go_enter Try.func44, Try.ntmps44
    go_wp2
    go_ret
    rw [HE.out.1, HE.out.2]
    exact ⟨rfl, H.out, Fr.refl _ _⟩
  by_cases hl : n ≤ (row.length : Int) - p
  · have HE : Hid (skipE row p n = 0 ∧ skipP row p n = p + n.toNat) := ⟨by show (if _ then _ else _) = _; rw [if_neg hn, if_pos hl], by show (if _ then _ else _) = _; rw [if_neg hn, if_pos hl]⟩
    obtain ⟨m, rfl⟩ : ∃ m : Nat, n = m := ⟨n.toNat, by omega⟩
    have HM : Hid (∀ q, Rp ((w.drewN q).setCell ⟨g, 1, none⟩ (.int .i64 ((p : Int) + m))) K g row (p + m) ∧ Fr K K w ((w.drewN q).setCell ⟨g, 1, none⟩ (.int .i64 ((p : Int) + m)))) := fun q => by
      obtain ⟨a1, a2⟩ := (H.out.drewN q).move (p + m) ((p : Int) + m) (by omega) (by omega)
      exact ⟨a1, ((Fr.refl _ _).drewN q).trans a2⟩
    go_enter Try.func44, Try.ntmps44
    go_wp2_with fail
    refine (rdleft_any H.out).mono ?_
    rintro e w1 ⟨rfl, q, rfl⟩
    go_wp2
    go_ret
    rw [HE.out.1, HE.out.2]
    exact ⟨rfl, HM.out _⟩
  · have HE : Hid (skipE row p n = 30 ∧ skipP row p n = p) := ⟨by show (if _ then _ else _) = _; rw [if_neg hn, if_neg hl], by show (if _ then _ else _) = _; rw [if_neg hn, if_neg hl]⟩
    clear c1 cf
    go_enter Try.func44, Try.ntmps44
    go_wp2_with fail
    refine (rdleft_any H.out).mono ?_
    rintro e w1 ⟨rfl, q, rfl⟩
    go_wp2
    go_ret
    rw [HE.out.1, HE.out.2]
    exact ⟨rfl, H.out.drewN _, (Fr.refl _ _).drewN _⟩

def algn (p : Nat) : Nat := (p + 7) / 8 * 8

def rrawE (row : List Int) (p : Nat) (n : Int) : Int := if n < 0 then 1 else if p % 8 ≠ 0 then 31 else if n ≤ ((row.length : Int) - p) / 8 then 0 else 30
noncomputable def rrawL (row : List Int) (p : Nat) (n : Int) : List Int := if rrawE row p n = 0 then pack ((row.drop p).take (8 * n.toNat)) else []
def rrawP (row : List Int) (p : Nat) (n : Int) : Nat := if rrawE row p n = 0 then p + 8 * n.toNat else p

end Go.Proofs.Ytncniahpglgkmaa

namespace Go.Proofs.Ytncniahpglgkmaa
open Go.RowKit Go.Maps
set_option maxRecDepth 20000

theorem tmod_pos {k n : Int} (h : 0 ≤ k) : k.tmod n = k % n := Int.tmod_eq_emod_of_nonneg h

theorem tmod_neg {k n : Int} (hn : 0 < n) (h : k < 0) : (k.tmod n < 0 → k.tmod n + n = k % n) ∧ (¬ k.tmod n < 0 → k.tmod n = k % n) := by
  have h1 := Int.emod_nonneg k (show n ≠ 0 by omega)
  have h2 := Int.emod_lt_of_pos k hn
  have e : k.tmod n = -((-k) % n) := by
    have h5 := Int.tmod_eq_emod_of_nonneg (a := -k) (b := n) (by omega)
    have := Int.neg_tmod (-k) n
    rw [Int.neg_neg, h5] at this
    exact this
  have h3 := Int.emod_nonneg (-k) (show n ≠ 0 by omega)
  have h4 := Int.emod_lt_of_pos (-k) hn
  have d1 := Int.mul_ediv_add_emod k n
  have d2 := Int.mul_ediv_add_emod (-k) n
  have key : k % n = (if (-k) % n = 0 then 0 else n - (-k) % n) := by
    by_cases hz : (-k) % n = 0
    · rw [if_pos hz]
      have : k = n * (-((-k) / n)) := by rw [Int.mul_neg]; omega
      rw [this, Int.mul_emod_right]
    · rw [if_neg hz]
      have : k = (n - (-k) % n) + n * (-((-k) / n) - 1) := by rw [Int.mul_sub, Int.mul_neg]; omega
      conv => lhs; rw [this]
      rw [Int.add_mul_emod_self_left, Int.emod_eq_of_lt (by omega) (by omega)]
  rw [e, key]
  refine ⟨fun h => ?_, fun h => ?_⟩
  · rw [if_neg (by omega)]; omega
  · rw [if_pos (by omega)]; omega

end Go.Proofs.Ytncniahpglgkmaa

