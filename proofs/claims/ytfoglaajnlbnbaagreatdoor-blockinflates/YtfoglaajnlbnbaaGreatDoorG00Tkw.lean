import Derived.Laws.BitsLemmas
import Derived.Test.YtfoglaajnlbnbaaGreatDoorRows
import Derived.WalkKit
import Derived.ProofKit
import Derived.OpenShut
import Derived.ShutString
import Derived.ChangeOld
import Derived.Below
import Derived.WalkLawsBesides
import Derived.WalkSpells
import Derived.Deep.QuietTactic
import Derived.BigQuiet
import Derived.Laws.CopyOwn
import Derived.SizedLaws
import Derived.Maps.Own
import Derived.Laws.BytesArg
import Derived.Maps.AppendAt
import Derived.Deep.AppendSrc
import Derived.Deep.AppendLies
import Derived.Deep.RegionLaw
import Derived.Laws.StructEq
import Derived.Handy
namespace Go.Proofs.YtfoglaajnlbnbaaGreatDoor

def bts (v : Int) : Nat → List Int
  | 0 => []
  | n + 1 => v % 2 :: bts (v / 2) n

def val : List Int → Int
  | [] => 0
  | b :: l => b + 2 * val l

def Bit (l : List Int) : Prop := ∀ b ∈ l, b = 0 ∨ b = 1

def Byt (d : List Int) : Prop := ∀ i, 0 ≤ d.getD i 0 ∧ d.getD i 0 < 256

def unpack (d : List Int) : List Int := d.flatMap fun b => bts b 8

theorem pow_pos (n : Nat) : (0 : Int) < 2 ^ n := Int.pow_pos (by decide)

theorem pow_add1 (n : Nat) : (2 : Int) ^ (n + 1) = 2 * 2 ^ n := by rw [Int.pow_succ, Int.mul_comm]

theorem pow_le {a b : Nat} (h : a ≤ b) : (2 : Int) ^ a ≤ 2 ^ b := by
  have := Nat.pow_le_pow_right (n := 2) (by decide) h
  exact_mod_cast this

theorem length_bts (v : Int) (n : Nat) : (bts v n).length = n := by
  induction n generalizing v with
  | zero => rfl
  | succ n ih => simp [bts, ih]

theorem bit_bts (v : Int) (n : Nat) : Bit (bts v n) := by
  induction n generalizing v with
  | zero => intro b hb; simp [bts] at hb
  | succ n ih =>
    intro b hb
    simp only [bts, List.mem_cons] at hb
    rcases hb with rfl | hb
    · omega
    · exact ih _ b hb

theorem bts_zero (n : Nat) : bts 0 n = List.replicate n 0 := by
  induction n with
  | zero => rfl
  | succ n ih => simp [bts, ih, List.replicate_succ]

theorem Bit.cons {b : Int} {l : List Int} (h : Bit (b :: l)) : (b = 0 ∨ b = 1) ∧ Bit l := ⟨h b (by simp), fun x hx => h x (by simp [hx])⟩

theorem Bit.append {a b : List Int} (h : Bit a) (k : Bit b) : Bit (a ++ b) := fun x hx => by
  rcases List.mem_append.1 hx with hx | hx
  · exact h x hx
  · exact k x hx

theorem Bit.take {a : List Int} (h : Bit a) (n : Nat) : Bit (a.take n) := fun x hx => h x (List.mem_of_mem_take hx)

theorem Bit.drop {a : List Int} (h : Bit a) (n : Nat) : Bit (a.drop n) := fun x hx => h x (List.mem_of_mem_drop hx)

theorem bit_nil : Bit [] := fun x hx => by simp at hx

theorem bit_zeros (n : Nat) : Bit (List.replicate n 0) := fun _ hx => .inl (List.eq_of_mem_replicate hx)

theorem val_bound {l : List Int} (h : Bit l) : 0 ≤ val l ∧ val l < 2 ^ l.length := by
  induction l with
  | nil => simp [val]
  | cons b l ih =>
    obtain ⟨h0, h1⟩ := h.cons
    have := ih h1
    simp only [val, List.length_cons, pow_add1]
    omega

theorem val_bts (v : Int) (n : Nat) : val (bts v n) = v % 2 ^ n := by
  induction n generalizing v with
  | zero => simp [bts, val]
  | succ n ih =>
    simp only [bts, val, ih, pow_add1]
    have h1 : v % (2 * 2 ^ n) = v - (2 * 2 ^ n) * (v / (2 * 2 ^ n)) := by have := Int.mul_ediv_add_emod v (2 * 2 ^ n); omega
    have h2 : (v / 2) % 2 ^ n = v / 2 - 2 ^ n * (v / 2 / 2 ^ n) := by have := Int.mul_ediv_add_emod (v / 2) (2 ^ n); omega
    rw [Int.ediv_ediv_of_nonneg (by omega)] at h2
    rw [h1, h2, Int.mul_sub, ← Int.mul_assoc]
    have := Int.mul_ediv_add_emod v 2
    omega

theorem val_bts_in {v : Int} {n : Nat} (h0 : 0 ≤ v) (h1 : v < 2 ^ n) : val (bts v n) = v := by
  rw [val_bts, Int.emod_eq_of_lt h0 h1]

theorem bts_val {l : List Int} (h : Bit l) : bts (val l) l.length = l := by
  induction l with
  | nil => rfl
  | cons b l ih =>
    obtain ⟨h0, h1⟩ := h.cons
    simp only [List.length_cons, bts, val]
    rw [show (b + 2 * val l) % 2 = b by omega, show (b + 2 * val l) / 2 = val l by omega, ih h1]

theorem bts_split (v : Int) (a b : Nat) : bts v (a + b) = bts v a ++ bts (v / 2 ^ a) b := by
  induction a generalizing v with
  | zero => simp [bts]
  | succ a ih =>
    rw [show a + 1 + b = (a + b) + 1 by omega]
    simp only [bts, ih, List.cons_append]
    rw [Int.ediv_ediv_of_nonneg (by omega), pow_add1]

theorem bts_mod (v : Int) (n : Nat) : bts (v % 2 ^ n) n = bts v n := by
  have := bts_val (bit_bts v n)
  rw [val_bts, length_bts] at this
  exact this

theorem bts_join {r : Int} {h : Nat} (h0 : 0 ≤ r) (h1 : r < 2 ^ h) (x : Int) (n : Nat) : bts (r + x * 2 ^ h) (h + n) = bts r h ++ bts x n := by
  have hp := pow_pos h
  rw [bts_split]
  have e1 : (r + x * 2 ^ h) / 2 ^ h = x := by rw [Int.add_mul_ediv_right _ _ (by omega), Int.ediv_eq_zero_of_lt h0 h1]; omega
  have e2 : (r + x * 2 ^ h) % 2 ^ h = r := by rw [Int.add_mul_emod_self_right, Int.emod_eq_of_lt h0 h1]
  rw [e1, ← bts_mod (r + x * 2 ^ h) h, e2]

theorem bts_snoc (v : Int) (n : Nat) : bts v (n + 1) = bts v n ++ [v / 2 ^ n % 2] := by
  rw [bts_split]
  rfl

theorem bts_one {b : Int} (h : b = 0 ∨ b = 1) : bts b 1 = [b] := by
  simp only [bts]
  rcases h with rfl | rfl <;> rfl

theorem val_append (a b : List Int) : val (a ++ b) = val a + 2 ^ a.length * val b := by
  induction a with
  | nil => simp [val]
  | cons x a ih =>
    simp only [List.cons_append, val, ih, List.length_cons, pow_add1, Int.mul_add, Int.mul_assoc]
    omega

theorem val_drop {l : List Int} (h : Bit l) (s : Nat) : val (l.drop s) = val l / 2 ^ s := by
  induction s generalizing l with
  | zero => simp
  | succ s ih =>
    cases l with
    | nil => simp [val]
    | cons b l =>
      obtain ⟨h0, h1⟩ := h.cons
      rw [List.drop_succ_cons, ih h1, pow_add1, ← Int.ediv_ediv_of_nonneg (by omega)]
      simp only [val]
      rw [show (b + 2 * val l) / 2 = val l by omega]

theorem val_take {l : List Int} (h : Bit l) (n : Nat) : val (l.take n) = val l % 2 ^ n := by
  by_cases hn : n ≤ l.length
  · have e : l = l.take n ++ l.drop n := (List.take_append_drop n l).symm
    have hb := val_bound (h.take n)
    have el : (l.take n).length = n := by rw [List.length_take]; omega
    rw [el] at hb
    have e2 : val l = val (l.take n) + 2 ^ n * val (l.drop n) := by
      conv => lhs; rw [e]
      rw [val_append, el]
    rw [e2, Int.add_mul_emod_self_left, Int.emod_eq_of_lt hb.1 hb.2]
  · rw [List.take_of_length_le (by omega)]
    have hb := val_bound h
    have : (2 : Int) ^ l.length ≤ 2 ^ n := pow_le (by omega)
    rw [Int.emod_eq_of_lt hb.1 (by omega)]

theorem unpack_nil : unpack [] = [] := rfl
theorem unpack_cons (b : Int) (d : List Int) : unpack (b :: d) = bts b 8 ++ unpack d := by simp [unpack]
theorem unpack_append (a b : List Int) : unpack (a ++ b) = unpack a ++ unpack b := by simp [unpack]
theorem unpack_one (b : Int) : unpack [b] = bts b 8 := by simp [unpack]

theorem length_unpack (d : List Int) : (unpack d).length = 8 * d.length := by
  induction d with
  | nil => rfl
  | cons b d ih => rw [unpack_cons, List.length_append, length_bts, ih, List.length_cons]; omega

theorem bit_unpack (d : List Int) : Bit (unpack d) := by
  induction d with
  | nil => exact bit_nil
  | cons b d ih => rw [unpack_cons]; exact (bit_bts _ _).append ih

theorem unpack_take (d : List Int) (k : Nat) : unpack (d.take k) = (unpack d).take (8 * k) := by
  by_cases hk : k ≤ d.length
  · conv => rhs; rw [← List.take_append_drop k d]
    rw [unpack_append, List.take_append_of_le_length (by rw [length_unpack, List.length_take]; omega)]
    exact (List.take_of_length_le (by rw [length_unpack, List.length_take]; omega)).symm
  · rw [List.take_of_length_le (by omega), List.take_of_length_le (by rw [length_unpack]; omega)]

theorem unpack_drop (d : List Int) (k : Nat) : unpack (d.drop k) = (unpack d).drop (8 * k) := by
  by_cases hk : k ≤ d.length
  · conv => rhs; rw [← List.take_append_drop k d]
    rw [unpack_append, List.drop_append_of_le_length (by rw [length_unpack, List.length_take]; omega)]
    rw [List.drop_of_length_le (l := unpack (d.take k)) (by rw [length_unpack, List.length_take]; omega)]
    rfl
  · rw [List.drop_of_length_le (by omega), List.drop_of_length_le (by rw [length_unpack]; omega)]
    rfl

theorem byt_cons {b : Int} {d : List Int} (h : Byt (b :: d)) : (0 ≤ b ∧ b < 256) ∧ Byt d :=
  ⟨by simpa using h 0, fun i => by have := h (i + 1); simpa using this⟩

theorem byt_cons_mk {b : Int} {d : List Int} (h0 : 0 ≤ b) (h1 : b < 256) (h : Byt d) : Byt (b :: d) := by
  intro i
  cases i with
  | zero => simpa using ⟨h0, h1⟩
  | succ i => simpa using h i

theorem byt_append {a b : List Int} (h : Byt a) (k : Byt b) : Byt (a ++ b) := by
  induction a with
  | nil => exact k
  | cons x a ih =>
    obtain ⟨h0, h1⟩ := byt_cons h
    exact byt_cons_mk h0.1 h0.2 (ih h1)

theorem byt_nil : Byt [] := fun i => by simp

theorem byt_one {b : Int} (h0 : 0 ≤ b) (h1 : b < 256) : Byt [b] := byt_cons_mk h0 h1 byt_nil

theorem byt_take {l : List Int} (h : Byt l) (k : Nat) : Byt (l.take k) := by
  intro i
  by_cases hi : i < k
  · have : (l.take k).getD i 0 = l.getD i 0 := by simp [List.getD, hi]
    rw [this]; exact h i
  · have : (l.take k).getD i 0 = 0 := by
      have e : (l.take k)[i]? = none := List.getElem?_eq_none (by rw [List.length_take]; omega)
      simp [List.getD, e]
    rw [this]; decide

theorem byt_drop {l : List Int} (h : Byt l) (k : Nat) : Byt (l.drop k) := by
  intro i
  have : (l.drop k).getD i 0 = l.getD (k + i) 0 := by simp [List.getD]
  rw [this]; exact h _

theorem unpack_inj {a b : List Int} (ha : Byt a) (hb : Byt b) (h : unpack a = unpack b) : a = b := by
  induction a generalizing b with
  | nil =>
    have := congrArg List.length h
    rw [length_unpack, length_unpack] at this
    exact (List.eq_nil_of_length_eq_zero (by simp at this; omega)).symm
  | cons x a ih =>
    cases b with
    | nil =>
      have := congrArg List.length h
      rw [length_unpack, length_unpack] at this
      simp at this
    | cons y b =>
      rw [unpack_cons, unpack_cons] at h
      obtain ⟨h1, h2⟩ := List.append_inj h (by rw [length_bts, length_bts])
      obtain ⟨x0, xa⟩ := byt_cons ha
      obtain ⟨y0, yb⟩ := byt_cons hb
      have e := congrArg val h1
      rw [val_bts_in x0.1 (by omega), val_bts_in y0.1 (by omega)] at e
      rw [e, ih xa yb h2]

structure Lies (row d : List Int) (r : Int) (h : Nat) : Prop where
  e : row = unpack d ++ bts r h
  b : Byt d
  r0 : 0 ≤ r
  r1 : r < 2 ^ h
  h8 : h < 8

theorem Lies.len {row d : List Int} {r : Int} {h : Nat} (k : Lies row d r h) : row.length = 8 * d.length + h := by
  rw [k.e, List.length_append, length_unpack, length_bts]

theorem Lies.bit {row d : List Int} {r : Int} {h : Nat} (k : Lies row d r h) : Bit row := by
  rw [k.e]; exact (bit_unpack _).append (bit_bts _ _)

theorem lies_nil : Lies [] [] 0 0 := ⟨rfl, byt_nil, by omega, by simp, by omega⟩

def tail (r : Int) (h : Nat) : List Int := if h = 0 then [] else [r]

def pad (row : List Int) : List Int := row ++ List.replicate ((row.length + 7) / 8 * 8 - row.length) 0

theorem length_pad (row : List Int) : (pad row).length = (row.length + 7) / 8 * 8 := by
  simp only [pad, List.length_append, List.length_replicate]
  omega

theorem bit_pad {row : List Int} (h : Bit row) : Bit (pad row) := h.append (bit_zeros _)

theorem pow_lt256 {r : Int} {h : Nat} (h8 : h < 8) (hr : r < 2 ^ h) : r < 256 := by
  have : (2 : Int) ^ h ≤ 2 ^ 8 := pow_le (by omega)
  omega

theorem Lies.unpack {row d : List Int} {r : Int} {h : Nat} (k : Lies row d r h) : unpack (d ++ tail r h) = pad row ∧ Byt (d ++ tail r h) := by
  obtain ⟨rfl, hb, h0, h1, h8⟩ := k
  unfold tail pad
  by_cases e : h = 0
  · subst e
    simp only [bts, List.append_nil, if_true]
    rw [length_unpack, show (8 * d.length + 7) / 8 * 8 - 8 * d.length = 0 by omega]
    exact ⟨by simp, hb⟩
  · rw [if_neg e]
    refine ⟨?_, byt_append hb (byt_one h0 (pow_lt256 h8 h1))⟩
    rw [unpack_append, unpack_one, List.length_append, length_unpack, length_bts, show (8 * d.length + h + 7) / 8 * 8 - (8 * d.length + h) = 8 - h by omega, List.append_assoc]
    congr 1
    rw [show (8 : Nat) = h + (8 - h) by omega, bts_split, Int.ediv_eq_zero_of_lt h0 h1, bts_zero]
    simp

theorem Lies.same {row d d' : List Int} {r r' : Int} {h h' : Nat} (k : Lies row d r h) (k' : Lies row d' r' h') : d ++ tail r h = d' ++ tail r' h' :=
  unpack_inj k.unpack.2 k'.unpack.2 (k.unpack.1.trans k'.unpack.1.symm)

theorem Lies.put {row d : List Int} {r : Int} {h : Nat} (k : Lies row d r h) {b : Int} (hb : b = 0 ∨ b = 1) : Lies (row ++ [b]) (if h = 7 then d ++ [r + b * 2 ^ h] else d) (if h = 7 then 0 else r + b * 2 ^ h) (if h = 7 then 0 else h + 1) := by
  obtain ⟨rfl, hd, h0, h1, h8⟩ := k
  have hp := pow_pos h
  have hr : 0 ≤ r + b * 2 ^ h ∧ r + b * 2 ^ h < 2 ^ (h + 1) := by rw [pow_add1]; rcases hb with rfl | rfl <;> omega
  have hj := bts_join h0 h1 b 1
  rw [bts_one hb] at hj
  by_cases e : h = 7
  · subst e
    simp only [if_true]
    refine ⟨?_, byt_append hd (byt_one hr.1 (by have := hr.2; omega)), by omega, by decide, by omega⟩
    rw [List.append_assoc, ← hj, unpack_append, unpack_one]
    simp [bts]
  · simp only [if_neg e]
    exact ⟨by rw [List.append_assoc, ← hj], hd, hr.1, hr.2, by omega⟩

theorem lies_ex {row : List Int} (hb : Bit row) : ∃ d r h, Lies row d r h := by
  obtain ⟨n, hn⟩ : ∃ n, row.length = n := ⟨_, rfl⟩
  induction n generalizing row with
  | zero => obtain rfl := List.eq_nil_of_length_eq_zero hn; exact ⟨_, _, _, lies_nil⟩
  | succ n ih =>
    have e : row = row.take n ++ [row[n]] := by
      conv => lhs; rw [← List.take_of_length_le (l := row) (i := n + 1) (by omega)]
      rw [List.take_succ_eq_append_getElem (by omega)]
    obtain ⟨d, r, h, k⟩ := ih (hb.take n) (by rw [List.length_take]; omega)
    rw [e]
    exact ⟨_, _, _, k.put (hb _ (List.getElem_mem _))⟩

noncomputable def pack (row : List Int) : List Int := by
  classical
  exact if h : ∃ t, ∃ d r h, Lies row d r h ∧ t = d ++ tail r h then h.choose else []

theorem Lies.pack {row d : List Int} {r : Int} {h : Nat} (k : Lies row d r h) : pack row = d ++ tail r h := by
  have hex : ∃ t, ∃ d r h, Lies row d r h ∧ t = d ++ tail r h := ⟨_, d, r, h, k, rfl⟩
  unfold Proofs.YtfoglaajnlbnbaaGreatDoor.pack
  rw [dif_pos hex]
  obtain ⟨d', r', h', k', e⟩ := hex.choose_spec
  rw [e]
  exact k'.same k

theorem unpack_pack {row : List Int} (hb : Bit row) : unpack (pack row) = pad row ∧ Byt (pack row) := by
  obtain ⟨d, r, h, k⟩ := lies_ex hb
  rw [k.pack]
  exact k.unpack

theorem length_pack {row : List Int} (hb : Bit row) : (pack row).length = (row.length + 7) / 8 := by
  have := congrArg List.length (unpack_pack hb).1
  rw [length_unpack, length_pad] at this
  omega

theorem lies_unpack {d : List Int} (h : Byt d) : Lies (unpack d) d 0 0 := ⟨by simp [bts], h, by omega, by decide, by omega⟩

theorem pack_unpack {d : List Int} (h : Byt d) : pack (unpack d) = d := by
  rw [(lies_unpack h).pack]
  simp [tail]

def le : List Int → Int
  | [] => 0
  | b :: r => b + 256 * le r

theorem le_append (a : List Int) (c : Int) : le (a ++ [c]) = le a + 256 ^ a.length * c := by
  induction a with
  | nil => simp [le]
  | cons b r ih => simp only [List.cons_append, le, ih, List.length_cons, Int.pow_succ, Int.mul_add]; rw [Int.add_assoc, Int.mul_comm (256 ^ r.length) 256, Int.mul_assoc]

theorem le_take {l : List Int} {k : Nat} (h : k < l.length) : le (l.take (k + 1)) = le (l.take k) + 256 ^ k * l.getD k 0 := by
  rw [List.take_succ_eq_append_getElem h, le_append, List.length_take, Nat.min_eq_left (by omega)]
  simp [List.getD, h]

theorem le_bound {l : List Int} (h : Byt l) : 0 ≤ le l ∧ le l < 256 ^ l.length := by
  induction l with
  | nil => simp [le]
  | cons b r ih =>
    obtain ⟨h0, h1⟩ := byt_cons h
    have hr := ih h1
    simp only [le, List.length_cons, Int.pow_succ]
    omega

theorem le_unpack {l : List Int} (h : Byt l) : val (unpack l) = le l := by
  induction l with
  | nil => rfl
  | cons b r ih =>
    obtain ⟨h0, h1⟩ := byt_cons h
    rw [unpack_cons, val_append, length_bts, ih h1, val_bts_in h0.1 (by omega)]
    rfl

def ahead (row : List Int) (p n : Nat) : Int := val ((row.drop p).take n)

theorem ahead_bound {row : List Int} (h : Bit row) (p n : Nat) : 0 ≤ ahead row p n ∧ ahead row p n < 2 ^ n := by
  have h1 := val_bound ((h.drop p).take n)
  have h2 : (2 : Int) ^ ((row.drop p).take n).length ≤ 2 ^ n := pow_le (by rw [List.length_take]; omega)
  unfold ahead
  omega

theorem ahead_bytes {d : List Int} (hd : Byt d) (p n : Nat) (t : Nat) (ht : t = min ((p + n + 7) / 8) d.length) (hp : p ≤ 8 * d.length) :
    le ((d.drop (p / 8)).take (t - p / 8)) / 2 ^ (p % 8) % 2 ^ n = ahead (unpack d) p n := by
  rw [← le_unpack (byt_take (byt_drop hd _) _), unpack_take, unpack_drop]
  have hb := bit_unpack d
  rw [← val_drop ((hb.drop _).take _), ← val_take (((hb.drop _).take _).drop _)]
  unfold ahead
  congr 1
  rw [List.drop_take, List.drop_drop, List.take_take, show 8 * (p / 8) + p % 8 = p by omega]
  by_cases h : n ≤ 8 * (t - p / 8) - p % 8
  · rw [Nat.min_eq_left h]
  · rw [Nat.min_eq_right (by omega)]
    have hl : ((unpack d).drop p).length = 8 * d.length - p := by rw [List.length_drop, length_unpack]
    rw [List.take_of_length_le (by rw [hl]; omega), List.take_of_length_le (by rw [hl]; omega)]
end Go.Proofs.YtfoglaajnlbnbaaGreatDoor

namespace Go.Proofs.YtfoglaajnlbnbaaGreatDoor
open Go.RowKit

def SB (w : World) (v : Value) (l : List Int) : Prop :=
  ∃ ao cap, v = .slice ao l.length cap ∧ l.length ≤ cap ∧ cap ≤ maxLen ∧ (ao = none → cap = 0) ∧ ∀ x, ao = some x → ∀ i, i < l.length → w.cell? (x.add i) = some (.int .u8 (l.getD i 0))

def OB (w : World) (base : Nat) (v : Value) (l : List Int) : Prop := w.ownsRow base 5 1 v l.length (l.map (Value.int .u8))

theorem hide {p : Prop} (h : p) : Hid p := h
theorem unhide {p : Prop} (h : Hid p) : p := h

theorem add_block (x : Addr) (i : Nat) : (x.add i).block = x.block := by unfold Addr.add; split <;> rfl

theorem SB.move {w w' : World} {v : Value} {l : List Int} (h : SB w v l) (hc : ∀ a u, w.cell? a = some u → v.ownBlock = some a.block → w'.cell? a = some u) : SB w' v l := by
  obtain ⟨ao, cap, rfl, h1, h2, h3, h4⟩ := h
  refine ⟨ao, cap, rfl, h1, h2, h3, fun x hx i hi => hc _ _ (h4 x hx i hi) ?_⟩
  subst hx; simp [Value.ownBlock, add_block]

theorem SB.below {w w' : World} {v : Value} {l : List Int} (h : SB w v l) (hb : Below w.heap.size w w') : SB w' v l :=
  h.move fun a _ ha _ => (hb.cell (World.block_lt_of_cell? w a ha)).trans ha

theorem OB.lt {w : World} {base : Nat} {v : Value} {l : List Int} (h : OB w base v l) : ∀ k, v.ownBlock = some k → base ≤ k ∧ k < w.heap.size := World.ownsRow.lt h

theorem OB.sb {w : World} {base : Nat} {v : Value} {l : List Int} (h : OB w base v l) : SB w v l := by
  have hc := @World.ownsRow.cells _ _ _ _ _ _ _ h
  rcases h.2 with ⟨rfl, h0⟩ | ⟨g, cap, cur, rfl, _, _, h3, h4, _, _⟩
  · obtain rfl : l = [] := List.eq_nil_of_length_eq_zero h0
    exact ⟨none, 0, rfl, Nat.le_refl _, Nat.zero_le _, fun _ => rfl, fun x hx => by cases hx⟩
  · refine ⟨some ⟨g, 0, none⟩, cap, rfl, h3, h4, (fun e => by cases e), fun x hx i hi => ?_⟩
    cases hx
    refine hc (g := g) rfl i _ ?_
    simp [hi]

theorem OB.shape {w : World} {base : Nat} {v : Value} {l : List Int} (h : OB w base v l) : ∃ a c, v = .slice a l.length c := by
  rcases h.2 with ⟨rfl, h0⟩ | ⟨g, cap, cur, rfl, _⟩
  · exact ⟨none, 0, by rw [h0]⟩
  · exact ⟨_, _, rfl⟩

theorem OB.move {w w' : World} {base : Nat} {v : Value} {l : List Int} (h : OB w base v l) (hb : ∀ k, v.ownBlock = some k → w'.heap[k]? = w.heap[k]?) : OB w' base v l := by
  refine ⟨h.1, ?_⟩
  rcases h.2 with h2 | ⟨g, cap, cur, rfl, h1, h2, r⟩
  · exact .inl h2
  · exact .inr ⟨g, cap, cur, rfl, h1, (hb g rfl).trans h2, r⟩

theorem OB.base {w : World} {base base' : Nat} {v : Value} {l : List Int} (h : OB w base v l) (hb : base' ≤ base) : OB w base' v l := by
  refine ⟨h.1, ?_⟩
  rcases h.2 with h2 | ⟨g, cap, cur, rfl, h1, r⟩
  · exact .inl h2
  · exact .inr ⟨g, cap, cur, rfl, Nat.le_trans hb h1, r⟩

theorem OB.below {w w' : World} {base B : Nat} {v : Value} {l : List Int} (h : OB w base v l) (hb : Below B w w') (hB : w.heap.size ≤ B) : OB w' base v l :=
  h.move fun k hk => hb.block k (Nat.lt_of_lt_of_le (h.lt k hk).2 hB)

theorem size_alloc' (w : World) (o : Obj) : (w.alloc o).heap.size = w.heap.size + 1 := by simp

theorem heap_two (w : World) (o p : Obj) : ((w.alloc o).alloc p).heap[w.heap.size + 1]? = some p ∧ ((w.alloc o).alloc p).heap[w.heap.size]? = some o := by
  have e := heap_alloc_new (w.alloc o) p
  rw [size_alloc'] at e
  exact ⟨e, (Below.heap_alloc (w.alloc o) p w.heap.size (by rw [size_alloc']; omega)).trans (heap_alloc_new w o)⟩

theorem info5 : (Tryz.prog.info? 5).map (fun i => (i.zero, i.size, i.bytes)) = some (some (.int .u8 0), 1, 1) := by kernel_rfl

theorem madeBytes (n : Nat) : (madeCells #[Value.int .u8 0] n).toList = List.replicate n (Value.int .u8 0) := by
  have e : ∀ k : Nat, [Value.int IntKind.u8 0][k % 1]?.getD default = Value.int .u8 0 := fun k => by simp [Nat.mod_one]
  simp only [madeCells]
  simp [e, List.map_const']

theorem OB.of_full {w : World} {base g : Nat} {l : List Int} (hg : w.heap[g]? = some (.cells (l.map (Value.int .u8)).toArray 5 (0, 0))) (hb : base ≤ g) (hm : l.length ≤ maxLen) : OB w base (.slice (some ⟨g, 0, none⟩) l.length l.length) l :=
  ⟨by simp, .inr ⟨g, l.length, _, rfl, hb, hg, Nat.le_refl _, hm, by simp, List.take_of_length_le (by simp)⟩⟩

theorem splice_all {α : Type} (L cs : List α) (h : cs.length = L.length) : splice L 0 cs = cs := by
  simp [splice, h]

theorem addr_lit {w : World} {x : Addr} {u : Value} (h : w.cell? (x.add 0) = some u) : ∃ b o, x = ⟨b, o, none⟩ := by
  have hs := World.cell?_spot h
  obtain ⟨b, o, s⟩ := x
  refine ⟨b, o, ?_⟩
  unfold Addr.add at hs
  cases s with
  | none => rfl
  | some q => simp at hs

theorem take_step {l1 l2 : List Int} {k : Nat} (h1 : k < l1.length) (hl : l1.length = l2.length) (ht : l1.take k = l2.take k) :
    (l1.getD k 0 = l2.getD k 0 → l1.take (k + 1) = l2.take (k + 1)) ∧ (l1.getD k 0 ≠ l2.getD k 0 → l1 ≠ l2) := by
  refine ⟨fun h => ?_, fun h e => h (by rw [e])⟩
  have e1 : l1.getD k 0 = l1[k] := by simp [h1]
  have e2 : l2.getD k 0 = l2[k]'(by omega) := by simp [show k < l2.length by omega]
  rw [e1, e2] at h
  rw [List.take_succ_eq_append_getElem h1, List.take_succ_eq_append_getElem (by omega), ht, h]

theorem size_setCell (w : World) (a : Addr) (u : Value) : (w.setCell a u).heap.size = w.heap.size := by simp [World.setCell]

theorem setCell_others (w : World) (g o : Nat) (u : Value) : ∀ k, k ≠ g → (w.setCell ⟨g, o, none⟩ u).heap[k]? = w.heap[k]? := fun k hk => Below.heap_setCell w _ u k hk

end Go.Proofs.YtfoglaajnlbnbaaGreatDoor

namespace Go.Proofs.YtfoglaajnlbnbaaGreatDoor
open Go.RowKit

theorem sizeByte : (Tryz.prog.info? 5).map (·.size) = some 1 := by kernel_rfl

theorem slicesClone_any (v : Value) (l : List Int) (w : World) (h : SB w v l) (hr : l.length ≤ 140737488351232) :
    Calls Tryz.prog 99 #[v] w fun e w' => ∃ a c, e = .returned (.slice a l.length c) ∧ OB w' w.heap.size (.slice a l.length c) l ∧ Below w.heap.size w w' := by
  obtain ⟨ao, cap, rfl, hlc, hcm, hnil, hcell⟩ := h
  obtain ⟨i0, hi, hz0, hz1, hz2⟩ := info_parts info5
  have he := fun (w : World) (a : Option Addr) (n c : Nat) => Lib.run_eql_slice_nil (P := Tryz.prog) w 28 5 a n c 0 0 Tryz.underlying28
  cases ao with
  | none =>
    obtain rfl : cap = 0 := hnil rfl
    obtain rfl : l = [] := List.eq_nil_of_length_eq_zero (by omega)
    go_enter Tryz.func99, Tryz.ntmps99
    go_wp2
    go_ret
    exact ⟨_, _, rfl, World.ownsRow_nil _ _ _ _, Below.refl _ _⟩
  | some x =>
    go_enter Tryz.func99, Tryz.ntmps99
    obtain ⟨cs, hcs⟩ : ∃ cs, cs = l.map (Value.int .u8) := ⟨_, rfl⟩
    have HS : Hid (cs = l.map (Value.int .u8)) := hcs
    clear hcs
    have O1 : Hid ((w.alloc (.cells #[] 5)).ownsRow w.heap.size 5 1 (.slice (some ⟨w.heap.size, 0, none⟩) 0 0) 0 []) := World.ownsRow_made w #[] 0 (Nat.le_refl _) (Nat.zero_le _) rfl
    have C1 : Hid (cs.length = l.length * 1) := by show _ = _; rw [HS.out]; simp
    have C2 : Hid (∀ j v, cs[j]? = some v → (w.alloc (.cells #[] 5)).cell? (x.add j) = some v) := by
      intro j u hj
      rw [HS.out] at hj
      obtain ⟨hjl, rfl⟩ := List.getElem?_eq_some_iff.1 hj
      have hjl' : j < l.length := by simpa using hjl
      have hc := hcell x rfl j hjl'
      rw [((Below.refl _ _).alloc (Nat.le_refl _) _).cell (by have := World.block_lt_of_cell? _ _ hc; exact this), hc]
      simp [hjl']
    have C4 : Hid (∀ v ∈ cs, v.oneCell' = true) := by rw [HS.out]; intro u hu; obtain ⟨n, _, rfl⟩ := List.mem_map.1 hu; rfl
    clear hcell hnil
    go_wp2_with (at_builtin; refine wpList_append_own _ rfl _ _ 28 rfl w.heap.size 5 i0 (.int .u8 0) 1 1 Tryz.underlying28 hi hz0 hz1 hz2 rfl (by decide) _ 0 [] rfl O1.out x l.length cap cs rfl C1.out C2.out C4.out (by unfold maxLen; omega) (by omega) (by simp) ?_)
    intro v' w1 hown hgrow _
    have HF : Hid (OB w1 w.heap.size v' l) := by
      have h := hown
      rw [HS.out] at h
      exact show OB _ _ _ _ by simpa [OB] using h
    have hb : Below w.heap.size w w1 := ((Below.refl _ _).alloc (Nat.le_refl _) _).grown hgrow (by simp) (fun k hk => by simp [Value.ownBlock] at hk; omega)
    clear hown hgrow
    go_wp2
    go_ret
    obtain ⟨a, c, hv⟩ := HF.out.shape
    rw [hv] at HF ⊢
    exact ⟨a, c, rfl, HF.out, hb⟩

def eqB (l1 l2 : List Int) : Bool := decide (l1 = l2)

theorem same_any (v1 v2 : Value) (l1 l2 : List Int) (w : World) (h1 : SB w v1 l1) (h2 : SB w v2 l2) :
    Calls Tryz.prog 13 #[v1, v2] w fun e w' => e = .returned (.bool (eqB l1 l2)) ∧ ∃ n, w' = w.drewN n := by
  obtain ⟨ao1, cap1, rfl, hlc1, hcm1, hnil1, hcell1⟩ := h1
  obtain ⟨ao2, cap2, rfl, hlc2, hcm2, hnil2, hcell2⟩ := h2
  unfold maxLen at hcm1 hcm2
  by_cases hne : l1.length = l2.length
  case neg =>
    have hd : ((l1.length : Int) == l2.length) = false := by simp; omega
    have hd' : ((l1.length : Int) != l2.length) = true := by simp; omega
    have HE : Hid (eqB l1 l2 = false) := by show _ = _; simp [eqB]; intro h; exact hne (by rw [h])
    clear hne
    go_enter Tryz.func13, Tryz.ntmps13
    go_wp2
    go_ret
    rw [HE.out]
    exact ⟨rfl, 0, rfl⟩
  case pos =>
    have hd' : ((l1.length : Int) != l2.length) = false := by simp; omega
    have HNE : Hid (l1.length = l2.length) := hne
    by_cases h0 : l1.length = 0
    · obtain rfl : l1 = [] := List.eq_nil_of_length_eq_zero h0
      obtain rfl : l2 = [] := List.eq_nil_of_length_eq_zero (by omega)
      clear hne hcell1 hcell2 hnil1 hnil2
      go_enter Tryz.func13, Tryz.ntmps13
      go_wp2
      refine wp_loop_rounds 1 ?_
      rw [rounds_succ]
      go_wp2
      go_ret
      exact ⟨by simp [eqB], 0, rfl⟩
    · cases ao1 with
      | none => have := hnil1 rfl; omega
      | some x1 =>
      cases ao2 with
      | none => have := hnil2 rfl; omega
      | some x2 =>
      obtain ⟨b1, o1, rfl⟩ := addr_lit (hcell1 x1 rfl 0 (by omega))
      obtain ⟨b2, o2, rfl⟩ := addr_lit (hcell2 x2 rfl 0 (by omega))
      have g1 : ∀ k, k < l1.length → w.cell? ⟨b1, o1 + k, none⟩ = some (.int .u8 (l1.getD k 0)) := fun k hk => by have := hcell1 _ rfl k hk; rwa [Addr.add_lit] at this
      have g2 : ∀ k, k < l1.length → w.cell? ⟨b2, o2 + k, none⟩ = some (.int .u8 (l2.getD k 0)) := fun k hk => by have := hcell2 _ rfl k (by omega); rwa [Addr.add_lit] at this
      clear hcell1 hcell2 hnil1 hnil2 hne
      have G1 : Hid (∀ k, k < l1.length → w.cell? ⟨b1, o1 + k, none⟩ = some (.int .u8 (l1.getD k 0))) := g1
      have G2 : Hid (∀ k, k < l1.length → w.cell? ⟨b2, o2 + k, none⟩ = some (.int .u8 (l2.getD k 0))) := g2
      clear g1 g2
      go_enter Tryz.func13, Tryz.ntmps13
      go_wp2
      go_loopw [5] (fun i wr => ∃ k n : Nat, k ≤ l1.length ∧ i = .int .i64 k ∧ wr = w.drewN n ∧ Hid (l1.take k = l2.take k)) (fun i _ => l1.length - (intOf i).toNat)
      case atStart => exact ⟨0, 0, Nat.zero_le _, rfl, rfl, rfl⟩
      case round =>
        obtain ⟨k, n, hk, rfl, rfl, HT⟩ := hrel
        by_cases hlt : k < l1.length
        · have hlt2 : (k : Int) < (l2.length : Int) := by have := HNE.out; omega
          obtain ⟨c1, hc1, HC1⟩ : ∃ c, w.cell? ⟨b1, o1 + k, none⟩ = some (.int .u8 c) ∧ Hid (c = l1.getD k 0) := ⟨_, G1.out k hlt, rfl⟩
          obtain ⟨c2, hc2, HC2⟩ : ∃ c, w.cell? ⟨b2, o2 + k, none⟩ = some (.int .u8 c) ∧ Hid (c = l2.getD k 0) := ⟨_, G2.out k hlt, rfl⟩
          have HK := take_step (l1 := l1) (l2 := l2) (k := k) (by omega) HNE.out HT.out
          by_cases hcc : c1 = c2
          · subst hcc
            go_wp2
            go_quiet (fail)
            go_wp2
            go_roundw
            case rel => exact ⟨k + 1, _, by omega, by go_num, rfl, HK.1 (by rw [← HC1.out, ← HC2.out])⟩
            case measure => simp [intOf]; omega
          · have hcb : (c1 != c2) = true := by simpa using hcc
            have HX : Hid (eqB l1 l2 = false) := by show _ = _; simp only [eqB, decide_eq_false_iff_not]; exact HK.2 (by rw [← HC1.out, ← HC2.out]; exact hcc)
            go_wp2
            go_quiet (fail)
            go_wp2
            go_ret
            rw [HX.out]
            exact ⟨rfl, _, World.drewN_drewN _ _ _⟩
        · go_wp2
          go_ret
          refine ⟨?_, n, rfl⟩
          have : l1 = l2 := by
            have h := HT.out
            rwa [List.take_of_length_le (by omega), List.take_of_length_le (by rw [← HNE.out]; omega)] at h
          simp [eqB, this]
end Go.Proofs.YtfoglaajnlbnbaaGreatDoor

namespace Go.Proofs.YtfoglaajnlbnbaaGreatDoor
open Go.RowKit Go.Maps

def Grew (w w' : World) (v v' : Value) : Prop := (v' = v ∧ w' = w) ∨ (v'.ownBlock = some w.heap.size ∧ Below w.heap.size w w') ∨ (v'.ownBlock = v.ownBlock ∧ w'.heap.size = w.heap.size ∧ w.grownBy w' v.ownBlock)

theorem run_app_none (w : World) (tx ty : TypeId) (i : TypeInfo) (hi : Tryz.prog.info? 5 = some i) (x : Value) (hs : Src Tryz.prog i.size tx x 0 [] w) :
    (Builtin.append_ #[28, tx] ty #[.slice none 0 0, x]).run Tryz.prog w = .ok (.slice none 0 0) w := by
  rcases hs.kind with ⟨e', hk⟩ | hk <;> simp [Builtin.append_, run_underlying Tryz.underlying28, run_underlying hk, sizeOf, typeInfo, hi, hs.len, hs.cells]

theorem run_app (w : World) (base : Nat) (tx ty : TypeId) (v x : Value) (l news : List Int) (hown : OB w base v l) (hs : Src Tryz.prog 1 tx x news.length (news.map (Value.int .u8)) w)
    (hb : l.length + news.length ≤ 140737488355328) (hbase : base ≤ w.heap.size) :
    ∃ v' w', (Builtin.append_ #[28, tx] ty #[v, x]).run Tryz.prog w = .ok v' w' ∧ OB w' base v' (l ++ news) ∧ Grew w w' v v' := by
  obtain ⟨i, hi, hz, hsz, hby⟩ := info_parts info5
  have hs' : Src Tryz.prog i.size tx x news.length (news.map (Value.int .u8)) w := by rw [hsz]; exact hs
  have hmx : l.length + news.length ≤ maxLen := by unfold maxLen; omega
  have grown : ∀ old, old < l.length + news.length → (OB (w.drew.alloc (.cells ((l.map (Value.int .u8) ++ news.map (Value.int .u8)).toArray ++ Builtin.zeroCells (Value.int .u8 0).cells (grownCap w (l.length + news.length) old 5 - (l.length + news.length))) 5)) base
      (.slice (some ⟨w.heap.size, 0, none⟩) (l.length + news.length) (grownCap w (l.length + news.length) old 5)) (l ++ news)) := by
    intro old ho
    have hge := grownCap_ge w (l.length + news.length) old 5
    have hcm : grownCap w (l.length + news.length) old 5 ≤ maxLen := grownCap_le_maxLen w (l.length + news.length) old 5 hmx
    refine ⟨by simp, .inr ⟨w.heap.size, grownCap w (l.length + news.length) old 5, _, by rw [List.length_append], hbase, heap_alloc_new w.drew _, by rw [List.length_append]; exact hge, hcm, ?_, ?_⟩⟩
    · simp only [Array.size_append, List.size_toArray, List.length_append, List.length_map, size_zeroCells, Value.cells]
      simp
      omega
    · simp only [Array.toList_append, List.map_append]
      rw [List.take_append_of_le_length (by simp)]
      exact List.take_of_length_le (by simp)
  rcases hown.2 with ⟨rfl, h0⟩ | ⟨g, cap, cur, rfl, hbg, hg, hnc, hcm, hcs, htake⟩
  · obtain rfl : l = [] := List.eq_nil_of_length_eq_zero h0
    by_cases hm : news = []
    · subst hm
      exact ⟨_, _, run_app_none w tx ty i hi x hs', hown, .inl ⟨rfl, rfl⟩⟩
    · have hpos : 0 < news.length := List.length_pos_iff.2 hm
      have hr := run_append_grow_src (P := Tryz.prog) w 28 tx ty 5 i (.int .u8 0) Tryz.underlying28 hi hz none 0 0 [] (run_firstCells_none w.drew i.size 0 0 0) x news.length _ hs' (by omega) (by omega) (by rw [hby]; exact growslice_fits (by omega) (by simp at hb ⊢; omega))
      have hgr := grown 0 (by simp; omega)
      simp only [List.length_nil, Nat.zero_add, List.map_nil, List.nil_append] at hgr hr ⊢
      exact ⟨_, _, hr, hgr, .inr (.inl ⟨rfl, (Below.refl _ _).drew.alloc (Nat.le_refl _) _⟩)⟩
  · by_cases hroom : l.length + news.length ≤ cap
    · have hfit : l.length * i.size + (news.map (Value.int .u8)).length ≤ cur.size := by rw [hsz, hcs]; simp; omega
      have hst := run_storeCells_at Tryz.prog g (l.length * i.size) 5 (news.map (Value.int .u8)) 0 cur w hg (by simpa using hfit) hs.one
      simp only [Nat.add_zero] at hst
      have hr : (Builtin.append_ #[28, tx] ty #[.slice (some ⟨g, 0, none⟩) l.length cap, x]).run Tryz.prog w =
          .ok (.slice (some ⟨g, 0, none⟩) (l.length + news.length) cap) (w.setRow g (cur.toList.take (l.length * i.size) ++ news.map (Value.int .u8) ++ cur.toList.drop (l.length * i.size + (news.map (Value.int .u8)).length)).toArray) := by
        rcases hs'.kind with ⟨e', hk⟩ | hk <;> simp [Builtin.append_, run_underlying Tryz.underlying28, run_underlying hk, sizeOf, typeInfo, hi, hs'.len, hroom, hs'.cells, Addr.add_lit, hst]
      refine ⟨_, _, hr, ⟨by simp, .inr ⟨g, cap, _, by rw [List.length_append], hbg, setRow_heap w g cur _ 5 _ hg, by rw [List.length_append]; exact hroom, hcm, ?_, ?_⟩⟩, .inr (.inr ⟨rfl, by simp [World.setRow], ⟨rfl, rfl, rfl, by simp, fun k _ hk => setRow_other w g k _ (fun e => hk (by simp [Value.ownBlock, e]))⟩⟩)⟩
      · rw [hsz]
        simp only [List.size_toArray, List.length_append, List.length_take, List.length_drop, Array.length_toList, List.length_map]
        omega
      · rw [hsz, htake]
        simp only [List.map_append]
        rw [List.take_append_of_le_length (by simp)]
        exact List.take_of_length_le (by simp)
    · have holds : ∀ j u, (l.map (Value.int .u8))[j]? = some u → w.drew.cell? ((⟨g, 0, none⟩ : Addr).add j) = some u := World.ownsRow.cells hown (g := g) rfl
      have hr := run_append_grow_src (P := Tryz.prog) w 28 tx ty 5 i (.int .u8 0) Tryz.underlying28 hi hz (some ⟨g, 0, none⟩) l.length cap (l.map (Value.int .u8)) (run_firstCells_some w.drew i.size l.length ⟨g, 0, none⟩ l.length cap _ (by rw [hsz]; simp) holds) x news.length _ hs' (by omega) (by omega) (by rw [hby]; exact growslice_fits (by omega) (by omega))
      exact ⟨_, _, hr, grown cap (by omega), .inr (.inl ⟨rfl, (Below.refl _ _).drew.alloc (Nat.le_refl _) _⟩)⟩

theorem wpList_app {w : World} {ops : Array Oper} {rest : List Oper} {o : Oper} {a : Act} {Q : Exit → Act → World → Prop} (hgd : o.guard = none) (s x : Operand) (tx : TypeId)
    (ho : o.op = .call { callee := .builtin .append, args := #[s, x], argTypes := #[28, tx] }) (base : Nat) (v xv : Value) (l news : List Int) (hv : a.eval s = v) (hown : OB w base v l) (hx : a.eval x = xv) (hs : Src Tryz.prog 1 tx xv news.length (news.map (Value.int .u8)) w)
    (hb : l.length + news.length ≤ 140737488355328) (hbase : base ≤ w.heap.size)
    (h : ∀ v' w', OB w' base v' (l ++ news) → Grew w w' v v' → wpList Tryz.prog ops Q rest (a.put o.dst v') w') : wpList Tryz.prog ops Q (o :: rest) a w := by
  refine wpList_plain hgd fun K hK => ?_
  obtain ⟨v', w', hr, h2, h3⟩ := run_app w base tx o.type v xv l news hown hs hb hbase
  unfold Oper.wp
  simp [execOp, ho, resolve, invoke, builtin, hv, hx, hr, Result.andThen]
  exact hK _ _ (h v' w' h2 h3)

theorem SB.src {w : World} {v : Value} {l : List Int} (h : SB w v l) : Src Tryz.prog 1 28 v l.length (l.map (Value.int .u8)) w := by
  obtain ⟨ao, cap, rfl, h1, h2, h3, h4⟩ := h
  cases ao with
  | none =>
    have hc := h3 rfl
    obtain rfl : l = [] := List.eq_nil_of_length_eq_zero (by omega)
    exact Src.ofNil w Tryz.underlying28 cap
  | some a =>
    refine Src.ofSlice w Tryz.underlying28 a l.length cap _ (by simp) (fun j u hj => ?_) (fun u hu => by obtain ⟨n, _, rfl⟩ := List.mem_map.1 hu; rfl)
    obtain ⟨hjl, rfl⟩ := List.getElem?_eq_some_iff.1 hj
    have hjl' : j < l.length := by simpa using hjl
    rw [h4 a rfl j hjl']
    simp [hjl']

theorem heap_setCell_at {w : World} {g k : Nat} {cur : Array Value} {t : TypeId} (u : Value) (h : w.heap[g]? = some (.cells cur t (0, 0))) : (w.setCell ⟨g, k, none⟩ u).heap[g]? = some (.cells (cur.setIfInBounds k u) t (0, 0)) := by
  simp [World.setCell, Array.getElem?_modify, h]

theorem grownBy_new {w w' : World} {r : Option Nat} {g o : Nat} {u : Value} (h : w.grownBy w' r) (hg : w.heap.size ≤ g) : w.grownBy (w'.setCell ⟨g, o, none⟩ u) r :=
  ⟨h.os, h.tape, h.output, by rw [size_setCell]; exact h.size, fun k hk hr => (setCell_others w' g o u k (by omega)).trans (h.block k hk hr)⟩

theorem Grew.by {w w' : World} {v v' : Value} (h : Grew w w' v v') : w.grownBy w' v.ownBlock := by
  rcases h with ⟨_, rfl⟩ | ⟨_, hb⟩ | ⟨_, _, hg⟩
  · exact World.grownBy.refl _ _
  · exact ⟨hb.os, hb.tape, hb.output, hb.size, fun k hk _ => hb.block k hk⟩
  · exact hg

theorem Grew.at {w w' : World} {v v' : Value} (h : Grew w w' v v') : v'.ownBlock = some w.heap.size ∨ v'.ownBlock = v.ownBlock := by
  rcases h with ⟨rfl, _⟩ | ⟨h, _⟩ | ⟨h, _⟩
  · exact .inr rfl
  · exact .inl h
  · exact .inr h

theorem built_src (w : World) (cs : List Int) : Src Tryz.prog 1 28 (.slice (some ⟨w.heap.size, 0, none⟩) cs.length cs.length) cs.length (cs.map (Value.int .u8)) (w.alloc (.cells (cs.map (Value.int .u8)).toArray 5)) := by
  refine Src.ofSlice _ Tryz.underlying28 _ _ _ _ (by simp) (fun j u hj => ?_) (fun u hu => by obtain ⟨n, _, rfl⟩ := List.mem_map.1 hu; rfl)
  have e := heap_alloc_new w (.cells (cs.map (Value.int .u8)).toArray 5)
  rw [Addr.add_lit]
  unfold World.cell?
  simp only [e, Nat.zero_add]
  simpa using hj

theorem OB.alloc {w : World} {base : Nat} {v : Value} {l : List Int} (h : OB w base v l) (o : Obj) : OB (w.alloc o) base v l := h.move fun k hk => Below.heap_alloc w o k (h.lt k hk).2

theorem wpList_mk {w : World} {ops : Array Oper} {rest : List Oper} {o : Oper} {a : Act} {Q : Exit → Act → World → Prop} (hg : o.guard = none) (l c : Operand) (hop : o.op = Op.makeSlice 28 l c)
    (kl kc : IntKind) (L C : Int) (n m : Nat) (hl : a.eval l = .int kl L) (hc : a.eval c = .int kc C) (hL : L = (n : Int)) (hC : C = (m : Int)) (hnm : n ≤ m) (b2 : m ≤ 140737488355328)
    (hK : ∀ w', w'.heap[w.heap.size]? = some (.cells (List.replicate m (Value.int .u8 0)).toArray 5 (0, 0)) → Below w.heap.size w w' → wpList Tryz.prog ops Q rest (a.put o.dst (.slice (some ⟨w.heap.size, 0, none⟩) n m)) w') :
    wpList Tryz.prog ops Q (o :: rest) a w := by
  obtain ⟨i0, hi, hz0, hz1, hz2⟩ := info_parts info5
  refine wpList_plain hg fun K hK' => ?_
  have hr := run_make (P := Tryz.prog) w 28 5 i0 (.int .u8 0) Tryz.underlying28 hi hz0 kl kc (n : Int) (m : Int) (by omega) (by omega) (by rw [hz2]; omega) (by omega)
  subst hL hC
  unfold Oper.wp
  simp [execOp, hop, hl, hc, hr, Result.andThen]
  refine hK' _ _ (hK _ ?_ ((Below.refl _ _).alloc (Nat.le_refl _) _))
  rw [heap_alloc_new, hz1, Nat.mul_one]
  have e : (madeCells (Value.int .u8 0).cells m) = (List.replicate m (Value.int .u8 0)).toArray := by
    apply Array.ext'
    exact madeBytes m
  rw [e]

structure Fr (K K' : Nat → Nat) (w w' : World) : Prop where
  os : w'.os = w.os
  tape : w'.tape = w.tape
  output : w'.output = w.output
  size : w.heap.size ≤ w'.heap.size
  block : ∀ k, k < w.heap.size → K k = 0 → w'.heap[k]? = w.heap[k]?
  role : ∀ k, k < w.heap.size → K' k = K k

theorem Fr.refl (K : Nat → Nat) (w : World) : Fr K K w w := ⟨rfl, rfl, rfl, Nat.le_refl _, fun _ _ _ => rfl, fun _ _ => rfl⟩

theorem Fr.trans {K K' K'' : Nat → Nat} {a b c : World} (h : Fr K K' a b) (k : Fr K' K'' b c) : Fr K K'' a c :=
  ⟨k.os.trans h.os, k.tape.trans h.tape, k.output.trans h.output, Nat.le_trans h.size k.size,
   fun i hi h0 => (k.block i (Nat.lt_of_lt_of_le hi h.size) (by rw [h.role i hi]; exact h0)).trans (h.block i hi h0),
   fun i hi => (k.role i (Nat.lt_of_lt_of_le hi h.size)).trans (h.role i hi)⟩

theorem Fr.below {K K' : Nat → Nat} {w w' : World} {B : Nat} (h : Fr K K' w w') (hu : ∀ k, K k ≠ 0 → B ≤ k) (hB : B ≤ w.heap.size) : Below B w w' :=
  ⟨h.os, h.tape, h.output, h.size, fun k hk => h.block k (by omega) (by
    by_cases hz : K k = 0
    · exact hz
    · have := hu k hz; omega)⟩

theorem Fr.up {K K' : Nat → Nat} {w w' : World} {B : Nat} (h : Fr K K' w w') (hu : ∀ k, K k ≠ 0 → B ≤ k) (hB : B ≤ w.heap.size) : ∀ k, K' k ≠ 0 → B ≤ k := by
  intro k hk
  by_cases hl : k < w.heap.size
  · exact hu k (by rw [← h.role k hl]; exact hk)
  · omega

theorem Fr.drewN {K K' : Nat → Nat} {w w' : World} (h : Fr K K' w w') (n : Nat) : Fr K K' w (w'.drewN n) := ⟨h.os, h.tape, h.output, h.size, h.block, h.role⟩

end Go.Proofs.YtfoglaajnlbnbaaGreatDoor

namespace Go.Proofs.YtfoglaajnlbnbaaGreatDoor
set_option linter.unusedVariables false

abbrev Tk := Int × Int × Int
def tk0 : Tk := (0, 0, 0)

def Snd (t : Tk) : Prop := if t.1 = 0 then t.2.1 = 0 else 3 ≤ t.1 ∧ t.1 ≤ 258 ∧ 1 ≤ t.2.1 ∧ t.2.1 ≤ 32768 ∧ t.2.2 = 0
instance (t : Tk) : Decidable (Snd t) := by unfold Snd; infer_instance

def sndb (t : Tk) : Bool := decide (Snd t)

def says (t : Tk) : Nat := max 1 t.1.toNat

def cpy (x : List Int) (d : Nat) : Nat → List Int
  | 0 => x
  | n + 1 => cpy x d n ++ [(cpy x d n).getD ((cpy x d n).length - d) 0]

theorem cpy_len (x : List Int) (d n : Nat) : (cpy x d n).length = x.length + n := by
  induction n with
  | zero => rfl
  | succ n ih => simp [cpy, ih]; omega

def ptk (x : List Int) (t : Tk) : List Int := if t.1 = 0 then x ++ [t.2.2] else cpy x t.2.1.toNat t.1.toNat

def stE (lim : Int) (x : List Int) (t : Tk) : Int := if Snd t then if (x.length : Int) < t.2.1 then 91 else if lim < (x.length : Int) + (says t : Nat) then 92 else 0 else 90

def exE (lim : Int) : List Int → List Tk → Int
  | _, [] => 0
  | x, t :: r => if stE lim x t = 0 then exE lim (ptk x t) r else stE lim x t

def exT : List Int → List Tk → List Int
  | x, [] => x
  | x, t :: r => exT (ptk x t) r

theorem ext_snoc : ∀ (R : List Tk) (x : List Int) (t : Tk), exT x (R ++ [t]) = ptk (exT x R) t
  | [], x, t => rfl
  | q :: R, x, t => by simp only [List.cons_append, exT]; exact ext_snoc R _ t

theorem ext_app : ∀ (R S : List Tk) (x : List Int), exT x (R ++ S) = exT (exT x R) S
  | [], S, x => rfl
  | q :: R, S, x => by simp only [List.cons_append, exT]; exact ext_app R S _

theorem exE_app (lim : Int) : ∀ (R S : List Tk) (x : List Int), exE lim x R = 0 → exE lim x (R ++ S) = exE lim (exT x R) S
  | [], S, x, _ => rfl
  | q :: R, S, x, h => by
    simp only [exE] at h
    by_cases h1 : stE lim x q = 0
    · rw [if_pos h1] at h
      simp only [List.cons_append, exE, exT]
      rw [if_pos h1]
      exact exE_app lim R S _ h
    · rw [if_neg h1] at h; exact absurd h h1

theorem exE_front (lim : Int) : ∀ (R S : List Tk) (x : List Int), exE lim x R ≠ 0 → exE lim x (R ++ S) = exE lim x R
  | [], S, x, h => absurd rfl h
  | q :: R, S, x, h => by
    simp only [List.cons_append, exE] at h ⊢
    by_cases h1 : stE lim x q = 0
    · rw [if_pos h1] at h ⊢
      rw [if_pos h1]
      exact exE_front lim R S _ h
    · rw [if_neg h1, if_neg h1]

theorem tk_snoc {R : List Tk} {k : Nat} (h : k < R.length) : R.take (k + 1) = R.take k ++ [R.getD k tk0] := by
  rw [List.take_succ_eq_append_getElem h]
  simp [h]

theorem exE_at {lim : Int} {R : List Tk} {k : Nat} (hk : k < R.length) (h0 : exE lim [] (R.take k) = 0) :
    (stE lim (exT [] (R.take k)) (R.getD k tk0) ≠ 0 → exE lim [] R = stE lim (exT [] (R.take k)) (R.getD k tk0)) ∧ (stE lim (exT [] (R.take k)) (R.getD k tk0) = 0 → exE lim [] (R.take (k + 1)) = 0) := by
  have e := exE_app lim (R.take k) [R.getD k tk0] [] h0
  rw [← tk_snoc hk] at e
  simp only [exE] at e
  refine ⟨fun h => ?_, fun h => by rw [if_pos h] at e; exact e⟩
  rw [if_neg h] at e
  have := exE_front lim (R.take (k + 1)) (R.drop (k + 1)) [] (by rw [e]; exact h)
  rw [List.take_append_drop] at this
  rw [this, e]

theorem ext_at {R : List Tk} {k : Nat} (hk : k < R.length) : exT [] (R.take (k + 1)) = ptk (exT [] (R.take k)) (R.getD k tk0) := by
  rw [tk_snoc hk, ext_snoc]

theorem snd_parts {t : Tk} (h : Snd t) : (t.1 = 0 ∧ t.2.1 = 0) ∨ (∃ l d : Nat, t = ((l : Int), (d : Int), 0) ∧ 3 ≤ l ∧ l ≤ 258 ∧ 1 ≤ d ∧ d ≤ 32768) := by
  obtain ⟨a, b, c⟩ := t
  unfold Snd at h
  simp only at h
  by_cases e : a = 0
  · rw [if_pos e] at h
    exact .inl ⟨e, h⟩
  · rw [if_neg e] at h
    obtain ⟨h1, h2, h3, h4, h5⟩ := h
    obtain ⟨l, rfl⟩ := Int.eq_ofNat_of_zero_le (show 0 ≤ a by omega)
    obtain ⟨d, rfl⟩ := Int.eq_ofNat_of_zero_le (show 0 ≤ b by omega)
    exact .inr ⟨l, d, by rw [h5], by omega, by omega, by omega, by omega⟩

theorem ptk_len {x : List Int} {t : Tk} (h : Snd t) : (ptk x t).length = x.length + says t := by
  rcases snd_parts h with ⟨h1, h2⟩ | ⟨l, d, rfl, h1, h2, h3, h4⟩
  · unfold ptk says; rw [if_pos h1, h1]; simp
  · unfold ptk says
    rw [if_neg (by simp only; omega), cpy_len]
    simp only [Int.toNat_natCast]; omega

theorem stE_mk {lim : Int} {x : List Int} {t : Tk} (h1 : Snd t) (h2 : t.2.1 ≤ (x.length : Int)) (h3 : (x.length : Int) + (says t : Nat) ≤ lim) : stE lim x t = 0 := by
  unfold stE
  rw [if_pos h1, if_neg (by omega), if_neg (by omega)]

theorem stE_90 {lim : Int} {x : List Int} {t : Tk} (h : ¬ Snd t) : stE lim x t = 90 := by unfold stE; rw [if_neg h]
theorem stE_91 {lim : Int} {x : List Int} {t : Tk} (h : Snd t) (h2 : (x.length : Int) < t.2.1) : stE lim x t = 91 := by unfold stE; rw [if_pos h, if_pos h2]
theorem stE_92 {lim : Int} {x : List Int} {t : Tk} (h : Snd t) (h2 : t.2.1 ≤ (x.length : Int)) (h3 : lim < (x.length : Int) + (says t : Nat)) : stE lim x t = 92 := by unfold stE; rw [if_pos h, if_neg (by omega), if_pos h3]

def Pre (a b : List Int) : Prop := b.take a.length = a

theorem Pre.refl (a : List Int) : Pre a a := List.take_of_length_le (Nat.le_refl _)
theorem Pre.len {a b : List Int} (h : Pre a b) : a.length ≤ b.length := by
  have := congrArg List.length h
  simp at this; omega
theorem Pre.trans {a b c : List Int} (h : Pre a b) (g : Pre b c) : Pre a c := by
  have hl := h.len
  unfold Pre at h g ⊢
  rw [← g, List.take_take, Nat.min_eq_left hl] at h
  exact h
theorem Pre.snoc (a : List Int) (x : Int) : Pre a (a ++ [x]) := by simp [Pre]
theorem Pre.getD {a b : List Int} (h : Pre a b) {i : Nat} (hi : i < a.length) : b.getD i 0 = a.getD i 0 := by
  have e : a.getD i 0 = (b.take a.length).getD i 0 := by rw [h]
  rw [e]
  simp [hi]

end Go.Proofs.YtfoglaajnlbnbaaGreatDoor

namespace Go.Proofs.YtfoglaajnlbnbaaGreatDoor
open Go.RowKit Go.Maps
set_option maxRecDepth 20000
set_option linter.unusedVariables false

def fr3 (R : List Tk) : List Value := R.flatMap fun r => [.int .i64 r.1, .int .i64 r.2.1, .int .u8 r.2.2]

theorem fr3_len (R : List Tk) : (fr3 R).length = R.length * 3 := by
  induction R with
  | nil => rfl
  | cons a r ih => unfold fr3 at ih ⊢; rw [List.flatMap_cons, List.length_append, ih]; simp; omega

theorem fr3_get {R : List Tk} {i : Nat} (h : i < R.length) : (fr3 R)[i * 3]? = some (.int .i64 (R.getD i tk0).1) ∧ (fr3 R)[i * 3 + 1]? = some (.int .i64 (R.getD i tk0).2.1) ∧ (fr3 R)[i * 3 + 2]? = some (.int .u8 (R.getD i tk0).2.2) := by
  induction R generalizing i with
  | nil => simp at h
  | cons a r ih =>
    cases i with
    | zero => exact ⟨rfl, rfl, rfl⟩
    | succ i =>
      have := ih (i := i) (by simpa using h)
      have e : fr3 (a :: r) = .int .i64 a.1 :: .int .i64 a.2.1 :: .int .u8 a.2.2 :: fr3 r := rfl
      rw [e, show (i + 1) * 3 = i * 3 + 1 + 1 + 1 by omega, show i * 3 + 1 + 1 + 1 + 1 = (i * 3 + 1) + 1 + 1 + 1 by omega, show i * 3 + 1 + 1 + 1 + 2 = (i * 3 + 2) + 1 + 1 + 1 by omega]
      simp only [List.getElem?_cons_succ]
      exact this

theorem fr3_one (R : List Tk) : ∀ v ∈ fr3 R, v.oneCell' = true := by
  intro v hv
  unfold fr3 at hv
  obtain ⟨r, _, hr⟩ := List.mem_flatMap.1 hv
  simp only [List.mem_cons, List.not_mem_nil, or_false] at hr
  rcases hr with rfl | rfl | rfl <;> rfl

def SK (w : World) (v : Value) (R : List Tk) : Prop :=
  ∃ ao cap, v = .slice ao R.length cap ∧ R.length ≤ cap ∧ cap ≤ maxLen ∧ (ao = none → cap = 0) ∧ ∀ x, ao = some x → ∀ i, i < R.length → w.cell? (x.add (i * 3)) = some (.int .i64 (R.getD i tk0).1) ∧ w.cell? (x.add (i * 3 + 1)) = some (.int .i64 (R.getD i tk0).2.1) ∧ w.cell? (x.add (i * 3 + 2)) = some (.int .u8 (R.getD i tk0).2.2)

def OK (w : World) (base : Nat) (v : Value) (R : List Tk) : Prop := w.ownsRow base 54 3 v R.length (fr3 R)

theorem SK.below {w w' : World} {v : Value} {R : List Tk} (h : SK w v R) (hb : Below w.heap.size w w') : SK w' v R := by
  obtain ⟨ao, cap, rfl, h1, h2, h3, h4⟩ := h
  refine ⟨ao, cap, rfl, h1, h2, h3, fun x hx i hi => ?_⟩
  obtain ⟨c1, c2, c3⟩ := h4 x hx i hi
  exact ⟨(hb.cell (World.block_lt_of_cell? w _ c1)).trans c1, (hb.cell (World.block_lt_of_cell? w _ c2)).trans c2, (hb.cell (World.block_lt_of_cell? w _ c3)).trans c3⟩

theorem SK.open {w : World} {v : Value} {R : List Tk} (h : SK w v R) : ∃ ao cap, v = .slice ao R.length cap ∧ R.length ≤ cap ∧ cap ≤ 9223372036854775807 := by
  obtain ⟨ao, cap, rfl, h1, h2, _⟩ := h
  unfold maxLen at h2
  exact ⟨ao, cap, rfl, h1, by omega⟩

theorem SK.get {W w : World} {ao : Option Addr} {cap : Nat} {R : List Tk} (h : SK W (.slice ao R.length cap) R) (hb : Below W.heap.size W w) {k : Nat} (hk : k < R.length) : ∃ b o, ao = some ⟨b, o, none⟩ ∧ w.cell? ⟨b, o + k * 3, none⟩ = some (.int .i64 (R.getD k tk0).1) ∧ w.cell? ⟨b, o + k * 3 + 1, none⟩ = some (.int .i64 (R.getD k tk0).2.1) ∧ w.cell? ⟨b, o + k * 3 + 2, none⟩ = some (.int .u8 (R.getD k tk0).2.2) := by
  obtain ⟨ao', cap', he, h1, h2, h3, h4⟩ := h
  simp only [Value.slice.injEq] at he
  obtain ⟨rfl, -, rfl⟩ := he
  cases ao with
  | none => have := h3 rfl; omega
  | some x =>
    obtain ⟨b, o, rfl⟩ := addr_lit (h4 x rfl 0 (by omega)).1
    obtain ⟨c1, c2, c3⟩ := h4 _ rfl k hk
    rw [Addr.add_lit] at c1 c2 c3
    exact ⟨b, o, rfl, (hb.cell (World.block_lt_of_cell? W _ c1)).trans c1, (hb.cell (World.block_lt_of_cell? W _ c2)).trans c2, (hb.cell (World.block_lt_of_cell? W _ c3)).trans c3⟩

theorem tokown_move {w w' : World} {base : Nat} {e : TypeId} {size : Nat} {v : Value} {n : Nat} {xs : List Value} (h : w.ownsRow base e size v n xs) (hb : ∀ k, v.ownBlock = some k → w'.heap[k]? = w.heap[k]?) : w'.ownsRow base e size v n xs := by
  refine ⟨h.1, ?_⟩
  rcases h.2 with h2 | ⟨g, cap, cur, rfl, h1, h2, r⟩
  · exact .inl h2
  · exact .inr ⟨g, cap, cur, rfl, h1, (hb g rfl).trans h2, r⟩

theorem OK.lt {w : World} {base : Nat} {v : Value} {R : List Tk} (h : OK w base v R) : ∀ k, v.ownBlock = some k → base ≤ k ∧ k < w.heap.size := World.ownsRow.lt h
theorem OK.below {w w' : World} {base B : Nat} {v : Value} {R : List Tk} (h : OK w base v R) (hb : Below B w w') (hB : w.heap.size ≤ B) : OK w' base v R := tokown_move h fun k hk => hb.block k (Nat.lt_of_lt_of_le (h.lt k hk).2 hB)
theorem OK.drewN {w : World} {base : Nat} {v : Value} {R : List Tk} (h : OK w base v R) (n : Nat) : OK (w.drewN n) base v R := tokown_move h fun _ _ => rfl
theorem OK.alloc {w : World} {base : Nat} {v : Value} {R : List Tk} (h : OK w base v R) (o : Obj) : OK (w.alloc o) base v R := tokown_move h fun k hk => Below.heap_alloc w o k (h.lt k hk).2
theorem OK.base {w : World} {base base' : Nat} {v : Value} {R : List Tk} (h : OK w base v R) (hb : base' ≤ base) : OK w base' v R := by
  refine ⟨h.1, ?_⟩
  rcases h.2 with h2 | ⟨g, cap, cur, rfl, h1, r⟩
  · exact .inl h2
  · exact .inr ⟨g, cap, cur, rfl, Nat.le_trans hb h1, r⟩

theorem OK.sk {w : World} {base : Nat} {v : Value} {R : List Tk} (h : OK w base v R) : SK w v R := by
  have hc := @World.ownsRow.cells _ _ _ _ _ _ _ h
  rcases h.2 with ⟨rfl, h0⟩ | ⟨g, cap, cur, rfl, _, _, h3, h4, _⟩
  · obtain rfl : R = [] := List.eq_nil_of_length_eq_zero h0
    exact ⟨none, 0, rfl, Nat.le_refl _, Nat.zero_le _, fun _ => rfl, fun x hx => by cases hx⟩
  · refine ⟨some ⟨g, 0, none⟩, cap, rfl, h3, h4, (fun e => by cases e), fun x hx i hi => ?_⟩
    cases hx
    obtain ⟨g1, g2, g3⟩ := fr3_get hi
    exact ⟨hc (g := g) rfl _ _ g1, hc (g := g) rfl _ _ g2, hc (g := g) rfl _ _ g3⟩

theorem OK.nil (w : World) (base : Nat) : OK w base (.slice none 0 0) [] := World.ownsRow_nil _ _ _ _

theorem infoTok : (Tryz.prog.info? 54).map (fun i => (i.zero, i.size, i.bytes)) = some (some (.agg #[.int .i64 0, .int .i64 0, .int .u8 0]), 3, 24) := by kernel_rfl

theorem grow_byte {w wr w3 : World} {u v3 : Value} {D : List Int} {o : Obj} {B : Nat} (hB : Below B w wr) (hw : B ≤ w.heap.size) (hO : OB wr B u D) (hg : Grew (wr.alloc o) w3 u v3) : Below B w w3 :=
  (hB.alloc (Nat.le_trans hw hB.size) _).grown hg.by (by have := hB.size; simp; omega) (fun j hj => by have := hO.lt j hj; omega)

end Go.Proofs.YtfoglaajnlbnbaaGreatDoor

