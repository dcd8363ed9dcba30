import Derived.Laws.BitsLemmas
import Derived.Test.YtmjdpfigkojolaaGreatDoorRows
import Derived.WalkKit
import Derived.ProofKit
import Derived.OpenShut
import Derived.ShutString
import Derived.ChangeOld
import Derived.Below
import Derived.WalkLawsBesides
import Derived.WalkSpells
import Derived.Deep.QuietTactic
import Derived.BigQuiet
import Derived.Laws.CopyOwn
import Derived.SizedLaws
import Derived.Maps.Own
import Derived.Laws.BytesArg
import Derived.Maps.AppendAt
import Derived.Deep.AppendSrc
import Derived.Deep.AppendLies
import Derived.Deep.RegionLaw
import Derived.Handy
import Derived.Laws.Rows
import Derived.Laws.Tables
namespace Go.Proofs.YtmjdpfigkojolaaGreatDoor

def bts (v : Int) : Nat → List Int
  | 0 => []
  | n + 1 => v % 2 :: bts (v / 2) n

def val : List Int → Int
  | [] => 0
  | b :: l => b + 2 * val l

def Bit (l : List Int) : Prop := ∀ b ∈ l, b = 0 ∨ b = 1

def Byt (d : List Int) : Prop := ∀ i, 0 ≤ d.getD i 0 ∧ d.getD i 0 < 256

def unpack (d : List Int) : List Int := d.flatMap fun b => bts b 8

theorem pow_pos (n : Nat) : (0 : Int) < 2 ^ n := Int.pow_pos (by decide)

theorem pow_add1 (n : Nat) : (2 : Int) ^ (n + 1) = 2 * 2 ^ n := by rw [Int.pow_succ, Int.mul_comm]

theorem pow_le {a b : Nat} (h : a ≤ b) : (2 : Int) ^ a ≤ 2 ^ b := by
  have := Nat.pow_le_pow_right (n := 2) (by decide) h
  exact_mod_cast this

theorem length_bts (v : Int) (n : Nat) : (bts v n).length = n := by
  induction n generalizing v with
  | zero => rfl
  | succ n ih => simp [bts, ih]

theorem bit_bts (v : Int) (n : Nat) : Bit (bts v n) := by
  induction n generalizing v with
  | zero => intro b hb; simp [bts] at hb
  | succ n ih =>
    intro b hb
    simp only [bts, List.mem_cons] at hb
    rcases hb with rfl | hb
    · omega
    · exact ih _ b hb

theorem bts_zero (n : Nat) : bts 0 n = List.replicate n 0 := by
  induction n with
  | zero => rfl
  | succ n ih => simp [bts, ih, List.replicate_succ]

theorem Bit.cons {b : Int} {l : List Int} (h : Bit (b :: l)) : (b = 0 ∨ b = 1) ∧ Bit l := ⟨h b (by simp), fun x hx => h x (by simp [hx])⟩

theorem Bit.append {a b : List Int} (h : Bit a) (k : Bit b) : Bit (a ++ b) := fun x hx => by
  rcases List.mem_append.1 hx with hx | hx
  · exact h x hx
  · exact k x hx

theorem Bit.take {a : List Int} (h : Bit a) (n : Nat) : Bit (a.take n) := fun x hx => h x (List.mem_of_mem_take hx)

theorem Bit.drop {a : List Int} (h : Bit a) (n : Nat) : Bit (a.drop n) := fun x hx => h x (List.mem_of_mem_drop hx)

theorem bit_nil : Bit [] := fun x hx => by simp at hx

theorem val_bound {l : List Int} (h : Bit l) : 0 ≤ val l ∧ val l < 2 ^ l.length := by
  induction l with
  | nil => simp [val]
  | cons b l ih =>
    obtain ⟨h0, h1⟩ := h.cons
    have := ih h1
    simp only [val, List.length_cons, pow_add1]
    omega

theorem val_bts (v : Int) (n : Nat) : val (bts v n) = v % 2 ^ n := by
  induction n generalizing v with
  | zero => simp [bts, val]
  | succ n ih =>
    simp only [bts, val, ih, pow_add1]
    have h1 : v % (2 * 2 ^ n) = v - (2 * 2 ^ n) * (v / (2 * 2 ^ n)) := by have := Int.mul_ediv_add_emod v (2 * 2 ^ n); omega
    have h2 : (v / 2) % 2 ^ n = v / 2 - 2 ^ n * (v / 2 / 2 ^ n) := by have := Int.mul_ediv_add_emod (v / 2) (2 ^ n); omega
    rw [Int.ediv_ediv_of_nonneg (by omega)] at h2
    rw [h1, h2, Int.mul_sub, ← Int.mul_assoc]
    have := Int.mul_ediv_add_emod v 2
    omega

theorem val_bts_in {v : Int} {n : Nat} (h0 : 0 ≤ v) (h1 : v < 2 ^ n) : val (bts v n) = v := by
  rw [val_bts, Int.emod_eq_of_lt h0 h1]

theorem bts_val {l : List Int} (h : Bit l) : bts (val l) l.length = l := by
  induction l with
  | nil => rfl
  | cons b l ih =>
    obtain ⟨h0, h1⟩ := h.cons
    simp only [List.length_cons, bts, val]
    rw [show (b + 2 * val l) % 2 = b by omega, show (b + 2 * val l) / 2 = val l by omega, ih h1]

theorem bts_split (v : Int) (a b : Nat) : bts v (a + b) = bts v a ++ bts (v / 2 ^ a) b := by
  induction a generalizing v with
  | zero => simp [bts]
  | succ a ih =>
    rw [show a + 1 + b = (a + b) + 1 by omega]
    simp only [bts, ih, List.cons_append]
    rw [Int.ediv_ediv_of_nonneg (by omega), pow_add1]

theorem bts_mod (v : Int) (n : Nat) : bts (v % 2 ^ n) n = bts v n := by
  have := bts_val (bit_bts v n)
  rw [val_bts, length_bts] at this
  exact this

theorem bts_join {r : Int} {h : Nat} (h0 : 0 ≤ r) (h1 : r < 2 ^ h) (x : Int) (n : Nat) : bts (r + x * 2 ^ h) (h + n) = bts r h ++ bts x n := by
  have hp := pow_pos h
  rw [bts_split]
  have e1 : (r + x * 2 ^ h) / 2 ^ h = x := by rw [Int.add_mul_ediv_right _ _ (by omega), Int.ediv_eq_zero_of_lt h0 h1]; omega
  have e2 : (r + x * 2 ^ h) % 2 ^ h = r := by rw [Int.add_mul_emod_self_right, Int.emod_eq_of_lt h0 h1]
  rw [e1, ← bts_mod (r + x * 2 ^ h) h, e2]

theorem bts_snoc (v : Int) (n : Nat) : bts v (n + 1) = bts v n ++ [v / 2 ^ n % 2] := by
  rw [bts_split]
  rfl

theorem bts_one {b : Int} (h : b = 0 ∨ b = 1) : bts b 1 = [b] := by
  simp only [bts]
  rcases h with rfl | rfl <;> rfl

theorem val_append (a b : List Int) : val (a ++ b) = val a + 2 ^ a.length * val b := by
  induction a with
  | nil => simp [val]
  | cons x a ih =>
    simp only [List.cons_append, val, ih, List.length_cons, pow_add1, Int.mul_add, Int.mul_assoc]
    omega

theorem val_drop {l : List Int} (h : Bit l) (s : Nat) : val (l.drop s) = val l / 2 ^ s := by
  induction s generalizing l with
  | zero => simp
  | succ s ih =>
    cases l with
    | nil => simp [val]
    | cons b l =>
      obtain ⟨h0, h1⟩ := h.cons
      rw [List.drop_succ_cons, ih h1, pow_add1, ← Int.ediv_ediv_of_nonneg (by omega)]
      simp only [val]
      rw [show (b + 2 * val l) / 2 = val l by omega]

theorem val_take {l : List Int} (h : Bit l) (n : Nat) : val (l.take n) = val l % 2 ^ n := by
  by_cases hn : n ≤ l.length
  · have e : l = l.take n ++ l.drop n := (List.take_append_drop n l).symm
    have hb := val_bound (h.take n)
    have el : (l.take n).length = n := by rw [List.length_take]; omega
    rw [el] at hb
    have e2 : val l = val (l.take n) + 2 ^ n * val (l.drop n) := by
      conv => lhs; rw [e]
      rw [val_append, el]
    rw [e2, Int.add_mul_emod_self_left, Int.emod_eq_of_lt hb.1 hb.2]
  · rw [List.take_of_length_le (by omega)]
    have hb := val_bound h
    have : (2 : Int) ^ l.length ≤ 2 ^ n := pow_le (by omega)
    rw [Int.emod_eq_of_lt hb.1 (by omega)]

theorem val_zeros (n : Nat) : val (List.replicate n 0) = 0 := by
  induction n with
  | zero => rfl
  | succ n ih => simp [List.replicate_succ, val, ih]

theorem unpack_nil : unpack [] = [] := rfl
theorem unpack_cons (b : Int) (d : List Int) : unpack (b :: d) = bts b 8 ++ unpack d := by simp [unpack]
theorem unpack_append (a b : List Int) : unpack (a ++ b) = unpack a ++ unpack b := by simp [unpack]
theorem unpack_one (b : Int) : unpack [b] = bts b 8 := by simp [unpack]

theorem length_unpack (d : List Int) : (unpack d).length = 8 * d.length := by
  induction d with
  | nil => rfl
  | cons b d ih => rw [unpack_cons, List.length_append, length_bts, ih, List.length_cons]; omega

theorem bit_unpack (d : List Int) : Bit (unpack d) := by
  induction d with
  | nil => exact bit_nil
  | cons b d ih => rw [unpack_cons]; exact (bit_bts _ _).append ih

theorem unpack_take (d : List Int) (k : Nat) : unpack (d.take k) = (unpack d).take (8 * k) := by
  by_cases hk : k ≤ d.length
  · conv => rhs; rw [← List.take_append_drop k d]
    rw [unpack_append, List.take_append_of_le_length (by rw [length_unpack, List.length_take]; omega)]
    exact (List.take_of_length_le (by rw [length_unpack, List.length_take]; omega)).symm
  · rw [List.take_of_length_le (by omega), List.take_of_length_le (by rw [length_unpack]; omega)]

theorem unpack_drop (d : List Int) (k : Nat) : unpack (d.drop k) = (unpack d).drop (8 * k) := by
  by_cases hk : k ≤ d.length
  · conv => rhs; rw [← List.take_append_drop k d]
    rw [unpack_append, List.drop_append_of_le_length (by rw [length_unpack, List.length_take]; omega)]
    rw [List.drop_of_length_le (l := unpack (d.take k)) (by rw [length_unpack, List.length_take]; omega)]
    rfl
  · rw [List.drop_of_length_le (by omega), List.drop_of_length_le (by rw [length_unpack]; omega)]
    rfl

theorem byt_cons {b : Int} {d : List Int} (h : Byt (b :: d)) : (0 ≤ b ∧ b < 256) ∧ Byt d :=
  ⟨by simpa using h 0, fun i => by have := h (i + 1); simpa using this⟩

theorem byt_cons_mk {b : Int} {d : List Int} (h0 : 0 ≤ b) (h1 : b < 256) (h : Byt d) : Byt (b :: d) := by
  intro i
  cases i with
  | zero => simpa using ⟨h0, h1⟩
  | succ i => simpa using h i

theorem byt_append {a b : List Int} (h : Byt a) (k : Byt b) : Byt (a ++ b) := by
  induction a with
  | nil => exact k
  | cons x a ih =>
    obtain ⟨h0, h1⟩ := byt_cons h
    exact byt_cons_mk h0.1 h0.2 (ih h1)

theorem byt_nil : Byt [] := fun i => by simp

theorem byt_one {b : Int} (h0 : 0 ≤ b) (h1 : b < 256) : Byt [b] := byt_cons_mk h0 h1 byt_nil

theorem byt_take {l : List Int} (h : Byt l) (k : Nat) : Byt (l.take k) := by
  intro i
  by_cases hi : i < k
  · have : (l.take k).getD i 0 = l.getD i 0 := by simp [List.getD, hi]
    rw [this]; exact h i
  · have : (l.take k).getD i 0 = 0 := by
      have e : (l.take k)[i]? = none := List.getElem?_eq_none (by rw [List.length_take]; omega)
      simp [List.getD, e]
    rw [this]; decide

theorem byt_drop {l : List Int} (h : Byt l) (k : Nat) : Byt (l.drop k) := by
  intro i
  have : (l.drop k).getD i 0 = l.getD (k + i) 0 := by simp [List.getD]
  rw [this]; exact h _

theorem Byt.get {d : List Int} (h : Byt d) {i : Nat} {x : Int} (hx : d[i]? = some x) : 0 ≤ x ∧ x < 256 := by
  have := h i
  rw [List.getD, hx] at this
  exact this

theorem unpack_inj {a b : List Int} (ha : Byt a) (hb : Byt b) (h : unpack a = unpack b) : a = b := by
  induction a generalizing b with
  | nil =>
    have := congrArg List.length h
    rw [length_unpack, length_unpack] at this
    exact (List.eq_nil_of_length_eq_zero (by simp at this; omega)).symm
  | cons x a ih =>
    cases b with
    | nil =>
      have := congrArg List.length h
      rw [length_unpack, length_unpack] at this
      simp at this
    | cons y b =>
      rw [unpack_cons, unpack_cons] at h
      obtain ⟨h1, h2⟩ := List.append_inj h (by rw [length_bts, length_bts])
      obtain ⟨x0, xa⟩ := byt_cons ha
      obtain ⟨y0, yb⟩ := byt_cons hb
      have e := congrArg val h1
      rw [val_bts_in x0.1 (by omega), val_bts_in y0.1 (by omega)] at e
      rw [e, ih xa yb h2]

structure Lies (row d : List Int) (r : Int) (h : Nat) : Prop where
  e : row = unpack d ++ bts r h
  b : Byt d
  r0 : 0 ≤ r
  r1 : r < 2 ^ h
  h8 : h < 8

theorem Lies.len {row d : List Int} {r : Int} {h : Nat} (k : Lies row d r h) : row.length = 8 * d.length + h := by
  rw [k.e, List.length_append, length_unpack, length_bts]

theorem lies_nil : Lies [] [] 0 0 := ⟨rfl, byt_nil, by omega, by simp, by omega⟩

def tail (r : Int) (h : Nat) : List Int := if h = 0 then [] else [r]

def pad (row : List Int) : List Int := row ++ List.replicate ((row.length + 7) / 8 * 8 - row.length) 0

theorem length_pad (row : List Int) : (pad row).length = (row.length + 7) / 8 * 8 := by
  simp only [pad, List.length_append, List.length_replicate]
  omega

theorem pow_lt256 {r : Int} {h : Nat} (h8 : h < 8) (hr : r < 2 ^ h) : r < 256 := by
  have : (2 : Int) ^ h ≤ 2 ^ 8 := pow_le (by omega)
  omega

theorem Lies.unpack {row d : List Int} {r : Int} {h : Nat} (k : Lies row d r h) : unpack (d ++ tail r h) = pad row ∧ Byt (d ++ tail r h) := by
  obtain ⟨rfl, hb, h0, h1, h8⟩ := k
  unfold tail pad
  by_cases e : h = 0
  · subst e
    simp only [bts, List.append_nil, if_true]
    rw [length_unpack, show (8 * d.length + 7) / 8 * 8 - 8 * d.length = 0 by omega]
    exact ⟨by simp, hb⟩
  · rw [if_neg e]
    refine ⟨?_, byt_append hb (byt_one h0 (pow_lt256 h8 h1))⟩
    rw [unpack_append, unpack_one, List.length_append, length_unpack, length_bts, show (8 * d.length + h + 7) / 8 * 8 - (8 * d.length + h) = 8 - h by omega, List.append_assoc]
    congr 1
    rw [show (8 : Nat) = h + (8 - h) by omega, bts_split, Int.ediv_eq_zero_of_lt h0 h1, bts_zero]
    simp

theorem Lies.same {row d d' : List Int} {r r' : Int} {h h' : Nat} (k : Lies row d r h) (k' : Lies row d' r' h') : d ++ tail r h = d' ++ tail r' h' :=
  unpack_inj k.unpack.2 k'.unpack.2 (k.unpack.1.trans k'.unpack.1.symm)

theorem Lies.put {row d : List Int} {r : Int} {h : Nat} (k : Lies row d r h) {b : Int} (hb : b = 0 ∨ b = 1) : Lies (row ++ [b]) (if h = 7 then d ++ [r + b * 2 ^ h] else d) (if h = 7 then 0 else r + b * 2 ^ h) (if h = 7 then 0 else h + 1) := by
  obtain ⟨rfl, hd, h0, h1, h8⟩ := k
  have hp := pow_pos h
  have hr : 0 ≤ r + b * 2 ^ h ∧ r + b * 2 ^ h < 2 ^ (h + 1) := by rw [pow_add1]; rcases hb with rfl | rfl <;> omega
  have hj := bts_join h0 h1 b 1
  rw [bts_one hb] at hj
  by_cases e : h = 7
  · subst e
    simp only [if_true]
    refine ⟨?_, byt_append hd (byt_one hr.1 (by have := hr.2; omega)), by omega, by decide, by omega⟩
    rw [List.append_assoc, ← hj, unpack_append, unpack_one]
    simp [bts]
  · simp only [if_neg e]
    exact ⟨by rw [List.append_assoc, ← hj], hd, hr.1, hr.2, by omega⟩

theorem lies_ex {row : List Int} (hb : Bit row) : ∃ d r h, Lies row d r h := by
  obtain ⟨n, hn⟩ : ∃ n, row.length = n := ⟨_, rfl⟩
  induction n generalizing row with
  | zero => obtain rfl := List.eq_nil_of_length_eq_zero hn; exact ⟨_, _, _, lies_nil⟩
  | succ n ih =>
    have e : row = row.take n ++ [row[n]] := by
      conv => lhs; rw [← List.take_of_length_le (l := row) (i := n + 1) (by omega)]
      rw [List.take_succ_eq_append_getElem (by omega)]
    obtain ⟨d, r, h, k⟩ := ih (hb.take n) (by rw [List.length_take]; omega)
    rw [e]
    exact ⟨_, _, _, k.put (hb _ (List.getElem_mem _))⟩

noncomputable def pack (row : List Int) : List Int := by
  classical
  exact if h : ∃ t, ∃ d r h, Lies row d r h ∧ t = d ++ tail r h then h.choose else []

theorem Lies.pack {row d : List Int} {r : Int} {h : Nat} (k : Lies row d r h) : pack row = d ++ tail r h := by
  have hex : ∃ t, ∃ d r h, Lies row d r h ∧ t = d ++ tail r h := ⟨_, d, r, h, k, rfl⟩
  unfold Proofs.YtmjdpfigkojolaaGreatDoor.pack
  rw [dif_pos hex]
  obtain ⟨d', r', h', k', e⟩ := hex.choose_spec
  rw [e]
  exact k'.same k

theorem unpack_pack {row : List Int} (hb : Bit row) : unpack (pack row) = pad row ∧ Byt (pack row) := by
  obtain ⟨d, r, h, k⟩ := lies_ex hb
  rw [k.pack]
  exact k.unpack

theorem length_pack {row : List Int} (hb : Bit row) : (pack row).length = (row.length + 7) / 8 := by
  have := congrArg List.length (unpack_pack hb).1
  rw [length_unpack, length_pad] at this
  omega

theorem lies_unpack {d : List Int} (h : Byt d) : Lies (unpack d) d 0 0 := ⟨by simp [bts], h, by omega, by decide, by omega⟩

theorem pack_unpack {d : List Int} (h : Byt d) : pack (unpack d) = d := by
  rw [(lies_unpack h).pack]
  simp [tail]

def le : List Int → Int
  | [] => 0
  | b :: r => b + 256 * le r

theorem le_append (a : List Int) (c : Int) : le (a ++ [c]) = le a + 256 ^ a.length * c := by
  induction a with
  | nil => simp [le]
  | cons b r ih => simp only [List.cons_append, le, ih, List.length_cons, Int.pow_succ, Int.mul_add]; rw [Int.add_assoc, Int.mul_comm (256 ^ r.length) 256, Int.mul_assoc]

theorem le_take {l : List Int} {k : Nat} (h : k < l.length) : le (l.take (k + 1)) = le (l.take k) + 256 ^ k * l.getD k 0 := by
  rw [List.take_succ_eq_append_getElem h, le_append, List.length_take, Nat.min_eq_left (by omega)]
  simp [List.getD, h]

theorem le_bound {l : List Int} (h : Byt l) : 0 ≤ le l ∧ le l < 256 ^ l.length := by
  induction l with
  | nil => simp [le]
  | cons b r ih =>
    obtain ⟨h0, h1⟩ := byt_cons h
    have hr := ih h1
    simp only [le, List.length_cons, Int.pow_succ]
    omega

theorem le_unpack {l : List Int} (h : Byt l) : val (unpack l) = le l := by
  induction l with
  | nil => rfl
  | cons b r ih =>
    obtain ⟨h0, h1⟩ := byt_cons h
    rw [unpack_cons, val_append, length_bts, ih h1, val_bts_in h0.1 (by omega)]
    rfl

def ahead (row : List Int) (p n : Nat) : Int := val ((row.drop p).take n)

theorem ahead_bound {row : List Int} (h : Bit row) (p n : Nat) : 0 ≤ ahead row p n ∧ ahead row p n < 2 ^ n := by
  have h1 := val_bound ((h.drop p).take n)
  have h2 : (2 : Int) ^ ((row.drop p).take n).length ≤ 2 ^ n := pow_le (by rw [List.length_take]; omega)
  unfold ahead
  omega

theorem ahead_bytes {d : List Int} (hd : Byt d) (p n : Nat) (t : Nat) (ht : t = min ((p + n + 7) / 8) d.length) (hp : p ≤ 8 * d.length) :
    le ((d.drop (p / 8)).take (t - p / 8)) / 2 ^ (p % 8) % 2 ^ n = ahead (unpack d) p n := by
  rw [← le_unpack (byt_take (byt_drop hd _) _), unpack_take, unpack_drop]
  have hb := bit_unpack d
  rw [← val_drop ((hb.drop _).take _), ← val_take (((hb.drop _).take _).drop _)]
  unfold ahead
  congr 1
  rw [List.drop_take, List.drop_drop, List.take_take, show 8 * (p / 8) + p % 8 = p by omega]
  by_cases h : n ≤ 8 * (t - p / 8) - p % 8
  · rw [Nat.min_eq_left h]
  · rw [Nat.min_eq_right (by omega)]
    have hl : ((unpack d).drop p).length = 8 * d.length - p := by rw [List.length_drop, length_unpack]
    rw [List.take_of_length_le (by rw [hl]; omega), List.take_of_length_le (by rw [hl]; omega)]
end Go.Proofs.YtmjdpfigkojolaaGreatDoor

namespace Go.Proofs.YtmjdpfigkojolaaGreatDoor
open Go.RowKit

def SB (w : World) (v : Value) (l : List Int) : Prop :=
  ∃ ao cap, v = .slice ao l.length cap ∧ l.length ≤ cap ∧ cap ≤ maxLen ∧ (ao = none → cap = 0) ∧ ∀ x, ao = some x → ∀ i, i < l.length → w.cell? (x.add i) = some (.int .u8 (l.getD i 0))

def OB (w : World) (base : Nat) (v : Value) (l : List Int) : Prop := w.ownsRow base 5 1 v l.length (l.map (Value.int .u8))

theorem hide {p : Prop} (h : p) : Hid p := h
theorem unhide {p : Prop} (h : Hid p) : p := h

theorem add_block (x : Addr) (i : Nat) : (x.add i).block = x.block := by unfold Addr.add; split <;> rfl

theorem SB.move {w w' : World} {v : Value} {l : List Int} (h : SB w v l) (hc : ∀ a u, w.cell? a = some u → v.ownBlock = some a.block → w'.cell? a = some u) : SB w' v l := by
  obtain ⟨ao, cap, rfl, h1, h2, h3, h4⟩ := h
  refine ⟨ao, cap, rfl, h1, h2, h3, fun x hx i hi => hc _ _ (h4 x hx i hi) ?_⟩
  subst hx; simp [Value.ownBlock, add_block]

theorem SB.below {w w' : World} {v : Value} {l : List Int} (h : SB w v l) (hb : Below w.heap.size w w') : SB w' v l :=
  h.move fun a _ ha _ => (hb.cell (World.block_lt_of_cell? w a ha)).trans ha

theorem OB.lt {w : World} {base : Nat} {v : Value} {l : List Int} (h : OB w base v l) : ∀ k, v.ownBlock = some k → base ≤ k ∧ k < w.heap.size := World.ownsRow.lt h

theorem OB.sb {w : World} {base : Nat} {v : Value} {l : List Int} (h : OB w base v l) : SB w v l := by
  have hc := @World.ownsRow.cells _ _ _ _ _ _ _ h
  rcases h.2 with ⟨rfl, h0⟩ | ⟨g, cap, cur, rfl, _, _, h3, h4, _, _⟩
  · obtain rfl : l = [] := List.eq_nil_of_length_eq_zero h0
    exact ⟨none, 0, rfl, Nat.le_refl _, Nat.zero_le _, fun _ => rfl, fun x hx => by cases hx⟩
  · refine ⟨some ⟨g, 0, none⟩, cap, rfl, h3, h4, (fun e => by cases e), fun x hx i hi => ?_⟩
    cases hx
    refine hc (g := g) rfl i _ ?_
    simp [hi]

theorem OB.shape {w : World} {base : Nat} {v : Value} {l : List Int} (h : OB w base v l) : ∃ a c, v = .slice a l.length c := by
  rcases h.2 with ⟨rfl, h0⟩ | ⟨g, cap, cur, rfl, _⟩
  · exact ⟨none, 0, by rw [h0]⟩
  · exact ⟨_, _, rfl⟩

theorem OB.move {w w' : World} {base : Nat} {v : Value} {l : List Int} (h : OB w base v l) (hb : ∀ k, v.ownBlock = some k → w'.heap[k]? = w.heap[k]?) : OB w' base v l := by
  refine ⟨h.1, ?_⟩
  rcases h.2 with h2 | ⟨g, cap, cur, rfl, h1, h2, r⟩
  · exact .inl h2
  · exact .inr ⟨g, cap, cur, rfl, h1, (hb g rfl).trans h2, r⟩

theorem OB.base {w : World} {base base' : Nat} {v : Value} {l : List Int} (h : OB w base v l) (hb : base' ≤ base) : OB w base' v l := by
  refine ⟨h.1, ?_⟩
  rcases h.2 with h2 | ⟨g, cap, cur, rfl, h1, r⟩
  · exact .inl h2
  · exact .inr ⟨g, cap, cur, rfl, Nat.le_trans hb h1, r⟩

theorem OB.below {w w' : World} {base B : Nat} {v : Value} {l : List Int} (h : OB w base v l) (hb : Below B w w') (hB : w.heap.size ≤ B) : OB w' base v l :=
  h.move fun k hk => hb.block k (Nat.lt_of_lt_of_le (h.lt k hk).2 hB)

theorem size_alloc' (w : World) (o : Obj) : (w.alloc o).heap.size = w.heap.size + 1 := by simp

theorem heap_two (w : World) (o p : Obj) : ((w.alloc o).alloc p).heap[w.heap.size + 1]? = some p ∧ ((w.alloc o).alloc p).heap[w.heap.size]? = some o := by
  have e := heap_alloc_new (w.alloc o) p
  rw [size_alloc'] at e
  exact ⟨e, (Below.heap_alloc (w.alloc o) p w.heap.size (by rw [size_alloc']; omega)).trans (heap_alloc_new w o)⟩

theorem info5 : (Tryz.prog.info? 5).map (fun i => (i.zero, i.size, i.bytes)) = some (some (.int .u8 0), 1, 1) := by kernel_rfl

theorem madeBytes (n : Nat) : (madeCells #[Value.int .u8 0] n).toList = List.replicate n (Value.int .u8 0) := by
  have e : ∀ k : Nat, [Value.int IntKind.u8 0][k % 1]?.getD default = Value.int .u8 0 := fun k => by simp [Nat.mod_one]
  simp only [madeCells]
  simp [e, List.map_const']

theorem addr_lit {w : World} {x : Addr} {u : Value} (h : w.cell? (x.add 0) = some u) : ∃ b o, x = ⟨b, o, none⟩ := by
  have hs := World.cell?_spot h
  obtain ⟨b, o, s⟩ := x
  refine ⟨b, o, ?_⟩
  unfold Addr.add at hs
  cases s with
  | none => rfl
  | some q => simp at hs

theorem size_setCell (w : World) (a : Addr) (u : Value) : (w.setCell a u).heap.size = w.heap.size := by simp [World.setCell]

theorem setCell_others (w : World) (g o : Nat) (u : Value) : ∀ k, k ≠ g → (w.setCell ⟨g, o, none⟩ u).heap[k]? = w.heap[k]? := fun k hk => Below.heap_setCell w _ u k hk

end Go.Proofs.YtmjdpfigkojolaaGreatDoor

namespace Go.Proofs.YtmjdpfigkojolaaGreatDoor
open Go.RowKit

theorem sizeByte : (Tryz.prog.info? 5).map (·.size) = some 1 := by kernel_rfl

theorem slicesClone_any (v : Value) (l : List Int) (w : World) (h : SB w v l) (hr : l.length ≤ 140737488351232) :
    Calls Tryz.prog 57 #[v] w fun e w' => ∃ a c, e = .returned (.slice a l.length c) ∧ OB w' w.heap.size (.slice a l.length c) l ∧ Below w.heap.size w w' := by
  obtain ⟨ao, cap, rfl, hlc, hcm, hnil, hcell⟩ := h
  obtain ⟨i0, hi, hz0, hz1, hz2⟩ := info_parts info5
  have he := fun (w : World) (a : Option Addr) (n c : Nat) => Lib.run_eql_slice_nil (P := Tryz.prog) w 22 5 a n c 0 0 Tryz.underlying22
  cases ao with
  | none =>
    obtain rfl : cap = 0 := hnil rfl
    obtain rfl : l = [] := List.eq_nil_of_length_eq_zero (by omega)
    go_enter Tryz.func57, Tryz.ntmps57
    go_wp2
    go_ret
    exact ⟨_, _, rfl, World.ownsRow_nil _ _ _ _, Below.refl _ _⟩
  | some x =>
    go_enter Tryz.func57, Tryz.ntmps57
    obtain ⟨cs, hcs⟩ : ∃ cs, cs = l.map (Value.int .u8) := ⟨_, rfl⟩
    have HS : Hid (cs = l.map (Value.int .u8)) := hcs
    clear hcs
    have O1 : Hid ((w.alloc (.cells #[] 5)).ownsRow w.heap.size 5 1 (.slice (some ⟨w.heap.size, 0, none⟩) 0 0) 0 []) := World.ownsRow_made w #[] 0 (Nat.le_refl _) (Nat.zero_le _) rfl
    have C1 : Hid (cs.length = l.length * 1) := by show _ = _; rw [HS.out]; simp
    have C2 : Hid (∀ j v, cs[j]? = some v → (w.alloc (.cells #[] 5)).cell? (x.add j) = some v) := by
      intro j u hj
      rw [HS.out] at hj
      obtain ⟨hjl, rfl⟩ := List.getElem?_eq_some_iff.1 hj
      have hjl' : j < l.length := by simpa using hjl
      have hc := hcell x rfl j hjl'
      rw [((Below.refl _ _).alloc (Nat.le_refl _) _).cell (by have := World.block_lt_of_cell? _ _ hc; exact this), hc]
      simp [hjl']
    have C4 : Hid (∀ v ∈ cs, v.oneCell' = true) := by rw [HS.out]; intro u hu; obtain ⟨n, _, rfl⟩ := List.mem_map.1 hu; rfl
    clear hcell hnil
    go_wp2_with (at_builtin; refine wpList_append_own _ rfl _ _ 22 rfl w.heap.size 5 i0 (.int .u8 0) 1 1 Tryz.underlying22 hi hz0 hz1 hz2 rfl (by decide) _ 0 [] rfl O1.out x l.length cap cs rfl C1.out C2.out C4.out (by unfold maxLen; omega) (by omega) (by simp) ?_)
    intro v' w1 hown hgrow _
    have HF : Hid (OB w1 w.heap.size v' l) := by
      have h := hown
      rw [HS.out] at h
      exact show OB _ _ _ _ by simpa [OB] using h
    have hb : Below w.heap.size w w1 := ((Below.refl _ _).alloc (Nat.le_refl _) _).grown hgrow (by simp) (fun k hk => by simp [Value.ownBlock] at hk; omega)
    clear hown hgrow
    go_wp2
    go_ret
    obtain ⟨a, c, hv⟩ := HF.out.shape
    rw [hv] at HF ⊢
    exact ⟨a, c, rfl, HF.out, hb⟩

end Go.Proofs.YtmjdpfigkojolaaGreatDoor

namespace Go.Proofs.YtmjdpfigkojolaaGreatDoor
open Go.RowKit Go.Maps

def Grew (w w' : World) (v v' : Value) : Prop := (v' = v ∧ w' = w) ∨ (v'.ownBlock = some w.heap.size ∧ Below w.heap.size w w') ∨ (v'.ownBlock = v.ownBlock ∧ w'.heap.size = w.heap.size ∧ w.grownBy w' v.ownBlock)

theorem run_app_none (w : World) (tx ty : TypeId) (i : TypeInfo) (hi : Tryz.prog.info? 5 = some i) (x : Value) (hs : Src Tryz.prog i.size tx x 0 [] w) :
    (Builtin.append_ #[22, tx] ty #[.slice none 0 0, x]).run Tryz.prog w = .ok (.slice none 0 0) w := by
  rcases hs.kind with ⟨e', hk⟩ | hk <;> simp [Builtin.append_, run_underlying Tryz.underlying22, run_underlying hk, sizeOf, typeInfo, hi, hs.len, hs.cells]

theorem run_app (w : World) (base : Nat) (tx ty : TypeId) (v x : Value) (l news : List Int) (hown : OB w base v l) (hs : Src Tryz.prog 1 tx x news.length (news.map (Value.int .u8)) w)
    (hb : l.length + news.length ≤ 140737488355328) (hbase : base ≤ w.heap.size) :
    ∃ v' w', (Builtin.append_ #[22, tx] ty #[v, x]).run Tryz.prog w = .ok v' w' ∧ OB w' base v' (l ++ news) ∧ Grew w w' v v' := by
  obtain ⟨i, hi, hz, hsz, hby⟩ := info_parts info5
  have hs' : Src Tryz.prog i.size tx x news.length (news.map (Value.int .u8)) w := by rw [hsz]; exact hs
  have hmx : l.length + news.length ≤ maxLen := by unfold maxLen; omega
  have grown : ∀ old, old < l.length + news.length → (OB (w.drew.alloc (.cells ((l.map (Value.int .u8) ++ news.map (Value.int .u8)).toArray ++ Builtin.zeroCells (Value.int .u8 0).cells (grownCap w (l.length + news.length) old 5 - (l.length + news.length))) 5)) base
      (.slice (some ⟨w.heap.size, 0, none⟩) (l.length + news.length) (grownCap w (l.length + news.length) old 5)) (l ++ news)) := by
    intro old ho
    have hge := grownCap_ge w (l.length + news.length) old 5
    have hcm : grownCap w (l.length + news.length) old 5 ≤ maxLen := grownCap_le_maxLen w (l.length + news.length) old 5 hmx
    refine ⟨by simp, .inr ⟨w.heap.size, grownCap w (l.length + news.length) old 5, _, by rw [List.length_append], hbase, heap_alloc_new w.drew _, by rw [List.length_append]; exact hge, hcm, ?_, ?_⟩⟩
    · simp only [Array.size_append, List.size_toArray, List.length_append, List.length_map, size_zeroCells, Value.cells]
      simp
      omega
    · simp only [Array.toList_append, List.map_append]
      rw [List.take_append_of_le_length (by simp)]
      exact List.take_of_length_le (by simp)
  rcases hown.2 with ⟨rfl, h0⟩ | ⟨g, cap, cur, rfl, hbg, hg, hnc, hcm, hcs, htake⟩
  · obtain rfl : l = [] := List.eq_nil_of_length_eq_zero h0
    by_cases hm : news = []
    · subst hm
      exact ⟨_, _, run_app_none w tx ty i hi x hs', hown, .inl ⟨rfl, rfl⟩⟩
    · have hpos : 0 < news.length := List.length_pos_iff.2 hm
      have hr := run_append_grow_src (P := Tryz.prog) w 22 tx ty 5 i (.int .u8 0) Tryz.underlying22 hi hz none 0 0 [] (run_firstCells_none w.drew i.size 0 0 0) x news.length _ hs' (by omega) (by omega) (by rw [hby]; exact growslice_fits (by omega) (by simp at hb ⊢; omega))
      have hgr := grown 0 (by simp; omega)
      simp only [List.length_nil, Nat.zero_add, List.map_nil, List.nil_append] at hgr hr ⊢
      exact ⟨_, _, hr, hgr, .inr (.inl ⟨rfl, (Below.refl _ _).drew.alloc (Nat.le_refl _) _⟩)⟩
  · by_cases hroom : l.length + news.length ≤ cap
    · have hfit : l.length * i.size + (news.map (Value.int .u8)).length ≤ cur.size := by rw [hsz, hcs]; simp; omega
      have hst := run_storeCells_at Tryz.prog g (l.length * i.size) 5 (news.map (Value.int .u8)) 0 cur w hg (by simpa using hfit) hs.one
      simp only [Nat.add_zero] at hst
      have hr : (Builtin.append_ #[22, tx] ty #[.slice (some ⟨g, 0, none⟩) l.length cap, x]).run Tryz.prog w =
          .ok (.slice (some ⟨g, 0, none⟩) (l.length + news.length) cap) (w.setRow g (cur.toList.take (l.length * i.size) ++ news.map (Value.int .u8) ++ cur.toList.drop (l.length * i.size + (news.map (Value.int .u8)).length)).toArray) := by
        rcases hs'.kind with ⟨e', hk⟩ | hk <;> simp [Builtin.append_, run_underlying Tryz.underlying22, run_underlying hk, sizeOf, typeInfo, hi, hs'.len, hroom, hs'.cells, Addr.add_lit, hst]
      refine ⟨_, _, hr, ⟨by simp, .inr ⟨g, cap, _, by rw [List.length_append], hbg, setRow_heap w g cur _ 5 _ hg, by rw [List.length_append]; exact hroom, hcm, ?_, ?_⟩⟩, .inr (.inr ⟨rfl, by simp [World.setRow], ⟨rfl, rfl, rfl, by simp, fun k _ hk => setRow_other w g k _ (fun e => hk (by simp [Value.ownBlock, e]))⟩⟩)⟩
      · rw [hsz]
        simp only [List.size_toArray, List.length_append, List.length_take, List.length_drop, Array.length_toList, List.length_map]
        omega
      · rw [hsz, htake]
        simp only [List.map_append]
        rw [List.take_append_of_le_length (by simp)]
        exact List.take_of_length_le (by simp)
    · have holds : ∀ j u, (l.map (Value.int .u8))[j]? = some u → w.drew.cell? ((⟨g, 0, none⟩ : Addr).add j) = some u := World.ownsRow.cells hown (g := g) rfl
      have hr := run_append_grow_src (P := Tryz.prog) w 22 tx ty 5 i (.int .u8 0) Tryz.underlying22 hi hz (some ⟨g, 0, none⟩) l.length cap (l.map (Value.int .u8)) (run_firstCells_some w.drew i.size l.length ⟨g, 0, none⟩ l.length cap _ (by rw [hsz]; simp) holds) x news.length _ hs' (by omega) (by omega) (by rw [hby]; exact growslice_fits (by omega) (by omega))
      exact ⟨_, _, hr, grown cap (by omega), .inr (.inl ⟨rfl, (Below.refl _ _).drew.alloc (Nat.le_refl _) _⟩)⟩

theorem wpList_app {w : World} {ops : Array Oper} {rest : List Oper} {o : Oper} {a : Act} {Q : Exit → Act → World → Prop} (hgd : o.guard = none) (s x : Operand) (tx : TypeId)
    (ho : o.op = .call { callee := .builtin .append, args := #[s, x], argTypes := #[22, tx] }) (base : Nat) (v xv : Value) (l news : List Int) (hv : a.eval s = v) (hown : OB w base v l) (hx : a.eval x = xv) (hs : Src Tryz.prog 1 tx xv news.length (news.map (Value.int .u8)) w)
    (hb : l.length + news.length ≤ 140737488355328) (hbase : base ≤ w.heap.size)
    (h : ∀ v' w', OB w' base v' (l ++ news) → Grew w w' v v' → wpList Tryz.prog ops Q rest (a.put o.dst v') w') : wpList Tryz.prog ops Q (o :: rest) a w := by
  refine wpList_plain hgd fun K hK => ?_
  obtain ⟨v', w', hr, h2, h3⟩ := run_app w base tx o.type v xv l news hown hs hb hbase
  unfold Oper.wp
  simp [execOp, ho, resolve, invoke, builtin, hv, hx, hr, Result.andThen]
  exact hK _ _ (h v' w' h2 h3)

theorem SB.src {w : World} {v : Value} {l : List Int} (h : SB w v l) : Src Tryz.prog 1 22 v l.length (l.map (Value.int .u8)) w := by
  obtain ⟨ao, cap, rfl, h1, h2, h3, h4⟩ := h
  cases ao with
  | none =>
    have hc := h3 rfl
    obtain rfl : l = [] := List.eq_nil_of_length_eq_zero (by omega)
    exact Src.ofNil w Tryz.underlying22 cap
  | some a =>
    refine Src.ofSlice w Tryz.underlying22 a l.length cap _ (by simp) (fun j u hj => ?_) (fun u hu => by obtain ⟨n, _, rfl⟩ := List.mem_map.1 hu; rfl)
    obtain ⟨hjl, rfl⟩ := List.getElem?_eq_some_iff.1 hj
    have hjl' : j < l.length := by simpa using hjl
    rw [h4 a rfl j hjl']
    simp [hjl']

theorem heap_setCell_at {w : World} {g k : Nat} {cur : Array Value} {t : TypeId} (u : Value) (h : w.heap[g]? = some (.cells cur t (0, 0))) : (w.setCell ⟨g, k, none⟩ u).heap[g]? = some (.cells (cur.setIfInBounds k u) t (0, 0)) := by
  simp [World.setCell, Array.getElem?_modify, h]

theorem grownBy_new {w w' : World} {r : Option Nat} {g o : Nat} {u : Value} (h : w.grownBy w' r) (hg : w.heap.size ≤ g) : w.grownBy (w'.setCell ⟨g, o, none⟩ u) r :=
  ⟨h.os, h.tape, h.output, by rw [size_setCell]; exact h.size, fun k hk hr => (setCell_others w' g o u k (by omega)).trans (h.block k hk hr)⟩

theorem Grew.by {w w' : World} {v v' : Value} (h : Grew w w' v v') : w.grownBy w' v.ownBlock := by
  rcases h with ⟨_, rfl⟩ | ⟨_, hb⟩ | ⟨_, _, hg⟩
  · exact World.grownBy.refl _ _
  · exact ⟨hb.os, hb.tape, hb.output, hb.size, fun k hk _ => hb.block k hk⟩
  · exact hg

theorem Grew.at {w w' : World} {v v' : Value} (h : Grew w w' v v') : v'.ownBlock = some w.heap.size ∨ v'.ownBlock = v.ownBlock := by
  rcases h with ⟨rfl, _⟩ | ⟨h, _⟩ | ⟨h, _⟩
  · exact .inr rfl
  · exact .inl h
  · exact .inr h

theorem built_src (w : World) (cs : List Int) : Src Tryz.prog 1 22 (.slice (some ⟨w.heap.size, 0, none⟩) cs.length cs.length) cs.length (cs.map (Value.int .u8)) (w.alloc (.cells (cs.map (Value.int .u8)).toArray 5)) := by
  refine Src.ofSlice _ Tryz.underlying22 _ _ _ _ (by simp) (fun j u hj => ?_) (fun u hu => by obtain ⟨n, _, rfl⟩ := List.mem_map.1 hu; rfl)
  have e := heap_alloc_new w (.cells (cs.map (Value.int .u8)).toArray 5)
  rw [Addr.add_lit]
  unfold World.cell?
  simp only [e, Nat.zero_add]
  simpa using hj

theorem OB.alloc {w : World} {base : Nat} {v : Value} {l : List Int} (h : OB w base v l) (o : Obj) : OB (w.alloc o) base v l := h.move fun k hk => Below.heap_alloc w o k (h.lt k hk).2

theorem wpList_mk {w : World} {ops : Array Oper} {rest : List Oper} {o : Oper} {a : Act} {Q : Exit → Act → World → Prop} (hg : o.guard = none) (l c : Operand) (hop : o.op = Op.makeSlice 22 l c)
    (kl kc : IntKind) (L C : Int) (n m : Nat) (hl : a.eval l = .int kl L) (hc : a.eval c = .int kc C) (hL : L = (n : Int)) (hC : C = (m : Int)) (hnm : n ≤ m) (b2 : m ≤ 140737488355328)
    (hK : ∀ w', w'.heap[w.heap.size]? = some (.cells (List.replicate m (Value.int .u8 0)).toArray 5 (0, 0)) → Below w.heap.size w w' → wpList Tryz.prog ops Q rest (a.put o.dst (.slice (some ⟨w.heap.size, 0, none⟩) n m)) w') :
    wpList Tryz.prog ops Q (o :: rest) a w := by
  obtain ⟨i0, hi, hz0, hz1, hz2⟩ := info_parts info5
  refine wpList_plain hg fun K hK' => ?_
  have hr := run_make (P := Tryz.prog) w 22 5 i0 (.int .u8 0) Tryz.underlying22 hi hz0 kl kc (n : Int) (m : Int) (by omega) (by omega) (by rw [hz2]; omega) (by omega)
  subst hL hC
  unfold Oper.wp
  simp [execOp, hop, hl, hc, hr, Result.andThen]
  refine hK' _ _ (hK _ ?_ ((Below.refl _ _).alloc (Nat.le_refl _) _))
  rw [heap_alloc_new, hz1, Nat.mul_one]
  have e : (madeCells (Value.int .u8 0).cells m) = (List.replicate m (Value.int .u8 0)).toArray := by
    apply Array.ext'
    exact madeBytes m
  rw [e]

theorem splice_front {α : Type} (cs : List α) (n m : Nat) (z : α) (h : cs.length = n) : splice (List.replicate (n + m) z) 0 cs = cs ++ List.replicate m z := by
  simp [splice, h]

structure Fr (K K' : Nat → Nat) (w w' : World) : Prop where
  os : w'.os = w.os
  tape : w'.tape = w.tape
  output : w'.output = w.output
  size : w.heap.size ≤ w'.heap.size
  block : ∀ k, k < w.heap.size → K k = 0 → w'.heap[k]? = w.heap[k]?
  role : ∀ k, k < w.heap.size → K' k = K k

theorem Fr.refl (K : Nat → Nat) (w : World) : Fr K K w w := ⟨rfl, rfl, rfl, Nat.le_refl _, fun _ _ _ => rfl, fun _ _ => rfl⟩

theorem Fr.trans {K K' K'' : Nat → Nat} {a b c : World} (h : Fr K K' a b) (k : Fr K' K'' b c) : Fr K K'' a c :=
  ⟨k.os.trans h.os, k.tape.trans h.tape, k.output.trans h.output, Nat.le_trans h.size k.size,
   fun i hi h0 => (k.block i (Nat.lt_of_lt_of_le hi h.size) (by rw [h.role i hi]; exact h0)).trans (h.block i hi h0),
   fun i hi => (k.role i (Nat.lt_of_lt_of_le hi h.size)).trans (h.role i hi)⟩

theorem Fr.below {K K' : Nat → Nat} {w w' : World} {B : Nat} (h : Fr K K' w w') (hu : ∀ k, K k ≠ 0 → B ≤ k) (hB : B ≤ w.heap.size) : Below B w w' :=
  ⟨h.os, h.tape, h.output, h.size, fun k hk => h.block k (by omega) (by
    by_cases hz : K k = 0
    · exact hz
    · have := hu k hz; omega)⟩

theorem Fr.up {K K' : Nat → Nat} {w w' : World} {B : Nat} (h : Fr K K' w w') (hu : ∀ k, K k ≠ 0 → B ≤ k) (hB : B ≤ w.heap.size) : ∀ k, K' k ≠ 0 → B ≤ k := by
  intro k hk
  by_cases hl : k < w.heap.size
  · exact hu k (by rw [← h.role k hl]; exact hk)
  · omega

theorem Fr.drewN {K K' : Nat → Nat} {w w' : World} (h : Fr K K' w w') (n : Nat) : Fr K K' w (w'.drewN n) := ⟨h.os, h.tape, h.output, h.size, h.block, h.role⟩

end Go.Proofs.YtmjdpfigkojolaaGreatDoor

namespace Go.Proofs.YtmjdpfigkojolaaGreatDoor

def Lens (l : List Int) : Prop := l.length ≤ 288 ∧ ∀ x ∈ l, 0 ≤ x ∧ x ≤ 15

def ln (l : List Int) (s : Nat) : Nat := (l.getD s 0).toNat
def cn (l : List Int) (n : Nat) : Nat := if n = 0 then 0 else l.count (n : Int)
def fi (l : List Int) : Nat → Nat
  | 0 => 0
  | n + 1 => 2 * (fi l n + cn l n)
def us (l : List Int) : Nat → Nat
  | 0 => 0
  | n + 1 => us l n + cn l n * 2 ^ (15 - n)
def sh (l : List Int) : Nat → Nat
  | 0 => 0
  | n + 1 => sh l n + cn l n
def rk (l : List Int) (s : Nat) : Nat := (l.take s).count (l.getD s 0)
def wd (l : List Int) (s : Nat) : Nat := if ln l s = 0 then 0 else fi l (ln l s) + rk l s
def Has (l : List Int) (s : Nat) : Prop := s < l.length ∧ 0 < ln l s

theorem npow_pos (n : Nat) : 0 < 2 ^ n := Nat.pow_pos (by decide)

theorem getD_mem {l : List Int} {s : Nat} (h : s < l.length) : l.getD s 0 ∈ l := by
  have : l.getD s 0 = l[s] := by simp [h]
  rw [this]; exact List.getElem_mem _

theorem Lens.at {l : List Int} (h : Lens l) (s : Nat) : 0 ≤ l.getD s 0 ∧ l.getD s 0 ≤ 15 := by
  by_cases hs : s < l.length
  · exact h.2 _ (getD_mem hs)
  · have : l.getD s 0 = 0 := by simp [List.getD, List.getElem?_eq_none (Nat.le_of_not_lt hs)]
    rw [this]; decide

theorem Lens.ln {l : List Int} (h : Lens l) (s : Nat) : l.getD s 0 = (Proofs.YtmjdpfigkojolaaGreatDoor.ln l s : Int) ∧ Proofs.YtmjdpfigkojolaaGreatDoor.ln l s ≤ 15 := by
  have := h.at s
  unfold Proofs.YtmjdpfigkojolaaGreatDoor.ln
  omega

theorem fi_us (l : List Int) : ∀ n, n ≤ 15 → fi l n * 2 ^ (15 - n) = us l n
  | 0, _ => by simp [fi, us]
  | n + 1, h => by
    have ih := fi_us l n (by omega)
    simp only [fi, us]
    rw [← ih, show 15 - n = (15 - (n + 1)) + 1 by omega, Nat.pow_succ, ← Nat.add_mul]
    rw [Nat.mul_comm 2 (fi l n + cn l n), Nat.mul_assoc, Nat.mul_comm 2]

theorem fi_end (l : List Int) {n : Nat} (h : n ≤ 15) : (fi l n + cn l n) * 2 ^ (15 - n) = us l (n + 1) := by
  rw [Nat.add_mul, fi_us l n h]; rfl

theorem us_step (l : List Int) (n : Nat) : us l n ≤ us l (n + 1) := by simp only [us]; omega

theorem us_mono (l : List Int) {n m : Nat} (h : n ≤ m) : us l n ≤ us l m := by
  induction m with
  | zero => have : n = 0 := by omega
            subst this; exact Nat.le_refl _
  | succ m ih =>
    by_cases e : n = m + 1
    · subst e; exact Nat.le_refl _
    · exact Nat.le_trans (ih (by omega)) (us_step l m)

theorem sh_succ (l : List Int) (n : Nat) : sh l (n + 1) = sh l n + cn l n := rfl

theorem sh_mono (l : List Int) {n m : Nat} (h : n ≤ m) : sh l n ≤ sh l m := by
  induction m with
  | zero => have : n = 0 := by omega
            subst this; exact Nat.le_refl _
  | succ m ih =>
    by_cases e : n = m + 1
    · subst e; exact Nat.le_refl _
    · have := ih (by omega)
      simp only [sh]; omega

theorem count_take_succ (l : List Int) (x : Int) {s : Nat} (h : s < l.length) : (l.take (s + 1)).count x = (l.take s).count x + if l.getD s 0 = x then 1 else 0 := by
  have e : l.getD s 0 = l[s] := by simp [h]
  rw [List.take_succ_eq_append_getElem h, List.count_append, e]
  by_cases hx : l[s] = x
  · simp [hx]
  · simp [hx]

theorem count_take_le (l : List Int) (x : Int) (s : Nat) : (l.take s).count x ≤ l.count x := by
  conv => rhs; rw [← List.take_append_drop s l]
  rw [List.count_append]; omega

theorem count_take_mono (l : List Int) (x : Int) {s t : Nat} (h : s ≤ t) : (l.take s).count x ≤ (l.take t).count x := by
  have := count_take_le (l.take t) x s
  rwa [List.take_take, Nat.min_eq_left h] at this

theorem count_ex (x : Int) : ∀ (l : List Int) (k : Nat), k < l.count x → ∃ s, s < l.length ∧ l.getD s 0 = x ∧ (l.take s).count x = k
  | [], k, h => by simp at h
  | a :: l, k, h => by
    by_cases e : a = x
    · subst e
      cases k with
      | zero => exact ⟨0, by simp, by simp, by simp⟩
      | succ k =>
        obtain ⟨s, h1, h2, h3⟩ := count_ex a l k (by simp at h; omega)
        exact ⟨s + 1, by simp; omega, by simpa using h2, by simp [h3]⟩
    · obtain ⟨s, h1, h2, h3⟩ := count_ex x l k (by rw [List.count_cons] at h; simpa [e] using h)
      exact ⟨s + 1, by simp; omega, by simpa using h2, by rw [List.take_succ_cons, List.count_cons]; simp [h3, e]⟩

theorem Has.cn {l : List Int} (hl : Lens l) {s : Nat} (h : Has l s) : Proofs.YtmjdpfigkojolaaGreatDoor.cn l (ln l s) = l.count (l.getD s 0) := by
  unfold Proofs.YtmjdpfigkojolaaGreatDoor.cn
  rw [if_neg (by have := h.2; omega), (hl.ln s).1]

theorem Has.rk_lt {l : List Int} (hl : Lens l) {s : Nat} (h : Has l s) : rk l s < Proofs.YtmjdpfigkojolaaGreatDoor.cn l (ln l s) := by
  rw [h.cn hl]
  have h1 := count_take_succ l (l.getD s 0) h.1
  have h2 := count_take_le l (l.getD s 0) (s + 1)
  unfold rk
  simp at h1
  simp at h2 ⊢
  omega

theorem rk_mono {l : List Int} {s t : Nat} (hs : s < l.length) (hst : s < t) (he : l.getD s 0 = l.getD t 0) : rk l s < rk l t := by
  unfold rk
  have h1 := count_take_succ l (l.getD s 0) hs
  have h2 := count_take_mono l (l.getD s 0) (show s + 1 ≤ t by omega)
  rw [← he]
  simp at h1
  simp at h2 ⊢
  omega

theorem rk_ex {l : List Int} {n k : Nat} (hn : 0 < n) (h : k < cn l n) : ∃ s, Has l s ∧ ln l s = n ∧ rk l s = k := by
  unfold cn at h
  rw [if_neg (by omega)] at h
  obtain ⟨s, h1, h2, h3⟩ := count_ex (n : Int) l k h
  have e : ln l s = n := by unfold ln; rw [h2]; rfl
  exact ⟨s, ⟨h1, by omega⟩, e, by unfold rk; rw [h2]; exact h3⟩

theorem Has.wd {l : List Int} {s : Nat} (h : Has l s) : Proofs.YtmjdpfigkojolaaGreatDoor.wd l s = fi l (ln l s) + rk l s := if_neg (by have := h.2; omega)

def pl (l : List Int) (s : Nat) : Nat := wd l s * 2 ^ (15 - ln l s)

theorem Has.start {l : List Int} (hl : Lens l) {s : Nat} (h : Has l s) : us l (ln l s) ≤ pl l s := by
  unfold pl
  rw [h.wd, ← fi_us l _ (hl.ln s).2]
  exact Nat.mul_le_mul_right _ (by omega)

theorem Has.stop {l : List Int} (hl : Lens l) {s : Nat} (h : Has l s) : pl l s + 2 ^ (15 - ln l s) ≤ us l (ln l s + 1) := by
  unfold pl
  rw [h.wd, ← fi_end l (hl.ln s).2, ← Nat.succ_mul]
  exact Nat.mul_le_mul_right _ (by have := h.rk_lt hl; omega)

def Ahd (l : List Int) (s t : Nat) : Prop := ln l s < ln l t ∨ (ln l s = ln l t ∧ s < t)

theorem ahd_or {l : List Int} {s t : Nat} (h : s ≠ t) : Ahd l s t ∨ Ahd l t s := by unfold Ahd; omega

theorem rows_apart {l : List Int} (hl : Lens l) {s t : Nat} (hs : Has l s) (ht : Has l t) (h : Ahd l s t) : pl l s + 2 ^ (15 - ln l s) ≤ pl l t := by
  rcases h with h | ⟨h, hst⟩
  · have h1 := hs.stop hl
    have h2 := ht.start hl
    have h3 := us_mono l (show ln l s + 1 ≤ ln l t by omega)
    omega
  · have he : l.getD s 0 = l.getD t 0 := by rw [(hl.ln s).1, (hl.ln t).1, h]
    have hr := rk_mono hs.1 hst he
    unfold pl
    rw [hs.wd, ht.wd, h, ← Nat.succ_mul]
    exact Nat.mul_le_mul_right _ (by omega)

def Hit (l : List Int) (R s : Nat) : Prop := Has l s ∧ pl l s ≤ R ∧ R < pl l s + 2 ^ (15 - ln l s)

theorem Hit.one {l : List Int} (hl : Lens l) {R s t : Nat} (h : Hit l R s) (k : Hit l R t) : s = t := by
  obtain ⟨h1, h2, h3⟩ := h
  obtain ⟨k1, k2, k3⟩ := k
  by_cases e : s = t
  · exact e
  · rcases ahd_or (l := l) e with a | a
    · have := rows_apart hl h1 k1 a; omega
    · have := rows_apart hl k1 h1 a; omega

theorem div_between {R w p : Nat} (hp : 0 < p) : R / p = w ↔ w * p ≤ R ∧ R < w * p + p := by
  constructor
  · intro h
    subst h
    have := Nat.div_add_mod R p
    have h2 := Nat.mod_lt R hp
    rw [Nat.mul_comm] at this
    omega
  · rintro ⟨h1, h2⟩
    apply Nat.le_antisymm
    · apply Nat.le_of_lt_succ
      rw [Nat.div_lt_iff_lt_mul hp, Nat.succ_mul]
      omega
    · rw [Nat.le_div_iff_mul_le hp]; omega

theorem hit_iff {l : List Int} {R s : Nat} : Hit l R s ↔ Has l s ∧ R / 2 ^ (15 - ln l s) = wd l s := by
  unfold Hit
  rw [div_between (npow_pos _)]
  rfl

theorem below_end {l : List Int} {R n : Nat} (hn : n ≤ 15) : R / 2 ^ (15 - n) < fi l n + cn l n ↔ R < us l (n + 1) := by
  rw [Nat.div_lt_iff_lt_mul (npow_pos _), fi_end l hn]

theorem hit_at {l : List Int} {R n : Nat} (hn : n ≤ 15) (h0 : us l n ≤ R) (h1 : R < us l (n + 1)) :
    ∃ s, Hit l R s ∧ ln l s = n ∧ R / 2 ^ (15 - n) = fi l n + rk l s := by
  have hz : 0 < n := by
    rcases Nat.eq_zero_or_pos n with e | e
    · subst e; simp [us, cn] at h1
    · exact e
  have h2 := (below_end (l := l) hn).2 h1
  have h3 : fi l n ≤ R / 2 ^ (15 - n) := by
    rw [Nat.le_div_iff_mul_le (npow_pos _), fi_us l n hn]; exact h0
  obtain ⟨s, a1, a2, a3⟩ := rk_ex (l := l) hz (k := R / 2 ^ (15 - n) - fi l n) (by omega)
  have e : R / 2 ^ (15 - n) = fi l n + rk l s := by omega
  exact ⟨s, hit_iff.2 ⟨a1, by rw [a1.wd, a2]; exact e⟩, a2, e⟩

theorem hit_ex {l : List Int} {R : Nat} (h : R < us l 16) : ∃ s, Hit l R s := by
  have : ∀ n, n ≤ 16 → R < us l n → ∃ s, Hit l R s := by
    intro n
    induction n with
    | zero => intro _ h; simp [us] at h
    | succ n ih =>
      intro hn h
      by_cases hlt : R < us l n
      · exact ih (by omega) hlt
      · obtain ⟨s, a, _⟩ := hit_at (show n ≤ 15 by omega) (by omega) h
        exact ⟨s, a⟩
  exact this 16 (by omega) h

theorem Hit.below {l : List Int} (hl : Lens l) {R s : Nat} (h : Hit l R s) : us l (ln l s) ≤ R ∧ R < us l (ln l s + 1) := by
  have h1 := h.1.start hl
  have h2 := h.1.stop hl
  have := h.2
  omega

theorem Hit.top {l : List Int} (hl : Lens l) {R s : Nat} (h : Hit l R s) : R < us l 16 := by
  have h1 := (h.below hl).2
  have h2 := us_mono l (show ln l s + 1 ≤ 16 by have := (hl.ln s).2; omega)
  omega

def ix (l : List Int) (s : Nat) : Nat := sh l (ln l s) + rk l s

theorem ix_lt {l : List Int} (hl : Lens l) {s : Nat} (h : Has l s) : ix l s < sh l 16 := by
  have h1 := h.rk_lt hl
  have h2 := sh_mono l (show ln l s + 1 ≤ 16 by have := (hl.ln s).2; omega)
  rw [sh_succ] at h2
  unfold ix
  omega

theorem ix_inj {l : List Int} (hl : Lens l) {s t : Nat} (hs : Has l s) (ht : Has l t) (he : ix l s = ix l t) : s = t := by
  by_cases e : s = t
  · exact e
  · have key : ∀ s t, Has l s → Has l t → Ahd l s t → ix l s < ix l t := by
      intro s t hs ht h
      unfold ix
      rcases h with h | ⟨h, hst⟩
      · have h1 := hs.rk_lt hl
        have h2 := sh_mono l (show ln l s + 1 ≤ ln l t by omega)
        rw [sh_succ] at h2
        omega
      · have he : l.getD s 0 = l.getD t 0 := by rw [(hl.ln s).1, (hl.ln t).1, h]
        have := rk_mono hs.1 hst he
        rw [h]; omega
    rcases ahd_or (l := l) e with a | a
    · have := key s t hs ht a; omega
    · have := key t s ht hs a; omega

def wt (x : Int) : Nat := if 0 < x then 2 ^ (15 - x.toNat) else 0
def one (x : Int) : Nat := if 0 < x then 1 else 0
def usum (l : List Int) : Nat := (l.map wt).sum
def tsum (l : List Int) : Nat := (l.map one).sum

theorem cn_cons (a : Int) (l : List Int) (n : Nat) : cn (a :: l) n = cn l n + if n ≠ 0 ∧ a = (n : Int) then 1 else 0 := by
  unfold cn
  by_cases h : n = 0
  · simp [h]
  · rw [if_neg h, if_neg h, List.count_cons]
    by_cases e : a = (n : Int)
    · simp [e, h]
    · simp [e]

theorem us_cons (a : Int) (l : List Int) : ∀ k, us (a :: l) k = us l k + if 0 < a ∧ a < (k : Int) then 2 ^ (15 - a.toNat) else 0
  | 0 => by
    rw [if_neg (by omega)]; rfl
  | k + 1 => by
    simp only [us]
    rw [us_cons a l k, cn_cons]
    by_cases e : a = (k : Int)
    · by_cases h0 : k = 0
      · subst h0; simp [e]
      · rw [if_neg (by omega), if_pos ⟨h0, e⟩, if_pos (by omega), Nat.add_mul]
        have : a.toNat = k := by omega
        rw [this]; omega
    · rw [if_neg (c := k ≠ 0 ∧ a = (k : Int)) (fun h => e h.2), Nat.add_zero]
      by_cases hh : 0 < a ∧ a < (k : Int)
      · rw [if_pos hh, if_pos (by omega)]; omega
      · rw [if_neg hh, if_neg (by omega)]; omega

theorem sh_cons (a : Int) (l : List Int) : ∀ k, sh (a :: l) k = sh l k + if 0 < a ∧ a < (k : Int) then 1 else 0
  | 0 => by
    rw [if_neg (by omega)]; rfl
  | k + 1 => by
    simp only [sh]
    rw [sh_cons a l k, cn_cons]
    by_cases e : a = (k : Int)
    · by_cases h0 : k = 0
      · subst h0; simp [e]
      · rw [if_neg (by omega), if_pos ⟨h0, e⟩, if_pos (by omega)]
        omega
    · rw [if_neg (c := k ≠ 0 ∧ a = (k : Int)) (fun h => e h.2), Nat.add_zero]
      by_cases hh : 0 < a ∧ a < (k : Int)
      · rw [if_pos hh, if_pos (by omega)]; omega
      · rw [if_neg hh, if_neg (by omega)]; omega

theorem us_nil (k : Nat) : us [] k = 0 := by
  induction k with
  | zero => rfl
  | succ k ih => simp [us, ih, cn]

theorem sh_nil (k : Nat) : sh [] k = 0 := by
  induction k with
  | zero => rfl
  | succ k ih => simp [sh, ih, cn]

theorem us_sum : ∀ {l : List Int}, (∀ x ∈ l, 0 ≤ x ∧ x ≤ 15) → us l 16 = usum l
  | [], _ => by rw [us_nil]; rfl
  | a :: l, h => by
    rw [us_cons, us_sum (l := l) (fun x hx => h x (by simp [hx]))]
    have ha := h a (by simp)
    unfold usum wt
    simp only [List.map_cons, List.sum_cons]
    by_cases hz : 0 < a
    · rw [if_pos ⟨hz, by omega⟩, if_pos hz]; omega
    · rw [if_neg (fun h => hz h.1), if_neg hz]; omega

theorem sh_sum : ∀ {l : List Int}, (∀ x ∈ l, 0 ≤ x ∧ x ≤ 15) → sh l 16 = tsum l
  | [], _ => by rw [sh_nil]; rfl
  | a :: l, h => by
    rw [sh_cons, sh_sum (l := l) (fun x hx => h x (by simp [hx]))]
    have ha := h a (by simp)
    unfold tsum one
    simp only [List.map_cons, List.sum_cons]
    by_cases hz : 0 < a
    · rw [if_pos ⟨hz, by omega⟩, if_pos hz]; omega
    · rw [if_neg (fun h => hz h.1), if_neg hz]; omega

def shp (l : List Int) : Int := if tsum l = 0 then 0 else if tsum l = 1 ∧ usum l = 16384 then 1 else if 32768 < usum l then 3 else if usum l = 32768 then 4 else 2

theorem sh_le (l : List Int) (n : Nat) : sh l n ≤ l.length := by
  induction l with
  | nil => rw [sh_nil]; exact Nat.le_refl _
  | cons a l ih =>
    rw [sh_cons, List.length_cons]
    split <;> omega

theorem cn_le (l : List Int) (n : Nat) : cn l n ≤ l.length := by
  unfold cn
  split
  · omega
  · exact List.count_le_length

theorem sh_sum_ge (l : List Int) {n : Nat} (h : n < 16) : cn l n ≤ sh l 16 := by
  have := sh_mono l (show n + 1 ≤ 16 by omega)
  rw [sh_succ] at this
  omega

theorem tsum_zero {l : List Int} (hl : Lens l) : tsum l = 0 ↔ ∀ n, n < 16 → cn l n = 0 := by
  rw [← sh_sum hl.2]
  constructor
  · intro h n hn
    have := sh_sum_ge l hn
    omega
  · intro h
    have : ∀ n, n ≤ 16 → sh l n = 0 := by
      intro n
      induction n with
      | zero => intro _; rfl
      | succ n ih => intro hn; simp only [sh]; rw [ih (by omega), h n (by omega)]
    exact this 16 (by omega)

theorem single_iff {l : List Int} (hl : Lens l) : (tsum l = 1 ∧ usum l = 16384) ↔ (∀ n, n < 16 → cn l n = if n = 1 then 1 else 0) := by
  rw [← sh_sum hl.2, ← us_sum hl.2]
  constructor
  · rintro ⟨h1, h2⟩ n hn
    have ex : ∃ m, m < 16 ∧ 0 < cn l m := by
      by_cases e : ∃ m, m < 16 ∧ 0 < cn l m
      · exact e
      · have : tsum l = 0 := (tsum_zero hl).2 fun n hn => by
          rcases Nat.eq_zero_or_pos (cn l n) with z | z
          · exact z
          · exact absurd ⟨n, hn, z⟩ e
        rw [← sh_sum hl.2] at this
        omega
    obtain ⟨m, hm, hp⟩ := ex
    have one : ∀ k, k < 16 → k ≠ m → cn l k = 0 := by
      intro k hk hne
      have two : ∀ a b, a < b → b < 16 → cn l a + cn l b ≤ sh l 16 := by
        intro a b hab hb
        have h1 := sh_mono l (show a + 1 ≤ b by omega)
        have h2 := sh_mono l (show b + 1 ≤ 16 by omega)
        rw [sh_succ] at h1 h2
        omega
      rcases Nat.lt_or_gt_of_ne hne with hlt | hgt
      · have := two k m hlt hm; omega
      · have := two m k hgt hk; omega
    have cm : cn l m = 1 := by
      have := sh_sum_ge l hm
      omega
    have hus : us l 16 = 2 ^ (15 - m) := by
      have : ∀ n, n ≤ 16 → us l n = if m < n then 2 ^ (15 - m) else 0 := by
        intro n
        induction n with
        | zero => intro _; simp [us]
        | succ n ih =>
          intro hn
          simp only [us]
          rw [ih (by omega)]
          by_cases e : n = m
          · subst e; simp [cm]
          · rw [one n (by omega) e]
            by_cases hlt : m < n
            · rw [if_pos hlt, if_pos (by omega)]; omega
            · rw [if_neg hlt, if_neg (by omega)]; omega
      rw [this 16 (by omega), if_pos hm]
    rw [h2] at hus
    have hm1 : m = 1 := by
      have : ∀ m : Fin 16, 16384 = 2 ^ (15 - m.val) → m.val = 1 := by decide
      exact this ⟨m, hm⟩ hus
    subst hm1
    by_cases e : n = 1
    · rw [e, if_pos rfl]; exact cm
    · rw [if_neg e]; exact one n hn e
  · intro h
    have hs : ∀ n, n ≤ 16 → sh l n = if 1 < n then 1 else 0 := by
      intro n
      induction n with
      | zero => intro _; simp [sh]
      | succ n ih =>
        intro hn
        simp only [sh]
        rw [ih (by omega), h n (by omega)]
        by_cases e : n = 1
        · subst e; rfl
        · rw [if_neg e]
          by_cases hlt : 1 < n
          · rw [if_pos hlt, if_pos (by omega)]
          · rw [if_neg hlt, if_neg (by omega)]
    have hu : ∀ n, n ≤ 16 → us l n = if 1 < n then 16384 else 0 := by
      intro n
      induction n with
      | zero => intro _; simp [us]
      | succ n ih =>
        intro hn
        simp only [us]
        rw [ih (by omega), h n (by omega)]
        by_cases e : n = 1
        · subst e; rfl
        · rw [if_neg e]
          by_cases hlt : 1 < n
          · rw [if_pos hlt, if_pos (by omega)]; omega
          · rw [if_neg hlt, if_neg (by omega)]; omega
    exact ⟨by rw [hs 16 (by omega)]; rfl, by rw [hu 16 (by omega)]; rfl⟩

theorem us_bound {l : List Int} (hl : Lens l) : us l 16 ≤ 288 * 16384 := by
  rw [us_sum hl.2]
  have : ∀ l : List Int, usum l ≤ l.length * 16384 := by
    intro l
    induction l with
    | nil => simp [usum]
    | cons a l ih =>
      have : wt a ≤ 16384 := by
        unfold wt
        by_cases h : 0 < a
        · rw [if_pos h]
          have : 2 ^ (15 - a.toNat) ≤ 2 ^ 14 := Nat.pow_le_pow_right (by decide) (by omega)
          omega
        · rw [if_neg h]; omega
      simp only [usum, List.map_cons, List.sum_cons, List.length_cons] at ih ⊢
      omega
  exact Nat.le_trans (this l) (Nat.mul_le_mul_right _ hl.1)

theorem fi_bound {l : List Int} (hl : Lens l) : ∀ n, n ≤ 15 → fi l n + 576 ≤ 288 * 2 ^ (n + 1)
  | 0, _ => by simp [fi]
  | n + 1, h => by
    have ih := fi_bound hl n (by omega)
    have hc := cn_le l n
    have h2 := hl.1
    simp only [fi]
    rw [Nat.pow_succ 2 (n + 1)]
    omega

theorem fi_top {l : List Int} (hl : Lens l) {n : Nat} (h : n ≤ 15) : fi l n ≤ 18874368 := by
  have h1 := fi_bound hl n h
  have h2 : 2 ^ (n + 1) ≤ 2 ^ 16 := Nat.pow_le_pow_right (by decide) (by omega)
  omega

end Go.Proofs.YtmjdpfigkojolaaGreatDoor

namespace Go.Proofs.YtmjdpfigkojolaaGreatDoor
open Go.RowKit Go.Maps
set_option maxRecDepth 20000

def SI (w : World) (v : Value) (l : List Int) : Prop :=
  ∃ ao cap, v = .slice ao l.length cap ∧ l.length ≤ cap ∧ cap ≤ maxLen ∧ (ao = none → cap = 0) ∧ ∀ x, ao = some x → ∀ i, i < l.length → w.cell? (x.add i) = some (.int .i64 (l.getD i 0))

def OI (w : World) (base : Nat) (v : Value) (l : List Int) : Prop := w.ownsRow base 3 1 v l.length (l.map (Value.int .i64))

theorem SI.move {w w' : World} {v : Value} {l : List Int} (h : SI w v l) (hc : ∀ a u, w.cell? a = some u → v.ownBlock = some a.block → w'.cell? a = some u) : SI w' v l := by
  obtain ⟨ao, cap, rfl, h1, h2, h3, h4⟩ := h
  refine ⟨ao, cap, rfl, h1, h2, h3, fun x hx i hi => hc _ _ (h4 x hx i hi) ?_⟩
  subst hx; simp [Value.ownBlock, add_block]

theorem SI.below {w w' : World} {v : Value} {l : List Int} (h : SI w v l) (hb : Below w.heap.size w w') : SI w' v l :=
  h.move fun a _ ha _ => (hb.cell (World.block_lt_of_cell? w a ha)).trans ha

theorem OI.lt {w : World} {base : Nat} {v : Value} {l : List Int} (h : OI w base v l) : ∀ k, v.ownBlock = some k → base ≤ k ∧ k < w.heap.size := World.ownsRow.lt h

theorem OI.sb {w : World} {base : Nat} {v : Value} {l : List Int} (h : OI w base v l) : SI w v l := by
  have hc := @World.ownsRow.cells _ _ _ _ _ _ _ h
  rcases h.2 with ⟨rfl, h0⟩ | ⟨g, cap, cur, rfl, _, _, h3, h4, _, _⟩
  · obtain rfl : l = [] := List.eq_nil_of_length_eq_zero h0
    exact ⟨none, 0, rfl, Nat.le_refl _, Nat.zero_le _, fun _ => rfl, fun x hx => by cases hx⟩
  · refine ⟨some ⟨g, 0, none⟩, cap, rfl, h3, h4, (fun e => by cases e), fun x hx i hi => ?_⟩
    cases hx
    refine hc (g := g) rfl i _ ?_
    simp [hi]

theorem OI.shape {w : World} {base : Nat} {v : Value} {l : List Int} (h : OI w base v l) : ∃ a c, v = .slice a l.length c := by
  rcases h.2 with ⟨rfl, h0⟩ | ⟨g, cap, cur, rfl, _⟩
  · exact ⟨none, 0, by rw [h0]⟩
  · exact ⟨_, _, rfl⟩

theorem OI.move {w w' : World} {base : Nat} {v : Value} {l : List Int} (h : OI w base v l) (hb : ∀ k, v.ownBlock = some k → w'.heap[k]? = w.heap[k]?) : OI w' base v l := by
  refine ⟨h.1, ?_⟩
  rcases h.2 with h2 | ⟨g, cap, cur, rfl, h1, h2, r⟩
  · exact .inl h2
  · exact .inr ⟨g, cap, cur, rfl, h1, (hb g rfl).trans h2, r⟩

theorem OI.base {w : World} {base base' : Nat} {v : Value} {l : List Int} (h : OI w base v l) (hb : base' ≤ base) : OI w base' v l := by
  refine ⟨h.1, ?_⟩
  rcases h.2 with h2 | ⟨g, cap, cur, rfl, h1, r⟩
  · exact .inl h2
  · exact .inr ⟨g, cap, cur, rfl, Nat.le_trans hb h1, r⟩

theorem OI.below {w w' : World} {base B : Nat} {v : Value} {l : List Int} (h : OI w base v l) (hb : Below B w w') (hB : w.heap.size ≤ B) : OI w' base v l :=
  h.move fun k hk => hb.block k (Nat.lt_of_lt_of_le (h.lt k hk).2 hB)

theorem infoInt : (Tryz.prog.info? 3).map (fun i => (i.zero, i.size, i.bytes)) = some (some (.int .i64 0), 1, 8) := by kernel_rfl

theorem madeInts (n : Nat) : (madeCells #[Value.int .i64 0] n).toList = List.replicate n (Value.int .i64 0) := by
  have e : ∀ k : Nat, [Value.int IntKind.i64 0][k % 1]?.getD default = Value.int .i64 0 := fun k => by simp [Nat.mod_one]
  simp only [madeCells]
  simp [e, List.map_const']

theorem OI.of_full {w : World} {base g : Nat} {l : List Int} (hg : w.heap[g]? = some (.cells (l.map (Value.int .i64)).toArray 3 (0, 0))) (hb : base ≤ g) (hm : l.length ≤ maxLen) : OI w base (.slice (some ⟨g, 0, none⟩) l.length l.length) l :=
  ⟨by simp, .inr ⟨g, l.length, _, rfl, hb, hg, Nat.le_refl _, hm, by simp, List.take_of_length_le (by simp)⟩⟩

theorem run_appI_none (w : World) (tx ty : TypeId) (i : TypeInfo) (hi : Tryz.prog.info? 3 = some i) (x : Value) (hs : Src Tryz.prog i.size tx x 0 [] w) :
    (Builtin.append_ #[113, tx] ty #[.slice none 0 0, x]).run Tryz.prog w = .ok (.slice none 0 0) w := by
  rcases hs.kind with ⟨e', hk⟩ | hk <;> simp [Builtin.append_, run_underlying Tryz.underlying113, run_underlying hk, sizeOf, typeInfo, hi, hs.len, hs.cells]

theorem run_appI (w : World) (base : Nat) (tx ty : TypeId) (v x : Value) (l news : List Int) (hown : OI w base v l) (hs : Src Tryz.prog 1 tx x news.length (news.map (Value.int .i64)) w)
    (hb : l.length + news.length ≤ 17592186044416) (hbase : base ≤ w.heap.size) :
    ∃ v' w', (Builtin.append_ #[113, tx] ty #[v, x]).run Tryz.prog w = .ok v' w' ∧ OI w' base v' (l ++ news) ∧ Grew w w' v v' ∧ OI w' base v l := by
  obtain ⟨i, hi, hz, hsz, hby⟩ := info_parts infoInt
  have hs' : Src Tryz.prog i.size tx x news.length (news.map (Value.int .i64)) w := by rw [hsz]; exact hs
  have hmx : l.length + news.length ≤ maxLen := by unfold maxLen; omega
  have grown : ∀ old, old < l.length + news.length → (OI (w.drew.alloc (.cells ((l.map (Value.int .i64) ++ news.map (Value.int .i64)).toArray ++ Builtin.zeroCells (Value.int .i64 0).cells (grownCap w (l.length + news.length) old 3 - (l.length + news.length))) 3)) base
      (.slice (some ⟨w.heap.size, 0, none⟩) (l.length + news.length) (grownCap w (l.length + news.length) old 3)) (l ++ news)) := by
    intro old ho
    have hge := grownCap_ge w (l.length + news.length) old 3
    have hcm : grownCap w (l.length + news.length) old 3 ≤ maxLen := grownCap_le_maxLen w (l.length + news.length) old 3 hmx
    refine ⟨by simp, .inr ⟨w.heap.size, grownCap w (l.length + news.length) old 3, _, by rw [List.length_append], hbase, heap_alloc_new w.drew _, by rw [List.length_append]; exact hge, hcm, ?_, ?_⟩⟩
    · simp only [Array.size_append, List.size_toArray, List.length_append, List.length_map, size_zeroCells, Value.cells]
      simp
      omega
    · simp only [Array.toList_append, List.map_append]
      rw [List.take_append_of_le_length (by simp)]
      exact List.take_of_length_le (by simp)
  rcases hown.2 with ⟨rfl, h0⟩ | ⟨g, cap, cur, rfl, hbg, hg, hnc, hcm, hcs, htake⟩
  · obtain rfl : l = [] := List.eq_nil_of_length_eq_zero h0
    by_cases hm : news = []
    · subst hm
      exact ⟨_, _, run_appI_none w tx ty i hi x hs', hown, .inl ⟨rfl, rfl⟩, hown⟩
    · have hpos : 0 < news.length := List.length_pos_iff.2 hm
      have hr := run_append_grow_src (P := Tryz.prog) w 113 tx ty 3 i (.int .i64 0) Tryz.underlying113 hi hz none 0 0 [] (run_firstCells_none w.drew i.size 0 0 0) x news.length _ hs' (by omega) (by omega) (by rw [hby]; exact growslice_fits (by omega) (by simp at hb ⊢; omega))
      have hgr := grown 0 (by simp; omega)
      simp only [List.length_nil, Nat.zero_add, List.map_nil, List.nil_append] at hgr hr ⊢
      exact ⟨_, _, hr, hgr, .inr (.inl ⟨rfl, (Below.refl _ _).drew.alloc (Nat.le_refl _) _⟩), World.ownsRow_nil _ _ _ _⟩
  · by_cases hroom : l.length + news.length ≤ cap
    · have hfit : l.length * i.size + (news.map (Value.int .i64)).length ≤ cur.size := by rw [hsz, hcs]; simp; omega
      have hst := run_storeCells_at Tryz.prog g (l.length * i.size) 3 (news.map (Value.int .i64)) 0 cur w hg (by simpa using hfit) hs.one
      simp only [Nat.add_zero] at hst
      have hr : (Builtin.append_ #[113, tx] ty #[.slice (some ⟨g, 0, none⟩) l.length cap, x]).run Tryz.prog w =
          .ok (.slice (some ⟨g, 0, none⟩) (l.length + news.length) cap) (w.setRow g (cur.toList.take (l.length * i.size) ++ news.map (Value.int .i64) ++ cur.toList.drop (l.length * i.size + (news.map (Value.int .i64)).length)).toArray) := by
        rcases hs'.kind with ⟨e', hk⟩ | hk <;> simp [Builtin.append_, run_underlying Tryz.underlying113, run_underlying hk, sizeOf, typeInfo, hi, hs'.len, hroom, hs'.cells, Addr.add_lit, hst]
      refine ⟨_, _, hr, ⟨by simp, .inr ⟨g, cap, _, by rw [List.length_append], hbg, setRow_heap w g cur _ 3 _ hg, by rw [List.length_append]; exact hroom, hcm, ?_, ?_⟩⟩, .inr (.inr ⟨rfl, by simp [World.setRow], ⟨rfl, rfl, rfl, by simp, fun k _ hk => setRow_other w g k _ (fun e => hk (by simp [Value.ownBlock, e]))⟩⟩), ⟨by simp, .inr ⟨g, cap, _, rfl, hbg, setRow_heap w g cur _ 3 _ hg, hnc, hcm, ?_, ?_⟩⟩⟩
      · rw [hsz]
        simp only [List.size_toArray, List.length_append, List.length_take, List.length_drop, Array.length_toList, List.length_map]
        omega
      · rw [hsz, htake]
        simp only [List.map_append]
        rw [List.take_append_of_le_length (by simp)]
        exact List.take_of_length_le (by simp)
      · rw [hsz]
        simp only [List.size_toArray, List.length_append, List.length_take, List.length_drop, Array.length_toList, List.length_map]
        omega
      · rw [hsz, htake]
        simp only [List.append_assoc]
        rw [List.take_append_of_le_length (by simp)]
        exact List.take_of_length_le (by simp)
    · have holds : ∀ j u, (l.map (Value.int .i64))[j]? = some u → w.drew.cell? ((⟨g, 0, none⟩ : Addr).add j) = some u := World.ownsRow.cells hown (g := g) rfl
      have hr := run_append_grow_src (P := Tryz.prog) w 113 tx ty 3 i (.int .i64 0) Tryz.underlying113 hi hz (some ⟨g, 0, none⟩) l.length cap (l.map (Value.int .i64)) (run_firstCells_some w.drew i.size l.length ⟨g, 0, none⟩ l.length cap _ (by rw [hsz]; simp) holds) x news.length _ hs' (by omega) (by omega) (by rw [hby]; exact growslice_fits (by omega) (by omega))
      exact ⟨_, _, hr, grown cap (by omega), .inr (.inl ⟨rfl, (Below.refl _ _).drew.alloc (Nat.le_refl _) _⟩), hown.below ((Below.refl w.heap.size w).drew.alloc (Nat.le_refl _) _) (Nat.le_refl _)⟩

theorem wpList_appI {w : World} {ops : Array Oper} {rest : List Oper} {o : Oper} {a : Act} {Q : Exit → Act → World → Prop} (hgd : o.guard = none) (s x : Operand) (tx : TypeId)
    (ho : o.op = .call { callee := .builtin .append, args := #[s, x], argTypes := #[113, tx] }) (base : Nat) (v xv : Value) (l news : List Int) (hv : a.eval s = v) (hown : OI w base v l) (hx : a.eval x = xv) (hs : Src Tryz.prog 1 tx xv news.length (news.map (Value.int .i64)) w)
    (hb : l.length + news.length ≤ 17592186044416) (hbase : base ≤ w.heap.size)
    (h : ∀ v' w', OI w' base v' (l ++ news) → Grew w w' v v' → wpList Tryz.prog ops Q rest (a.put o.dst v') w') : wpList Tryz.prog ops Q (o :: rest) a w := by
  refine wpList_plain hgd fun K hK => ?_
  obtain ⟨v', w', hr, h2, h3, _⟩ := run_appI w base tx o.type v xv l news hown hs hb hbase
  unfold Oper.wp
  simp [execOp, ho, resolve, invoke, builtin, hv, hx, hr, Result.andThen]
  exact hK _ _ (h v' w' h2 h3)

theorem SI.src {w : World} {v : Value} {l : List Int} (h : SI w v l) : Src Tryz.prog 1 113 v l.length (l.map (Value.int .i64)) w := by
  obtain ⟨ao, cap, rfl, h1, h2, h3, h4⟩ := h
  cases ao with
  | none =>
    have hc := h3 rfl
    obtain rfl : l = [] := List.eq_nil_of_length_eq_zero (by omega)
    exact Src.ofNil w Tryz.underlying113 cap
  | some a =>
    refine Src.ofSlice w Tryz.underlying113 a l.length cap _ (by simp) (fun j u hj => ?_) (fun u hu => by obtain ⟨n, _, rfl⟩ := List.mem_map.1 hu; rfl)
    obtain ⟨hjl, rfl⟩ := List.getElem?_eq_some_iff.1 hj
    have hjl' : j < l.length := by simpa using hjl
    rw [h4 a rfl j hjl']
    simp [hjl']

theorem built_srcI (w : World) (cs : List Int) : Src Tryz.prog 1 113 (.slice (some ⟨w.heap.size, 0, none⟩) cs.length cs.length) cs.length (cs.map (Value.int .i64)) (w.alloc (.cells (cs.map (Value.int .i64)).toArray 3)) := by
  refine Src.ofSlice _ Tryz.underlying113 _ _ _ _ (by simp) (fun j u hj => ?_) (fun u hu => by obtain ⟨n, _, rfl⟩ := List.mem_map.1 hu; rfl)
  have e := heap_alloc_new w (.cells (cs.map (Value.int .i64)).toArray 3)
  rw [Addr.add_lit]
  unfold World.cell?
  simp only [e, Nat.zero_add]
  simpa using hj

theorem OI.alloc {w : World} {base : Nat} {v : Value} {l : List Int} (h : OI w base v l) (o : Obj) : OI (w.alloc o) base v l := h.move fun k hk => Below.heap_alloc w o k (h.lt k hk).2

theorem wpList_mkI {w : World} {ops : Array Oper} {rest : List Oper} {o : Oper} {a : Act} {Q : Exit → Act → World → Prop} (hg : o.guard = none) (l c : Operand) (hop : o.op = Op.makeSlice 113 l c)
    (kl kc : IntKind) (L C : Int) (n m : Nat) (hl : a.eval l = .int kl L) (hc : a.eval c = .int kc C) (hL : L = (n : Int)) (hC : C = (m : Int)) (hnm : n ≤ m) (b2 : m ≤ 17592186044416)
    (hK : ∀ w', w'.heap[w.heap.size]? = some (.cells (List.replicate m (Value.int .i64 0)).toArray 3 (0, 0)) → Below w.heap.size w w' → wpList Tryz.prog ops Q rest (a.put o.dst (.slice (some ⟨w.heap.size, 0, none⟩) n m)) w') :
    wpList Tryz.prog ops Q (o :: rest) a w := by
  obtain ⟨i0, hi, hz0, hz1, hz2⟩ := info_parts infoInt
  refine wpList_plain hg fun K hK' => ?_
  have hr := run_make (P := Tryz.prog) w 113 3 i0 (.int .i64 0) Tryz.underlying113 hi hz0 kl kc (n : Int) (m : Int) (by omega) (by omega) (by rw [hz2]; omega) (by omega)
  subst hL hC
  unfold Oper.wp
  simp [execOp, hop, hl, hc, hr, Result.andThen]
  refine hK' _ _ (hK _ ?_ ((Below.refl _ _).alloc (Nat.le_refl _) _))
  rw [heap_alloc_new, hz1, Nat.mul_one]
  have e : (madeCells (Value.int .i64 0).cells m) = (List.replicate m (Value.int .i64 0)).toArray := by
    apply Array.ext'
    exact madeInts m
  rw [e]

theorem sizeInt : (Tryz.prog.info? 3).map (·.size) = some 1 := by kernel_rfl

end Go.Proofs.YtmjdpfigkojolaaGreatDoor

namespace Go.Proofs.YtmjdpfigkojolaaGreatDoor
open Go.RowKit
set_option maxRecDepth 20000

theorem u32_and1 {v : Int} (h0 : 0 ≤ v) (h1 : v < 4294967296) : bits .and .u32 v 1 = v % 2 := by
  have := bits_mask .u32 32 (by decide) (fun n a b => by rw [IntKind.wrap_u32]; omega) 1 (by decide) v h0 (by omega)
  simpa using this

def Cnt (n : Int) : Prop := 0 ≤ n ∧ n ≤ 32
instance (n : Int) : Decidable (Cnt n) := by unfold Cnt; exact inferInstance
def Fit (v n : Int) : Prop := Cnt n ∧ v < 2 ^ n.toNat
instance (v n : Int) : Decidable (Fit v n) := by unfold Fit; exact inferInstance

theorem countable_any (n : Int) (w : World) : Calls Tryz.prog 80 #[.int .i64 n] w fun e w' => e = .returned (.bool (decide (Cnt n))) ∧ w' = w := by
  by_cases h0 : 0 ≤ n
  · by_cases h1 : n ≤ 32
    · have HD : Hid (decide (Cnt n) = true) := decide_eq_true ⟨h0, h1⟩
      go_enter Tryz.func80, Tryz.ntmps80
      go_wp2
      go_ret
      rw [HD.out]
      exact ⟨rfl, rfl⟩
    · have HD : Hid (decide (Cnt n) = false) := decide_eq_false fun h => h1 h.2
      go_enter Tryz.func80, Tryz.ntmps80
      go_wp2
      go_ret
      rw [HD.out]
      exact ⟨rfl, rfl⟩
  · have HD : Hid (decide (Cnt n) = false) := decide_eq_false fun h => h0 h.1
    go_enter Tryz.func80, Tryz.ntmps80
    go_wp2
    go_ret
    rw [HD.out]
    exact ⟨rfl, rfl⟩

theorem rev_snoc (v : Int) (k : Nat) : val (bts v (k + 1)).reverse = v / 2 ^ k % 2 + 2 * val (bts v k).reverse := by
  rw [bts_snoc, List.reverse_append]
  rfl

theorem rev_bound (v : Int) (k : Nat) : 0 ≤ val (bts v k).reverse ∧ val (bts v k).reverse < 2 ^ k := by
  have := val_bound (l := (bts v k).reverse) (fun b hb => bit_bts v k b (List.mem_reverse.1 hb))
  rwa [List.length_reverse, length_bts] at this

theorem bit_any (v : Int) (i : Nat) (hi : i ≤ 32) (hv : 0 ≤ v) (hv1 : v < 4294967296) (w : World) : Calls Tryz.prog 70 #[.int .u32 v, .int .i64 i] w fun e w' => e = .returned (.int .u8 (v / 2 ^ i % 2)) ∧ w' = w := by
  obtain ⟨q, HQ⟩ : ∃ q, Hid (q = v / 2 ^ i) := ⟨_, rfl⟩
  have HA : Hid (bits .and .u32 (v / 2 ^ i) 1 % 256 = v / 2 ^ i % 2) := by
    show _ = _
    rw [u32_and1 (Int.ediv_nonneg hv (Int.le_of_lt (pow_pos i))) (Int.lt_of_le_of_lt (Int.ediv_le_self _ hv) hv1)]
    omega
  go_enter Tryz.func70, Tryz.ntmps70
  go_wp2
  go_ret
  refine ⟨?_, rfl⟩
  show Ending.returned (Value.int .u8 (bits .and .u32 (v / 2 ^ i) 1 % 256)) = _
  rw [HA.out]

end Go.Proofs.YtmjdpfigkojolaaGreatDoor

namespace Go.Proofs.YtmjdpfigkojolaaGreatDoor
open Go.RowKit Go.Maps
set_option maxRecDepth 20000

def av (f : Nat → Int) : Array Value := Array.ofFn fun i : Fin 16 => Value.int .i64 (f i)

theorem av_size (f : Nat → Int) : (av f).size = 16 := by simp [av]

theorem av_get (f : Nat → Int) {i : Nat} (h : i < 16) : (av f)[i]? = some (.int .i64 (f i)) := by simp [av, h]

def upf (f : Nat → Int) (i : Nat) (x : Int) : Nat → Int := fun k => if k = i then x else f k

theorem av_set (f : Nat → Int) {i : Nat} (x : Int) (h : i < 16) : (av f).setIfInBounds i (.int .i64 x) = av (upf f i x) := by
  apply Array.ext_getElem?
  intro k
  rw [Array.getElem?_setIfInBounds]
  by_cases e : i = k
  · subst e; simp [av, h, upf]
  · rw [if_neg e]
    by_cases hk : k < 16
    · have : k ≠ i := fun h => e h.symm
      simp [av, hk, upf, this]
    · simp [av, hk]

theorem av_congr {f g : Nat → Int} (h : ∀ i, i < 16 → f i = g i) : av f = av g := by
  unfold av
  congr 1
  funext i
  rw [h i i.2]

theorem av_one (f : Nat → Int) : (av f).all (·.oneCell') = true := by
  rw [Array.all_eq_true]
  intro i hi
  simp [av, Value.oneCell']

theorem av_zero : av (fun _ => 0) = #[.int .i64 0, .int .i64 0, .int .i64 0, .int .i64 0, .int .i64 0, .int .i64 0, .int .i64 0, .int .i64 0, .int .i64 0, .int .i64 0, .int .i64 0, .int .i64 0, .int .i64 0, .int .i64 0, .int .i64 0, .int .i64 0] := rfl

theorem sizePer (f : Nat → Int) : (Tryz.prog.info? 161).map (·.size) = some (av f).size := by rw [av_size]; kernel_rfl

theorem wpList_loadP {ops : Array Oper} {rest : List Oper} {a : Act} {w : World} {Q : Exit → Act → World → Prop} {dst : Option Tmp} {x : Operand} {ty : TypeId} {pos : String} {after : Array Edge} (g : Nat) (f : Nat → Int)
    (hx : a.eval x = .pointer (some ⟨g, 0, none⟩)) (hg : w.heap[g]? = some (.cells (av f) 161 (0, 0))) (h : wpList Tryz.prog ops Q rest (a.put dst (.agg (av f))) w) :
    wpList Tryz.prog ops Q ({ dst := dst, op := .load 161 x, type := ty, pos := pos, after := after, guard := none } :: rest) a w :=
  wpList_load_row rfl 161 x rfl g hx 161 (av f) (0, 0) _ hg Tryz.underlying161 rfl (sizePer f) h

theorem wpList_storeP {ops : Array Oper} {rest : List Oper} {a : Act} {w : World} {Q : Exit → Act → World → Prop} {dst : Option Tmp} {x y : Operand} {ty : TypeId} {pos : String} {after : Array Edge} (g : Nat) (f h0 : Nat → Int)
    (hx : a.eval x = .pointer (some ⟨g, 0, none⟩)) (hy : a.eval y = .agg (av f)) (hg : w.heap[g]? = some (.cells (av h0) 161 (0, 0))) (h : wpList Tryz.prog ops Q rest (a.put dst undef) (w.setRow g (av f))) :
    wpList Tryz.prog ops Q ({ dst := dst, op := .store 161 x y, type := ty, pos := pos, after := after, guard := none } :: rest) a w :=
  wpList_store_row rfl 161 x y rfl g (av f) hx hy 161 (av h0) hg (sizePer f) (by rw [av_size, av_size]) (av_one f) h

theorem ret_per {fn : Func} {R : Ending → World → Prop} {a : Act} {w : World} {p : Tmp} (hres : fn.results = #[.cell p 161]) (g : Nat) (f : Nat → Int) (hp : a.tmps.getD p undef = .pointer (some ⟨g, 0, none⟩))
    (hg : w.heap[g]? = some (.cells (av f) 161 (0, 0))) (hd : a.defers = []) (hR : R (.returned (.agg (av f))) w) : bodyPost Tryz.prog fn R .ret a w :=
  bodyPost_ret (results_cell_row hres a.tmps w g 161 (av f) (0, 0) _ hp hg Tryz.underlying161 rfl (sizePer f)) hd hR

theorem SI.get {W w : World} {ao : Option Addr} {cap : Nat} {l : List Int} (h : SI W (.slice ao l.length cap) l) (hb : Below W.heap.size W w) {k : Nat} (hk : k < l.length) : ∃ b o, ao = some ⟨b, o, none⟩ ∧ w.cell? ⟨b, o + k, none⟩ = some (.int .i64 (l.getD k 0)) := by
  obtain ⟨ao', cap', he, h1, h2, h3, h4⟩ := h
  simp only [Value.slice.injEq] at he
  obtain ⟨rfl, -, rfl⟩ := he
  cases ao with
  | none => have := h3 rfl; omega
  | some x =>
    obtain ⟨b, o, rfl⟩ := addr_lit (h4 x rfl 0 (by omega))
    have hc := h4 _ rfl k hk
    have hbl := World.block_lt_of_cell? _ _ hc
    rw [Addr.add_lit] at hc hbl
    exact ⟨b, o, rfl, (hb.cell hbl).trans hc⟩

theorem SI.open {w : World} {v : Value} {l : List Int} (h : SI w v l) : ∃ ao cap, v = .slice ao l.length cap ∧ l.length ≤ cap ∧ cap ≤ 9223372036854775807 := by
  obtain ⟨ao, cap, rfl, h1, h2, _⟩ := h
  unfold maxLen at h2
  exact ⟨ao, cap, rfl, h1, by omega⟩

def Two (w : World) (f g : Nat → Int) (wr : World) : Prop := wr.heap[w.heap.size]? = some (.cells (av f) 161 (0, 0)) ∧ wr.heap[w.heap.size + 1]? = some (.cells (av g) 161 (0, 0)) ∧ Below w.heap.size w wr

theorem two_start (w : World) (o p : Obj) (f g : Nat → Int) (ho : o = .cells (av f) 161 (0, 0)) (hp : p = .cells (av g) 161 (0, 0)) : Two w f g ((w.alloc o).alloc p) := by
  subst ho hp
  obtain ⟨h1, h2⟩ := heap_two w (.cells (av f) 161 (0, 0)) (.cells (av g) 161 (0, 0))
  exact ⟨h2, h1, ((Below.refl _ _).alloc (Nat.le_refl _) _).alloc (by simp) _⟩

theorem Two.cell {w wr : World} {f g : Nat → Int} (h : Two w f g wr) {n : Nat} (hn : n < 16) : wr.cell? ⟨w.heap.size + 1, n, none⟩ = some (.int .i64 (g n)) := by
  rw [cell_of_row _ _ _ _ _ _ h.2.1, av_get g hn]

theorem Two.free {w wr : World} {f g : Nat → Int} (h : Two w f g wr) (n : Nat) : wr.frozen? ⟨w.heap.size + 1, n, none⟩ = false := frozen_of_row _ _ _ _ _ h.2.1
theorem Two.free0 {w wr : World} {f g : Nat → Int} (h : Two w f g wr) (n : Nat) : wr.frozen? ⟨w.heap.size, n, none⟩ = false := frozen_of_row _ _ _ _ _ h.1

theorem Two.set {w wr : World} {f g : Nat → Int} (h : Two w f g wr) {n : Nat} (hn : n < 16) (x : Int) : Two w f (upf g n x) (wr.setCell ⟨w.heap.size + 1, n, none⟩ (.int .i64 x)) := by
  refine ⟨(setCell_others wr _ n _ _ (by omega)).trans h.1, ?_, ?_⟩
  · rw [heap_setCell_same _ _ _ _ _ _ h.2.1, av_set g x hn]
  · exact h.2.2.setCell (by show _ ≤ w.heap.size + 1; omega) _

theorem Two.drewN {w wr : World} {f g : Nat → Int} (h : Two w f g wr) (n : Nat) : Two w f g (wr.drewN n) := ⟨h.1, h.2.1, below_drewN h.2.2 n⟩

theorem Two.over {w wr : World} {f g f' : Nat → Int} (h : Two w f g wr) : Two w f' g (wr.setRow w.heap.size (av f')) := by
  refine ⟨setRow_heap wr _ _ _ _ _ h.1, (setRow_other wr _ _ _ (by omega)).trans h.2.1, ?_⟩
  exact ⟨h.2.2.os, h.2.2.tape, h.2.2.output, by rw [size_setRow]; exact h.2.2.size, fun k hk => (setRow_other wr _ _ _ (by omega)).trans (h.2.2.block k hk)⟩

theorem cn_snoc {l : List Int} {k : Nat} (hk : k < l.length) (n : Nat) : cn (l.take (k + 1)) n = cn (l.take k) n + if n ≠ 0 ∧ l.getD k 0 = (n : Int) then 1 else 0 := by
  unfold cn
  by_cases h : n = 0
  · simp [h]
  · rw [if_neg h, if_neg h, count_take_succ l _ hk]
    by_cases e : l.getD k 0 = (n : Int)
    · rw [if_pos e, if_pos ⟨h, e⟩]
    · rw [if_neg e, if_neg (fun x => e x.2)]

theorem cn_step {l : List Int} {k n : Nat} (hk : k < l.length) (hn : l.getD k 0 = (n : Int)) :
    (n = 0 → (av fun m => (cn (l.take (k + 1)) m : Int)) = av fun m => (cn (l.take k) m : Int)) ∧ (n ≠ 0 → (av fun m => (cn (l.take (k + 1)) m : Int)) = av (upf (fun m => (cn (l.take k) m : Int)) n ((cn (l.take k) n : Int) + 1))) := by
  refine ⟨fun h => av_congr fun i _ => ?_, fun h => av_congr fun i _ => ?_⟩
  · rw [cn_snoc hk, if_neg (fun x => x.1 (by have := x.2; omega))]; rfl
  · rw [cn_snoc hk]
    unfold upf
    by_cases e : i = n
    · subst e
      rw [if_pos ⟨h, hn⟩, if_pos rfl]; omega
    · rw [if_neg (fun x => e (by have := x.2; omega)), if_neg e]; rfl

theorem count_any (v : Value) (l : List Int) (w : World) (h : SI w v l) (hl : Lens l) :
    Calls Tryz.prog 108 #[v] w fun e w' => e = .returned (.agg (av fun n => (cn l n : Int))) ∧ Below w.heap.size w w' := by
  have HS := hide h
  have HL := hide hl
  have h288 := hl.1
  obtain ⟨ao, cap, rfl, hlc, hcm⟩ := h.open
  clear h hl
  go_enter Tryz.func108, Tryz.ntmps108
  go_wp2
  go_loopw [8] (fun i wr => ∃ k : Nat, k ≤ l.length ∧ i = .int .i64 k ∧ Hid (Two w (fun _ => 0) (fun n => (cn (l.take k) n : Int)) wr)) (fun i _ => l.length - (intOf i).toNat)
  case atStart =>
    refine ⟨0, Nat.zero_le _, rfl, two_start w _ _ _ _ ?_ ?_⟩
    · rw [av_zero]
    · rw [show (fun n => (cn (l.take 0) n : Int)) = fun _ => 0 by funext n; simp [cn], av_zero]
  case round =>
    obtain ⟨k, hk, rfl, HT⟩ := hrel
    by_cases hlt : k < l.length
    · have hlt' : (k : Int) < (l.length : Int) := by omega
      obtain ⟨b, o, rfl, hc⟩ := HS.out.get HT.out.2.2 hlt
      obtain ⟨n, hn⟩ : ∃ n, n = ln l k := ⟨_, rfl⟩
      have HN : Hid (l.getD k 0 = (n : Int)) := by show _ = _; rw [hn]; exact (HL.out.ln k).1
      have hn15 : n < 16 := by rw [hn]; have := (HL.out.ln k).2; omega
      rw [HN.out] at hc
      clear hn
      have HX := hide (cn_step hlt HN.out)
      by_cases h0 : n = 0
      · subst h0
        go_wp2
        go_roundw
        case rel => exact ⟨k + 1, by omega, by go_num, by show Two _ _ _ _; exact ⟨HT.out.1, by rw [HX.out.1 rfl]; exact HT.out.2.1, HT.out.2.2⟩⟩
        case measure => simp [intOf]; omega
      · have h0' : (0 : Int) < n := by omega
        have hcn := HT.out.cell hn15
        have hfz := HT.out.free n
        have hle : cn (l.take k) n ≤ 288 := by
          have := cn_le (l.take k) n
          rw [List.length_take] at this; omega
        obtain ⟨c, HC⟩ : ∃ c : Nat, Hid (c = cn (l.take k) n) := ⟨_, rfl⟩
        rw [← HC.out] at hcn hle
        go_wp2
        go_roundw
        case rel =>
          refine ⟨k + 1, by omega, by go_num, ?_⟩
          have := HT.out.set hn15 ((c : Int) + 1)
          refine ⟨this.1, ?_, this.2.2⟩
          rw [HX.out.2 h0, ← HC.out]
          exact this.2.1
        case measure => simp [intOf]; omega
    · obtain rfl : k = l.length := by omega
      have hlt' : ¬ (l.length : Int) < (l.length : Int) := by omega
      have HT2 : Hid (Two w (fun _ => 0) (fun n => (cn l n : Int)) wr) := by have := HT.out; rwa [List.take_of_length_le (Nat.le_refl _)] at this
      clear HT
      have HA := hide HT2.out.2.1
      have HB := hide HT2.out.1
      have HO := hide (HT2.out.over (f' := fun n => (cn l n : Int)))
      clear HT2
      go_wp2_with (first | ((with_reducible refine wpList_loadP (w.heap.size + 1) _ ?hx HA.out ?_); case hx => rfl) | ((with_reducible refine wpList_storeP w.heap.size (fun n => (cn l n : Int)) _ ?hx ?hy HB.out ?_); (case hx => rfl); (case hy => rfl)))
      (try simp only [Exit.inBlock, Exit.then])
      refine ret_per (p := 2) ?h1 w.heap.size _ ?h2 HO.out.1 ?h3 ?_
      case h1 => rfl
      case h2 => rfl
      case h3 => rfl
      exact ⟨rfl, HO.out.2.2⟩

theorem fi_step {l : List Int} {k : Nat} : (av (upf (fun m => if m ≤ k then (fi l m : Int) else 0) (k + 1) (((fi l k : Int) + cn l k) * 2))) = av fun m => if m ≤ k + 1 then (fi l m : Int) else 0 := by
  refine av_congr fun i _ => ?_
  unfold upf
  by_cases e : i = k + 1
  · subst e
    rw [if_pos rfl, if_pos (Nat.le_refl _)]
    simp only [fi]; omega
  · rw [if_neg e]
    show (if i ≤ k then _ else _) = _
    by_cases h : i ≤ k
    · rw [if_pos h, if_pos (by omega)]
    · rw [if_neg h, if_neg (by omega)]

def Tri (w : World) (h f g : Nat → Int) (wr : World) : Prop := wr.heap[w.heap.size]? = some (.cells (av h) 161 (0, 0)) ∧ wr.heap[w.heap.size + 1]? = some (.cells (av f) 161 (0, 0)) ∧ wr.heap[w.heap.size + 1 + 1]? = some (.cells (av g) 161 (0, 0)) ∧ Below w.heap.size w wr

theorem tri_start (w : World) (h f g : Nat → Int) : Tri w h f g (((w.alloc (.cells (av h) 161 (0, 0))).alloc (.cells (av f) 161 (0, 0))).alloc (.cells (av g) 161 (0, 0))) := by
  have h1 := heap_two (w.alloc (.cells (av h) 161 (0, 0))) (.cells (av f) 161 (0, 0)) (.cells (av g) 161 (0, 0))
  rw [size_alloc'] at h1
  refine ⟨?_, h1.2, h1.1, (((Below.refl _ _).alloc (Nat.le_refl _) _).alloc (by simp) _).alloc (by simp; omega) _⟩
  rw [Below.heap_alloc _ _ _ (by simp; omega), Below.heap_alloc _ _ _ (by simp)]
  exact heap_alloc_new w _

theorem Tri.cellh {w wr : World} {h f g : Nat → Int} (t : Tri w h f g wr) {n : Nat} (hn : n < 16) : wr.cell? ⟨w.heap.size, n, none⟩ = some (.int .i64 (h n)) := by
  rw [cell_of_row _ _ _ _ _ _ t.1, av_get h hn]

theorem Tri.cellg {w wr : World} {h f g : Nat → Int} (t : Tri w h f g wr) {n : Nat} (hn : n < 16) : wr.cell? ⟨w.heap.size + 1 + 1, n, none⟩ = some (.int .i64 (g n)) := by
  rw [cell_of_row _ _ _ _ _ _ t.2.2.1, av_get g hn]

theorem Tri.free {w wr : World} {h f g : Nat → Int} (t : Tri w h f g wr) (n : Nat) : wr.frozen? ⟨w.heap.size + 1 + 1, n, none⟩ = false := frozen_of_row _ _ _ _ _ t.2.2.1

theorem Tri.set {w wr : World} {h f g : Nat → Int} (t : Tri w h f g wr) {n : Nat} (hn : n < 16) (x : Int) : Tri w h f (upf g n x) (wr.setCell ⟨w.heap.size + 1 + 1, n, none⟩ (.int .i64 x)) := by
  refine ⟨(setCell_others wr _ n _ _ (by omega)).trans t.1, (setCell_others wr _ n _ _ (by omega)).trans t.2.1, ?_, ?_⟩
  · rw [heap_setCell_same _ _ _ _ _ _ t.2.2.1, av_set g x hn]
  · exact t.2.2.2.setCell (by show _ ≤ w.heap.size + 1 + 1; omega) _

theorem Tri.drewN {w wr : World} {h f g : Nat → Int} (t : Tri w h f g wr) (n : Nat) : Tri w h f g (wr.drewN n) := ⟨t.1, t.2.1, t.2.2.1, below_drewN t.2.2.2 n⟩

theorem Tri.over {w wr : World} {h f g f' : Nat → Int} (t : Tri w h f g wr) : Tri w h f' g (wr.setRow (w.heap.size + 1) (av f')) := by
  refine ⟨(setRow_other wr _ _ _ (by omega)).trans t.1, setRow_heap wr _ _ _ _ _ t.2.1, (setRow_other wr _ _ _ (by omega)).trans t.2.2.1, ?_⟩
  exact ⟨t.2.2.2.os, t.2.2.2.tape, t.2.2.2.output, by rw [size_setRow]; exact t.2.2.2.size, fun k hk => (setRow_other wr _ _ _ (by omega)).trans (t.2.2.2.block k hk)⟩

theorem firsts_any (l : List Int) (w : World) (hl : Lens l) :
    Calls Tryz.prog 111 #[.agg (av fun n => (cn l n : Int))] w fun e w' => e = .returned (.agg (av fun n => (fi l n : Int))) ∧ Below w.heap.size w w' := by
  have HL := hide hl
  clear hl
  obtain ⟨A, HA⟩ : ∃ A, Hid (A = av fun n => (cn l n : Int)) := ⟨_, rfl⟩
  rw [← HA.out]
  go_enter Tryz.func111, Tryz.ntmps111
  go_wp2
  go_loopw [4] (fun i wr => ∃ k : Nat, k ≤ 15 ∧ i = .int .i64 ((k : Int) + 1) ∧ Hid (Tri w (fun n => (cn l n : Int)) (fun _ => 0) (fun m => if m ≤ k then (fi l m : Int) else 0) wr)) (fun i _ => 16 - (intOf i).toNat)
  case atStart =>
    refine ⟨0, Nat.zero_le _, rfl, ?_⟩
    have := tri_start w (fun n => (cn l n : Int)) (fun _ => 0) (fun _ => 0)
    rw [← HA.out, av_zero] at this
    rw [show (fun m => if m ≤ 0 then (fi l m : Int) else 0) = fun _ => 0 by funext m; by_cases e : m ≤ 0; (obtain rfl : m = 0 := by omega); rfl; rw [if_neg e]]
    exact ⟨this.1, by rw [av_zero]; exact this.2.1, by rw [av_zero]; exact this.2.2.1, this.2.2.2⟩
  case round =>
    obtain ⟨k, hk, rfl, HT⟩ := hrel
    by_cases hlt : k < 15
    · have hlt' : (k : Int) + 1 ≤ 15 := by omega
      have c1 := HT.out.cellg (n := k) (by omega)
      have c2 := HT.out.cellh (n := k) (by omega)
      have hfz := HT.out.free (k + 1)
      have c3 := HT.out.cellg (n := k + 1) (by omega)
      rw [if_pos (Nat.le_refl _)] at c1
      rw [if_neg (by omega)] at c3
      have b1 := fi_top HL.out (n := k) (by omega)
      have b2 : cn l k ≤ 288 := by have := cn_le l k; have := HL.out.1; omega
      obtain ⟨x, HX⟩ : ∃ x : Nat, Hid (x = fi l k) := ⟨_, rfl⟩
      obtain ⟨y, HY⟩ : ∃ y : Nat, Hid (y = cn l k) := ⟨_, rfl⟩
      rw [← HX.out] at c1 b1
      rw [← HY.out] at c2 b2
      have e1 : (k : Int) + 1 - 1 = k := by omega
      have HR : Hid (∀ q, Tri w (fun n => (cn l n : Int)) (fun _ => 0) (fun m => if m ≤ k + 1 then (fi l m : Int) else 0) ((wr.drewN q).setCell ⟨w.heap.size + 1 + 1, k + 1, none⟩ (.int .i64 (((x : Int) + y) * 2)))) := fun q => by
        have := (HT.out.drewN q).set (n := k + 1) (by omega) (((x : Int) + y) * 2)
        refine ⟨this.1, this.2.1, ?_, this.2.2.2⟩
        rw [← fi_step, ← HX.out, ← HY.out]
        exact this.2.2.1
      clear HT
      go_wp2
      go_region
      go_wp2
      go_roundw
      case rel => exact ⟨k + 1, by omega, by go_num, HR.out 1⟩
      case measure => simp [intOf]; omega
    · obtain rfl : k = 15 := by omega
      have hlt' : ¬ ((15 : Nat) : Int) + 1 ≤ 15 := by omega
      have HT2 : Hid (Tri w (fun n => (cn l n : Int)) (fun _ => 0) (fun n => (fi l n : Int)) wr) := by
        have := HT.out
        refine ⟨this.1, this.2.1, ?_, this.2.2.2⟩
        rw [this.2.2.1, av_congr fun i hi => if_pos (show i ≤ 15 by omega)]
      clear HT
      have HC := hide HT2.out.2.2.1
      have HB := hide HT2.out.2.1
      have HO := hide (HT2.out.over (f' := fun n => (fi l n : Int)))
      clear HT2
      go_wp2_with (first | ((with_reducible refine wpList_loadP (w.heap.size + 1 + 1) _ ?hx HC.out ?_); case hx => rfl) | ((with_reducible refine wpList_storeP (w.heap.size + 1) (fun n => (fi l n : Int)) _ ?hx ?hy HB.out ?_); (case hx => rfl); (case hy => rfl)))
      (try simp only [Exit.inBlock, Exit.then])
      refine ret_per (p := 2) ?h1 (w.heap.size + 1) _ ?h2 HO.out.2.1 ?h3 ?_
      case h1 => rfl
      case h2 => rfl
      case h3 => rfl
      exact ⟨rfl, HO.out.2.2.2⟩
end Go.Proofs.YtmjdpfigkojolaaGreatDoor

namespace Go.Proofs.YtmjdpfigkojolaaGreatDoor
open Go.RowKit Go.Maps
set_option maxRecDepth 20000

theorem OI.get {w : World} {base : Nat} {v : Value} {l : List Int} (h : OI w base v l) {b : Nat} (hv : v.ownBlock = some b) {i : Nat} (hi : i < l.length) : w.cell? ⟨b, i, none⟩ = some (.int .i64 (l.getD i 0)) := by
  rcases h.2 with ⟨rfl, h0⟩ | ⟨g, cap, cur, rfl, h1, h2, h3, h4, h5, h6⟩
  · simp [Value.ownBlock] at hv
  · simp [Value.ownBlock] at hv
    subst hv
    have := World.ownsRow.cells h (g := g) rfl i (.int .i64 (l.getD i 0)) (by simp [hi])
    rwa [Addr.add_lit, Nat.zero_add] at this

theorem OI.put {w : World} {B : Nat} {v : Value} {l : List Int} (h : OI w B v l) {k : Nat} (hk : k < l.length) (m : Int) :
    ∃ g c, v = .slice (some ⟨g, 0, none⟩) l.length c ∧ (∃ u, w.cell? ⟨g, k, none⟩ = some u) ∧ w.frozen? ⟨g, k, none⟩ = false ∧ OI (w.setCell ⟨g, k, none⟩ (.int .i64 m)) B v (l.set k m) := by
  rcases h.2 with ⟨hv, h0⟩ | ⟨g, cap, cur, rfl, h1, h2, h3, h4, h5, h6⟩
  · omega
  · refine ⟨g, cap, rfl, ⟨_, h.get rfl hk⟩, frozen_of_row _ _ _ _ _ h2, ?_⟩
    unfold OI
    rw [List.length_set, List.map_set]
    refine ⟨by simp, .inr ⟨g, cap, _, rfl, h1, heap_setCell_same _ _ _ _ _ _ h2, h3, h4, by simpa using h5, ?_⟩⟩
    simp only [Array.toList_setIfInBounds, List.take_set]
    rw [h6]

theorem OI.form {w : World} {base : Nat} {v : Value} {l : List Int} (h : OI w base v l) (h0 : 0 < l.length) : ∃ g c, v = .slice (some ⟨g, 0, none⟩) l.length c ∧ base ≤ g ∧ g < w.heap.size ∧ l.length ≤ c ∧ c ≤ 9223372036854775807 := by
  rcases h.2 with ⟨hv, hz⟩ | ⟨g, cap, cur, rfl, h1, h2, h3, h4, h5, h6⟩
  · omega
  · unfold maxLen at h4
    exact ⟨g, cap, rfl, h1, (h.lt g rfl).2, h3, by omega⟩

end Go.Proofs.YtmjdpfigkojolaaGreatDoor

