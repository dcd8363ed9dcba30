import Derived.Laws.BitsLemmas
import Derived.Test.YtncniahpglgkmaaRows
import Derived.WalkKit
import Derived.ProofKit
import Derived.OpenShut
import Derived.ShutString
import Derived.ChangeOld
import Derived.Below
import Derived.WalkLawsBesides
import Derived.WalkSpells
import Derived.Deep.QuietTactic
import Derived.BigQuiet
import Derived.Laws.CopyOwn
import Derived.SizedLaws
import Derived.Maps.Own
import Derived.Laws.BytesArg
namespace Go.Proofs.Ytncniahpglgkmaa

/-- The n low bits, the lowest first. -/
def bts (v : Int) : Nat → List Int
  | 0 => []
  | n + 1 => v % 2 :: bts (v / 2) n

/-- The number that bits are, the first one of weight 1. -/
def val : List Int → Int
  | [] => 0
  | b :: l => b + 2 * val l

def Bit (l : List Int) : Prop := ∀ b ∈ l, b = 0 ∨ b = 1

def Byt (d : List Int) : Prop := ∀ i, 0 ≤ d.getD i 0 ∧ d.getD i 0 < 256

def unpack (d : List Int) : List Int := d.flatMap fun b => bts b 8

theorem pow_pos (n : Nat) : (0 : Int) < 2 ^ n := Int.pow_pos (by decide)

theorem pow_add1 (n : Nat) : (2 : Int) ^ (n + 1) = 2 * 2 ^ n := by rw [Int.pow_succ, Int.mul_comm]

theorem pow_le {a b : Nat} (h : a ≤ b) : (2 : Int) ^ a ≤ 2 ^ b := by
  have := Nat.pow_le_pow_right (n := 2) (by decide) h
  exact_mod_cast this

theorem length_bts (v : Int) (n : Nat) : (bts v n).length = n := by
  induction n generalizing v with
  | zero => rfl
  | succ n ih => simp [bts, ih]

theorem bit_bts (v : Int) (n : Nat) : Bit (bts v n) := by
  induction n generalizing v with
  | zero => intro b hb; simp [bts] at hb
  | succ n ih =>
    intro b hb
    simp only [bts, List.mem_cons] at hb
    rcases hb with rfl | hb
    · omega
    · exact ih _ b hb

theorem bts_zero (n : Nat) : bts 0 n = List.replicate n 0 := by
  induction n with
  | zero => rfl
  | succ n ih => simp [bts, ih, List.replicate_succ]

theorem Bit.cons {b : Int} {l : List Int} (h : Bit (b :: l)) : (b = 0 ∨ b = 1) ∧ Bit l := ⟨h b (by simp), fun x hx => h x (by simp [hx])⟩

theorem Bit.append {a b : List Int} (h : Bit a) (k : Bit b) : Bit (a ++ b) := fun x hx => by
  rcases List.mem_append.1 hx with hx | hx
  · exact h x hx
  · exact k x hx

theorem Bit.take {a : List Int} (h : Bit a) (n : Nat) : Bit (a.take n) := fun x hx => h x (List.mem_of_mem_take hx)

theorem Bit.drop {a : List Int} (h : Bit a) (n : Nat) : Bit (a.drop n) := fun x hx => h x (List.mem_of_mem_drop hx)

theorem bit_nil : Bit [] := fun x hx => by simp at hx

theorem bit_zeros (n : Nat) : Bit (List.replicate n 0) := fun _ hx => .inl (List.eq_of_mem_replicate hx)

theorem val_bound {l : List Int} (h : Bit l) : 0 ≤ val l ∧ val l < 2 ^ l.length := by
  induction l with
  | nil => simp [val]
  | cons b l ih =>
    obtain ⟨h0, h1⟩ := h.cons
    have := ih h1
    simp only [val, List.length_cons, pow_add1]
    omega

theorem val_bts (v : Int) (n : Nat) : val (bts v n) = v % 2 ^ n := by
  induction n generalizing v with
  | zero => simp [bts, val]
  | succ n ih =>
    simp only [bts, val, ih, pow_add1]
    have h1 : v % (2 * 2 ^ n) = v - (2 * 2 ^ n) * (v / (2 * 2 ^ n)) := by have := Int.mul_ediv_add_emod v (2 * 2 ^ n); omega
    have h2 : (v / 2) % 2 ^ n = v / 2 - 2 ^ n * (v / 2 / 2 ^ n) := by have := Int.mul_ediv_add_emod (v / 2) (2 ^ n); omega
    rw [Int.ediv_ediv_of_nonneg (by omega)] at h2
    rw [h1, h2, Int.mul_sub, ← Int.mul_assoc]
    have := Int.mul_ediv_add_emod v 2
    omega

theorem val_bts_in {v : Int} {n : Nat} (h0 : 0 ≤ v) (h1 : v < 2 ^ n) : val (bts v n) = v := by
  rw [val_bts, Int.emod_eq_of_lt h0 h1]

theorem bts_val {l : List Int} (h : Bit l) : bts (val l) l.length = l := by
  induction l with
  | nil => rfl
  | cons b l ih =>
    obtain ⟨h0, h1⟩ := h.cons
    simp only [List.length_cons, bts, val]
    rw [show (b + 2 * val l) % 2 = b by omega, show (b + 2 * val l) / 2 = val l by omega, ih h1]

theorem bts_split (v : Int) (a b : Nat) : bts v (a + b) = bts v a ++ bts (v / 2 ^ a) b := by
  induction a generalizing v with
  | zero => simp [bts]
  | succ a ih =>
    rw [show a + 1 + b = (a + b) + 1 by omega]
    simp only [bts, ih, List.cons_append]
    rw [Int.ediv_ediv_of_nonneg (by omega), pow_add1]

theorem bts_mod (v : Int) (n : Nat) : bts (v % 2 ^ n) n = bts v n := by
  have := bts_val (bit_bts v n)
  rw [val_bts, length_bts] at this
  exact this

theorem bts_join {r : Int} {h : Nat} (h0 : 0 ≤ r) (h1 : r < 2 ^ h) (x : Int) (n : Nat) : bts (r + x * 2 ^ h) (h + n) = bts r h ++ bts x n := by
  have hp := pow_pos h
  rw [bts_split]
  have e1 : (r + x * 2 ^ h) / 2 ^ h = x := by rw [Int.add_mul_ediv_right _ _ (by omega), Int.ediv_eq_zero_of_lt h0 h1]; omega
  have e2 : (r + x * 2 ^ h) % 2 ^ h = r := by rw [Int.add_mul_emod_self_right, Int.emod_eq_of_lt h0 h1]
  rw [e1, ← bts_mod (r + x * 2 ^ h) h, e2]

theorem bts_snoc (v : Int) (n : Nat) : bts v (n + 1) = bts v n ++ [v / 2 ^ n % 2] := by
  rw [bts_split]
  rfl

theorem bts_one {b : Int} (h : b = 0 ∨ b = 1) : bts b 1 = [b] := by
  simp only [bts]
  rcases h with rfl | rfl <;> rfl

theorem val_append (a b : List Int) : val (a ++ b) = val a + 2 ^ a.length * val b := by
  induction a with
  | nil => simp [val]
  | cons x a ih =>
    simp only [List.cons_append, val, ih, List.length_cons, pow_add1, Int.mul_add, Int.mul_assoc]
    omega

theorem val_drop {l : List Int} (h : Bit l) (s : Nat) : val (l.drop s) = val l / 2 ^ s := by
  induction s generalizing l with
  | zero => simp
  | succ s ih =>
    cases l with
    | nil => simp [val]
    | cons b l =>
      obtain ⟨h0, h1⟩ := h.cons
      rw [List.drop_succ_cons, ih h1, pow_add1, ← Int.ediv_ediv_of_nonneg (by omega)]
      simp only [val]
      rw [show (b + 2 * val l) / 2 = val l by omega]

theorem val_take {l : List Int} (h : Bit l) (n : Nat) : val (l.take n) = val l % 2 ^ n := by
  by_cases hn : n ≤ l.length
  · have e : l = l.take n ++ l.drop n := (List.take_append_drop n l).symm
    have hb := val_bound (h.take n)
    have el : (l.take n).length = n := by rw [List.length_take]; omega
    rw [el] at hb
    have e2 : val l = val (l.take n) + 2 ^ n * val (l.drop n) := by
      conv => lhs; rw [e]
      rw [val_append, el]
    rw [e2, Int.add_mul_emod_self_left, Int.emod_eq_of_lt hb.1 hb.2]
  · rw [List.take_of_length_le (by omega)]
    have hb := val_bound h
    have : (2 : Int) ^ l.length ≤ 2 ^ n := pow_le (by omega)
    rw [Int.emod_eq_of_lt hb.1 (by omega)]

theorem val_zeros (n : Nat) : val (List.replicate n 0) = 0 := by
  induction n with
  | zero => rfl
  | succ n ih => simp [List.replicate_succ, val, ih]

theorem unpack_nil : unpack [] = [] := rfl
theorem unpack_cons (b : Int) (d : List Int) : unpack (b :: d) = bts b 8 ++ unpack d := by simp [unpack]
theorem unpack_append (a b : List Int) : unpack (a ++ b) = unpack a ++ unpack b := by simp [unpack]
theorem unpack_one (b : Int) : unpack [b] = bts b 8 := by simp [unpack]

theorem length_unpack (d : List Int) : (unpack d).length = 8 * d.length := by
  induction d with
  | nil => rfl
  | cons b d ih => rw [unpack_cons, List.length_append, length_bts, ih, List.length_cons]; omega

theorem bit_unpack (d : List Int) : Bit (unpack d) := by
  induction d with
  | nil => exact bit_nil
  | cons b d ih => rw [unpack_cons]; exact (bit_bts _ _).append ih

theorem unpack_take (d : List Int) (k : Nat) : unpack (d.take k) = (unpack d).take (8 * k) := by
  by_cases hk : k ≤ d.length
  · conv => rhs; rw [← List.take_append_drop k d]
    rw [unpack_append, List.take_append_of_le_length (by rw [length_unpack, List.length_take]; omega)]
    exact (List.take_of_length_le (by rw [length_unpack, List.length_take]; omega)).symm
  · rw [List.take_of_length_le (by omega), List.take_of_length_le (by rw [length_unpack]; omega)]

theorem unpack_drop (d : List Int) (k : Nat) : unpack (d.drop k) = (unpack d).drop (8 * k) := by
  by_cases hk : k ≤ d.length
  · conv => rhs; rw [← List.take_append_drop k d]
    rw [unpack_append, List.drop_append_of_le_length (by rw [length_unpack, List.length_take]; omega)]
    rw [List.drop_of_length_le (l := unpack (d.take k)) (by rw [length_unpack, List.length_take]; omega)]
    rfl
  · rw [List.drop_of_length_le (by omega), List.drop_of_length_le (by rw [length_unpack]; omega)]
    rfl

theorem byt_cons {b : Int} {d : List Int} (h : Byt (b :: d)) : (0 ≤ b ∧ b < 256) ∧ Byt d :=
  ⟨by simpa using h 0, fun i => by have := h (i + 1); simpa using this⟩

theorem byt_cons_mk {b : Int} {d : List Int} (h0 : 0 ≤ b) (h1 : b < 256) (h : Byt d) : Byt (b :: d) := by
  intro i
  cases i with
  | zero => simpa using ⟨h0, h1⟩
  | succ i => simpa using h i

theorem byt_append {a b : List Int} (h : Byt a) (k : Byt b) : Byt (a ++ b) := by
  induction a with
  | nil => exact k
  | cons x a ih =>
    obtain ⟨h0, h1⟩ := byt_cons h
    exact byt_cons_mk h0.1 h0.2 (ih h1)

theorem byt_nil : Byt [] := fun i => by simp

theorem byt_one {b : Int} (h0 : 0 ≤ b) (h1 : b < 256) : Byt [b] := byt_cons_mk h0 h1 byt_nil

theorem byt_take {l : List Int} (h : Byt l) (k : Nat) : Byt (l.take k) := by
  intro i
  by_cases hi : i < k
  · have : (l.take k).getD i 0 = l.getD i 0 := by simp [List.getD, hi]
    rw [this]; exact h i
  · have : (l.take k).getD i 0 = 0 := by
      have e : (l.take k)[i]? = none := List.getElem?_eq_none (by rw [List.length_take]; omega)
      simp [List.getD, e]
    rw [this]; decide

theorem byt_drop {l : List Int} (h : Byt l) (k : Nat) : Byt (l.drop k) := by
  intro i
  have : (l.drop k).getD i 0 = l.getD (k + i) 0 := by simp [List.getD]
  rw [this]; exact h _

theorem Byt.get {d : List Int} (h : Byt d) {i : Nat} {x : Int} (hx : d[i]? = some x) : 0 ≤ x ∧ x < 256 := by
  have := h i
  rw [List.getD, hx] at this
  exact this

theorem bit_byt {l : List Int} (h : Bit l) : Byt l := by
  induction l with
  | nil => exact byt_nil
  | cons b l ih =>
    obtain ⟨h0, h1⟩ := h.cons
    exact byt_cons_mk (by omega) (by omega) (ih h1)

theorem unpack_inj {a b : List Int} (ha : Byt a) (hb : Byt b) (h : unpack a = unpack b) : a = b := by
  induction a generalizing b with
  | nil =>
    have := congrArg List.length h
    rw [length_unpack, length_unpack] at this
    exact (List.eq_nil_of_length_eq_zero (by simp at this; omega)).symm
  | cons x a ih =>
    cases b with
    | nil =>
      have := congrArg List.length h
      rw [length_unpack, length_unpack] at this
      simp at this
    | cons y b =>
      rw [unpack_cons, unpack_cons] at h
      obtain ⟨h1, h2⟩ := List.append_inj h (by rw [length_bts, length_bts])
      obtain ⟨x0, xa⟩ := byt_cons ha
      obtain ⟨y0, yb⟩ := byt_cons hb
      have e := congrArg val h1
      rw [val_bts_in x0.1 (by omega), val_bts_in y0.1 (by omega)] at e
      rw [e, ih xa yb h2]

/-- How a row of bits lies in bytes. -/
structure Lies (row d : List Int) (r : Int) (h : Nat) : Prop where
  e : row = unpack d ++ bts r h
  b : Byt d
  r0 : 0 ≤ r
  r1 : r < 2 ^ h
  h8 : h < 8

theorem Lies.len {row d : List Int} {r : Int} {h : Nat} (k : Lies row d r h) : row.length = 8 * d.length + h := by
  rw [k.e, List.length_append, length_unpack, length_bts]

theorem Lies.bit {row d : List Int} {r : Int} {h : Nat} (k : Lies row d r h) : Bit row := by
  rw [k.e]; exact (bit_unpack _).append (bit_bts _ _)

theorem lies_nil : Lies [] [] 0 0 := ⟨rfl, byt_nil, by omega, by simp, by omega⟩

/-- The bytes of a row. -/
def tail (r : Int) (h : Nat) : List Int := if h = 0 then [] else [r]

def pad (row : List Int) : List Int := row ++ List.replicate ((row.length + 7) / 8 * 8 - row.length) 0

theorem length_pad (row : List Int) : (pad row).length = (row.length + 7) / 8 * 8 := by
  simp only [pad, List.length_append, List.length_replicate]
  omega

theorem bit_pad {row : List Int} (h : Bit row) : Bit (pad row) := h.append (bit_zeros _)

theorem pow_lt256 {r : Int} {h : Nat} (h8 : h < 8) (hr : r < 2 ^ h) : r < 256 := by
  have : (2 : Int) ^ h ≤ 2 ^ 8 := pow_le (by omega)
  omega

theorem Lies.unpack {row d : List Int} {r : Int} {h : Nat} (k : Lies row d r h) : unpack (d ++ tail r h) = pad row ∧ Byt (d ++ tail r h) := by
  obtain ⟨rfl, hb, h0, h1, h8⟩ := k
  unfold tail pad
  by_cases e : h = 0
  · subst e
    simp only [bts, List.append_nil, if_true]
    rw [length_unpack, show (8 * d.length + 7) / 8 * 8 - 8 * d.length = 0 by omega]
    exact ⟨by simp, hb⟩
  · rw [if_neg e]
    refine ⟨?_, byt_append hb (byt_one h0 (pow_lt256 h8 h1))⟩
    rw [unpack_append, unpack_one, List.length_append, length_unpack, length_bts, show (8 * d.length + h + 7) / 8 * 8 - (8 * d.length + h) = 8 - h by omega, List.append_assoc]
    congr 1
    rw [show (8 : Nat) = h + (8 - h) by omega, bts_split, Int.ediv_eq_zero_of_lt h0 h1, bts_zero]
    simp

/-- Two ways to lie are one. -/
theorem Lies.same {row d d' : List Int} {r r' : Int} {h h' : Nat} (k : Lies row d r h) (k' : Lies row d' r' h') : d ++ tail r h = d' ++ tail r' h' :=
  unpack_inj k.unpack.2 k'.unpack.2 (k.unpack.1.trans k'.unpack.1.symm)

/-- Bits more. -/
theorem Lies.put {row d : List Int} {r : Int} {h : Nat} (k : Lies row d r h) {b : Int} (hb : b = 0 ∨ b = 1) : Lies (row ++ [b]) (if h = 7 then d ++ [r + b * 2 ^ h] else d) (if h = 7 then 0 else r + b * 2 ^ h) (if h = 7 then 0 else h + 1) := by
  obtain ⟨rfl, hd, h0, h1, h8⟩ := k
  have hp := pow_pos h
  have hr : 0 ≤ r + b * 2 ^ h ∧ r + b * 2 ^ h < 2 ^ (h + 1) := by rw [pow_add1]; rcases hb with rfl | rfl <;> omega
  have hj := bts_join h0 h1 b 1
  rw [bts_one hb] at hj
  by_cases e : h = 7
  · subst e
    simp only [if_true]
    refine ⟨?_, byt_append hd (byt_one hr.1 (by have := hr.2; omega)), by omega, by decide, by omega⟩
    rw [List.append_assoc, ← hj, unpack_append, unpack_one]
    simp [bts]
  · simp only [if_neg e]
    exact ⟨by rw [List.append_assoc, ← hj], hd, hr.1, hr.2, by omega⟩

theorem lies_ex {row : List Int} (hb : Bit row) : ∃ d r h, Lies row d r h := by
  obtain ⟨n, hn⟩ : ∃ n, row.length = n := ⟨_, rfl⟩
  induction n generalizing row with
  | zero => obtain rfl := List.eq_nil_of_length_eq_zero hn; exact ⟨_, _, _, lies_nil⟩
  | succ n ih =>
    have e : row = row.take n ++ [row[n]] := by
      conv => lhs; rw [← List.take_of_length_le (l := row) (i := n + 1) (by omega)]
      rw [List.take_succ_eq_append_getElem (by omega)]
    obtain ⟨d, r, h, k⟩ := ih (hb.take n) (by rw [List.length_take]; omega)
    rw [e]
    exact ⟨_, _, _, k.put (hb _ (List.getElem_mem _))⟩

noncomputable def pack (row : List Int) : List Int := by
  classical
  exact if h : ∃ t, ∃ d r h, Lies row d r h ∧ t = d ++ tail r h then h.choose else []

theorem Lies.pack {row d : List Int} {r : Int} {h : Nat} (k : Lies row d r h) : pack row = d ++ tail r h := by
  have hex : ∃ t, ∃ d r h, Lies row d r h ∧ t = d ++ tail r h := ⟨_, d, r, h, k, rfl⟩
  unfold Proofs.Ytncniahpglgkmaa.pack
  rw [dif_pos hex]
  obtain ⟨d', r', h', k', e⟩ := hex.choose_spec
  rw [e]
  exact k'.same k

theorem unpack_pack {row : List Int} (hb : Bit row) : unpack (pack row) = pad row ∧ Byt (pack row) := by
  obtain ⟨d, r, h, k⟩ := lies_ex hb
  rw [k.pack]
  exact k.unpack

theorem length_pack {row : List Int} (hb : Bit row) : (pack row).length = (row.length + 7) / 8 := by
  have := congrArg List.length (unpack_pack hb).1
  rw [length_unpack, length_pad] at this
  omega

theorem pack_nil : pack [] = [] := lies_nil.pack

theorem lies_unpack {d : List Int} (h : Byt d) : Lies (unpack d) d 0 0 := ⟨by simp [bts], h, by omega, by decide, by omega⟩

theorem pack_unpack {d : List Int} (h : Byt d) : pack (unpack d) = d := by
  rw [(lies_unpack h).pack]
  simp [tail]

/-- The bytes of a row with one bit more. -/
theorem pack_snoc {row : List Int} (hb : Bit row) {b : Int} (h : b = 0 ∨ b = 1) :
    (row.length % 8 = 0 → pack (row ++ [b]) = pack row ++ [b]) ∧
    (row.length % 8 ≠ 0 → ∃ x, (pack row)[row.length / 8]? = some x ∧ pack (row ++ [b]) = (pack row).set (row.length / 8) (x + b * 2 ^ (row.length % 8)) ∧ 0 ≤ x ∧ x + b * 2 ^ (row.length % 8) < 256) := by
  obtain ⟨d, r, n, k⟩ := lies_ex hb
  have k2 := k.put h
  have hl := k.len
  rw [k2.pack, k.pack]
  have hn := k.h8
  refine ⟨fun h0 => ?_, fun h0 => ?_⟩
  · obtain rfl : n = 0 := by omega
    have : r = 0 := by have := k.r0; have := k.r1; omega
    subst this
    simp [tail]
  · have hn0 : n ≠ 0 := by omega
    have e1 : row.length / 8 = d.length := by omega
    have e2 : row.length % 8 = n := by omega
    have hr : r + b * 2 ^ n < 2 ^ (n + 1) := by
      rw [pow_add1]
      have := k.r1
      have := pow_pos n
      rcases h with rfl | rfl <;> omega
    have h256 : (2 : Int) ^ (n + 1) ≤ 2 ^ 8 := pow_le (by omega)
    rw [e1, e2]
    refine ⟨r, by simp [tail, hn0], ?_, k.r0, by omega⟩
    by_cases e : n = 7
    · subst e
      simp [tail]
    · simp [tail, hn0, e]

/-- Bytes read as one number are the number of their bits. -/
def le : List Int → Int
  | [] => 0
  | b :: r => b + 256 * le r

theorem le_append (a : List Int) (c : Int) : le (a ++ [c]) = le a + 256 ^ a.length * c := by
  induction a with
  | nil => simp [le]
  | cons b r ih => simp only [List.cons_append, le, ih, List.length_cons, Int.pow_succ, Int.mul_add]; rw [Int.add_assoc, Int.mul_comm (256 ^ r.length) 256, Int.mul_assoc]

theorem le_take {l : List Int} {k : Nat} (h : k < l.length) : le (l.take (k + 1)) = le (l.take k) + 256 ^ k * l.getD k 0 := by
  rw [List.take_succ_eq_append_getElem h, le_append, List.length_take, Nat.min_eq_left (by omega)]
  simp [List.getD, h]

theorem le_bound {l : List Int} (h : Byt l) : 0 ≤ le l ∧ le l < 256 ^ l.length := by
  induction l with
  | nil => simp [le]
  | cons b r ih =>
    obtain ⟨h0, h1⟩ := byt_cons h
    have hr := ih h1
    simp only [le, List.length_cons, Int.pow_succ]
    omega

theorem le_unpack {l : List Int} (h : Byt l) : val (unpack l) = le l := by
  induction l with
  | nil => rfl
  | cons b r ih =>
    obtain ⟨h0, h1⟩ := byt_cons h
    rw [unpack_cons, val_append, length_bts, ih h1, val_bts_in h0.1 (by omega)]
    rfl

/-- What lies ahead in a row. -/
def ahead (row : List Int) (p n : Nat) : Int := val ((row.drop p).take n)

theorem ahead_bound {row : List Int} (h : Bit row) (p n : Nat) : 0 ≤ ahead row p n ∧ ahead row p n < 2 ^ n := by
  have h1 := val_bound ((h.drop p).take n)
  have h2 : (2 : Int) ^ ((row.drop p).take n).length ≤ 2 ^ n := pow_le (by rw [List.length_take]; omega)
  unfold ahead
  omega

theorem ahead_bytes {d : List Int} (hd : Byt d) (p n : Nat) (t : Nat) (ht : t = min ((p + n + 7) / 8) d.length) (hp : p ≤ 8 * d.length) :
    le ((d.drop (p / 8)).take (t - p / 8)) / 2 ^ (p % 8) % 2 ^ n = ahead (unpack d) p n := by
  rw [← le_unpack (byt_take (byt_drop hd _) _), unpack_take, unpack_drop]
  have hb := bit_unpack d
  rw [← val_drop ((hb.drop _).take _), ← val_take (((hb.drop _).take _).drop _)]
  unfold ahead
  congr 1
  rw [List.drop_take, List.drop_drop, List.take_take, show 8 * (p / 8) + p % 8 = p by omega]
  by_cases h : n ≤ 8 * (t - p / 8) - p % 8
  · rw [Nat.min_eq_left h]
  · rw [Nat.min_eq_right (by omega)]
    have hl : ((unpack d).drop p).length = 8 * d.length - p := by rw [List.length_drop, length_unpack]
    rw [List.take_of_length_le (by rw [hl]; omega), List.take_of_length_le (by rw [hl]; omega)]
end Go.Proofs.Ytncniahpglgkmaa

namespace Go.Proofs.Ytncniahpglgkmaa
open Go.RowKit

def SB (w : World) (v : Value) (l : List Int) : Prop :=
  ∃ ao cap, v = .slice ao l.length cap ∧ l.length ≤ cap ∧ cap ≤ maxLen ∧ (ao = none → cap = 0) ∧ ∀ x, ao = some x → ∀ i, i < l.length → w.cell? (x.add i) = some (.int .u8 (l.getD i 0))

def OB (w : World) (base : Nat) (v : Value) (l : List Int) : Prop := w.ownsRow base 5 1 v l.length (l.map (Value.int .u8))

theorem hide {p : Prop} (h : p) : Hid p := h
theorem unhide {p : Prop} (h : Hid p) : p := h

theorem add_block (x : Addr) (i : Nat) : (x.add i).block = x.block := by unfold Addr.add; split <;> rfl

theorem SB.move {w w' : World} {v : Value} {l : List Int} (h : SB w v l) (hc : ∀ a u, w.cell? a = some u → v.ownBlock = some a.block → w'.cell? a = some u) : SB w' v l := by
  obtain ⟨ao, cap, rfl, h1, h2, h3, h4⟩ := h
  refine ⟨ao, cap, rfl, h1, h2, h3, fun x hx i hi => hc _ _ (h4 x hx i hi) ?_⟩
  subst hx; simp [Value.ownBlock, add_block]

theorem SB.below {w w' : World} {v : Value} {l : List Int} (h : SB w v l) (hb : Below w.heap.size w w') : SB w' v l :=
  h.move fun a _ ha _ => (hb.cell (World.block_lt_of_cell? w a ha)).trans ha

theorem OB.lt {w : World} {base : Nat} {v : Value} {l : List Int} (h : OB w base v l) : ∀ k, v.ownBlock = some k → base ≤ k ∧ k < w.heap.size := World.ownsRow.lt h

theorem OB.sb {w : World} {base : Nat} {v : Value} {l : List Int} (h : OB w base v l) : SB w v l := by
  have hc := @World.ownsRow.cells _ _ _ _ _ _ _ h
  rcases h.2 with ⟨rfl, h0⟩ | ⟨g, cap, cur, rfl, _, _, h3, h4, _, _⟩
  · obtain rfl : l = [] := List.eq_nil_of_length_eq_zero h0
    exact ⟨none, 0, rfl, Nat.le_refl _, Nat.zero_le _, fun _ => rfl, fun x hx => by cases hx⟩
  · refine ⟨some ⟨g, 0, none⟩, cap, rfl, h3, h4, (fun e => by cases e), fun x hx i hi => ?_⟩
    cases hx
    refine hc (g := g) rfl i _ ?_
    simp [hi]

theorem OB.shape {w : World} {base : Nat} {v : Value} {l : List Int} (h : OB w base v l) : ∃ a c, v = .slice a l.length c := by
  rcases h.2 with ⟨rfl, h0⟩ | ⟨g, cap, cur, rfl, _⟩
  · exact ⟨none, 0, by rw [h0]⟩
  · exact ⟨_, _, rfl⟩

theorem OB.move {w w' : World} {base : Nat} {v : Value} {l : List Int} (h : OB w base v l) (hb : ∀ k, v.ownBlock = some k → w'.heap[k]? = w.heap[k]?) : OB w' base v l := by
  refine ⟨h.1, ?_⟩
  rcases h.2 with h2 | ⟨g, cap, cur, rfl, h1, h2, r⟩
  · exact .inl h2
  · exact .inr ⟨g, cap, cur, rfl, h1, (hb g rfl).trans h2, r⟩

theorem OB.base {w : World} {base base' : Nat} {v : Value} {l : List Int} (h : OB w base v l) (hb : base' ≤ base) : OB w base' v l := by
  refine ⟨h.1, ?_⟩
  rcases h.2 with h2 | ⟨g, cap, cur, rfl, h1, r⟩
  · exact .inl h2
  · exact .inr ⟨g, cap, cur, rfl, Nat.le_trans hb h1, r⟩

theorem OB.below {w w' : World} {base B : Nat} {v : Value} {l : List Int} (h : OB w base v l) (hb : Below B w w') (hB : w.heap.size ≤ B) : OB w' base v l :=
  h.move fun k hk => hb.block k (Nat.lt_of_lt_of_le (h.lt k hk).2 hB)

theorem size_alloc' (w : World) (o : Obj) : (w.alloc o).heap.size = w.heap.size + 1 := by simp

theorem heap_two (w : World) (o p : Obj) : ((w.alloc o).alloc p).heap[w.heap.size + 1]? = some p ∧ ((w.alloc o).alloc p).heap[w.heap.size]? = some o := by
  have e := heap_alloc_new (w.alloc o) p
  rw [size_alloc'] at e
  exact ⟨e, (Below.heap_alloc (w.alloc o) p w.heap.size (by rw [size_alloc']; omega)).trans (heap_alloc_new w o)⟩

theorem info5 : (Try.prog.info? 5).map (fun i => (i.zero, i.size, i.bytes)) = some (some (.int .u8 0), 1, 1) := by kernel_rfl

theorem madeBytes (n : Nat) : (madeCells #[Value.int .u8 0] n).toList = List.replicate n (Value.int .u8 0) := by
  have e : ∀ k : Nat, [Value.int IntKind.u8 0][k % 1]?.getD default = Value.int .u8 0 := fun k => by simp [Nat.mod_one]
  simp only [madeCells]
  simp [e, List.map_const']

theorem ownsRow_full {w : World} {base g n : Nat} {xs : List Value} (h : w.ownsRow base 5 1 (.slice (some ⟨g, 0, none⟩) n n) n xs) : w.heap[g]? = some (.cells xs.toArray 5 (0, 0)) ∧ base ≤ g := by
  obtain ⟨hl, h | ⟨g', cap, cur, he, hb, hg, _, _, hs, ht⟩⟩ := h
  · exact absurd h.1 (by simp)
  · simp only [Value.slice.injEq, Option.some.injEq, Addr.mk.injEq] at he
    obtain ⟨⟨rfl, -, -⟩, -, rfl⟩ := he
    have : cur = xs.toArray := by
      apply Array.ext'
      rw [← ht, List.take_of_length_le (by simp [hs])]
    exact ⟨by rw [hg, this], hb⟩

theorem OB.of_full {w : World} {base g : Nat} {l : List Int} (hg : w.heap[g]? = some (.cells (l.map (Value.int .u8)).toArray 5 (0, 0))) (hb : base ≤ g) (hm : l.length ≤ maxLen) : OB w base (.slice (some ⟨g, 0, none⟩) l.length l.length) l :=
  ⟨by simp, .inr ⟨g, l.length, _, rfl, hb, hg, Nat.le_refl _, hm, by simp, List.take_of_length_le (by simp)⟩⟩

theorem splice_all {α : Type} (L cs : List α) (h : cs.length = L.length) : splice L 0 cs = cs := by
  simp [splice, h]

theorem addr_lit {w : World} {x : Addr} {u : Value} (h : w.cell? (x.add 0) = some u) : ∃ b o, x = ⟨b, o, none⟩ := by
  have hs := World.cell?_spot h
  obtain ⟨b, o, s⟩ := x
  refine ⟨b, o, ?_⟩
  unfold Addr.add at hs
  cases s with
  | none => rfl
  | some q => simp at hs

theorem take_step {l1 l2 : List Int} {k : Nat} (h1 : k < l1.length) (hl : l1.length = l2.length) (ht : l1.take k = l2.take k) :
    (l1.getD k 0 = l2.getD k 0 → l1.take (k + 1) = l2.take (k + 1)) ∧ (l1.getD k 0 ≠ l2.getD k 0 → l1 ≠ l2) := by
  refine ⟨fun h => ?_, fun h e => h (by rw [e])⟩
  have e1 : l1.getD k 0 = l1[k] := by simp [h1]
  have e2 : l2.getD k 0 = l2[k]'(by omega) := by simp [show k < l2.length by omega]
  rw [e1, e2] at h
  rw [List.take_succ_eq_append_getElem h1, List.take_succ_eq_append_getElem (by omega), ht, h]

theorem size_setCell (w : World) (a : Addr) (u : Value) : (w.setCell a u).heap.size = w.heap.size := by simp [World.setCell]

theorem setCell_others (w : World) (g o : Nat) (u : Value) : ∀ k, k ≠ g → (w.setCell ⟨g, o, none⟩ u).heap[k]? = w.heap[k]? := fun k hk => Below.heap_setCell w _ u k hk

end Go.Proofs.Ytncniahpglgkmaa

