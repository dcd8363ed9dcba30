import Derived.Test.YtegoienjikjhkaaDoorGA25
import Derived.Test.YtegoienjikjhkaaDoorGA00
namespace Go.Proofs.YtegoienjikjhkaaDoor
open Go.RowKit Go.Maps
set_option maxRecDepth 20000

def takeOk (row : List Int) (p : Nat) (n : Int) : Prop := Cnt n ∧ n ≤ (row.length : Int) - p
instance (row : List Int) (p : Nat) (n : Int) : Decidable (takeOk row p n) := by unfold takeOk; exact inferInstance
def takeE (row : List Int) (p : Nat) (n : Int) : Int := if Cnt n then (if n ≤ (row.length : Int) - p then 0 else 30) else 1
def takeV (row : List Int) (p : Nat) (n : Int) : Int := if takeOk row p n then ahead row p n.toNat else 0
def takeP (row : List Int) (p : Nat) (n : Int) : Nat := if takeOk row p n then p + n.toNat else p

theorem rdtake_any {w : World} {K : Nat → Nat} {g : Nat} {row : List Int} {p : Nat} (h : Rp w K g row p) (n : Int) :
    Calls Tryd.prog 58 #[.pointer (some ⟨g, 0, none⟩), .int .i64 n] w fun e w' => e = .returned (.tuple #[.int .u32 (takeV row p n), .int .i64 (takeE row p n)]) ∧ Rp w' K g row (takeP row p n) ∧ Fr K K w w' := by
  have H := hide h
  have hle := h.le
  obtain ⟨v, d, h1, -⟩ := h
  have c1 : ∀ q, (w.drewN q).cell? ⟨g, 1, none⟩ = some (.int .i64 p) := fun q => h1.cell 1
  have cf : ∀ q, (w.drewN q).frozen? ⟨g, 1, none⟩ = false := fun q => h1.free 1
  clear h1
  by_cases hc : Cnt n
  case neg =>
    have HE : Hid (takeE row p n = 1 ∧ takeV row p n = 0 ∧ takeP row p n = p) := ⟨if_neg hc, if_neg fun h => hc h.1, if_neg fun h => hc h.1⟩
    have HC : Hid (decide (Cnt n) = false) := decide_eq_false hc
    clear hc c1 cf
    go_enter Tryd.func58, Tryd.ntmps58
    go_wp2_with fail
    refine (countable_any _ _).mono ?_
    rintro e w' ⟨rfl, rfl⟩
    rw [HC.out]
    go_wp2
    go_ret2
    rw [HE.out.1, HE.out.2.1, HE.out.2.2]
    exact ⟨rfl, H.out, Fr.refl _ _⟩
  case pos =>
  have HC : Hid (decide (Cnt n) = true) := decide_eq_true hc
  by_cases hl : n ≤ (row.length : Int) - p
  case neg =>
    have HE : Hid (takeE row p n = 30 ∧ takeV row p n = 0 ∧ takeP row p n = p) := ⟨by show (if _ then _ else _) = _; rw [if_pos hc, if_neg hl], if_neg fun h => hl h.2, if_neg fun h => hl h.2⟩
    clear hc c1 cf
    go_enter Tryd.func58, Tryd.ntmps58
    go_wp2_with fail
    refine (countable_any _ _).mono ?_
    rintro e w' ⟨rfl, rfl⟩
    rw [HC.out]
    go_wp2_with fail
    refine (rdleft_any H.out).mono ?_
    rintro e w1 ⟨rfl, q, rfl⟩
    go_wp2
    go_ret2
    rw [HE.out.1, HE.out.2.1, HE.out.2.2]
    exact ⟨rfl, H.out.drewN _, (Fr.refl _ _).drewN _⟩
  case pos =>
    have HE : Hid (takeE row p n = 0 ∧ takeV row p n = ahead row p n.toNat ∧ takeP row p n = p + n.toNat) := ⟨by show (if _ then _ else _) = _; rw [if_pos hc, if_pos hl], if_pos ⟨hc, hl⟩, if_pos ⟨hc, hl⟩⟩
    obtain ⟨n0, n1⟩ := hc
    obtain ⟨m, rfl⟩ : ∃ m : Nat, n = m := ⟨n.toNat, by omega⟩
    have HM : Hid (∀ q, Rp ((w.drewN q).setCell ⟨g, 1, none⟩ (.int .i64 ((p : Int) + m))) K g row (p + m) ∧ Fr K K w ((w.drewN q).setCell ⟨g, 1, none⟩ (.int .i64 ((p : Int) + m)))) := fun q => by
      obtain ⟨a1, a2⟩ := (H.out.drewN q).move (p + m) ((p : Int) + m) (by omega) (by omega)
      exact ⟨a1, ((Fr.refl _ _).drewN q).trans a2⟩
    go_enter Tryd.func58, Tryd.ntmps58
    go_wp2_with fail
    refine (countable_any _ _).mono ?_
    rintro e w' ⟨rfl, rfl⟩
    rw [HC.out]
    go_wp2_with fail
    refine (rdleft_any H.out).mono ?_
    rintro e w1 ⟨rfl, q, rfl⟩
    go_wp2_with fail
    refine (ahead_any (H.out.drewN q) m (by omega)).mono ?_
    rintro e w1 ⟨rfl, q2, rfl⟩
    go_wp2
    go_ret2
    rw [HE.out.1, HE.out.2.1, HE.out.2.2]
    exact ⟨rfl, HM.out _⟩

def peekV (row : List Int) (p : Nat) (n : Int) : Int := if Cnt n then ahead row p n.toNat else 0
def peekK (row : List Int) (p : Nat) (n : Int) : Int := if Cnt n then min n ((row.length : Int) - p) else 0

theorem rdpeek_any {w : World} {K : Nat → Nat} {g : Nat} {row : List Int} {p : Nat} (h : Rp w K g row p) (n : Int) :
    Calls Tryd.prog 86 #[.pointer (some ⟨g, 0, none⟩), .int .i64 n] w fun e w' => e = .returned (.tuple #[.int .u32 (peekV row p n), .int .i64 (peekK row p n)]) ∧ ∃ q, w' = w.drewN q := by
  have H := hide h
  have hle := h.le
  clear h
  by_cases hc : Cnt n
  case neg =>
    have HE : Hid (peekV row p n = 0 ∧ peekK row p n = 0) := ⟨if_neg hc, if_neg hc⟩
    have HC : Hid (decide (Cnt n) = false) := decide_eq_false hc
    clear hc
    go_enter Tryd.func86, Tryd.ntmps86
    go_wp2_with fail
    refine (countable_any _ _).mono ?_
    rintro e w' ⟨rfl, rfl⟩
    rw [HC.out]
    go_wp2
    go_ret2
    rw [HE.out.1, HE.out.2]
    exact ⟨rfl, 0, rfl⟩
  case pos =>
    have HC : Hid (decide (Cnt n) = true) := decide_eq_true hc
    have HE : Hid (peekV row p n = ahead row p n.toNat ∧ peekK row p n = min n ((row.length : Int) - p)) := ⟨if_pos hc, if_pos hc⟩
    obtain ⟨n0, n1⟩ := hc
    obtain ⟨m, rfl⟩ : ∃ m : Nat, n = m := ⟨n.toNat, by omega⟩
    go_enter Tryd.func86, Tryd.ntmps86
    go_wp2_with fail
    refine (countable_any _ _).mono ?_
    rintro e w' ⟨rfl, rfl⟩
    rw [HC.out]
    go_wp2_with fail
    refine (ahead_any H.out m (by omega)).mono ?_
    rintro e w1 ⟨rfl, q2, rfl⟩
    go_wp2_with fail
    refine (rdleft_any (H.out.drewN q2)).mono ?_
    rintro e w1 ⟨rfl, q, rfl⟩
    go_wp2
    all_goals go_ret2
    all_goals rw [HE.out.1, HE.out.2]
    all_goals refine ⟨?_, _, rfl⟩
    all_goals first
      | (rw [show min (m : Int) ((row.length : Int) - p) = (m : Int) by omega]; rfl)
      | (rw [show min (m : Int) ((row.length : Int) - p) = (row.length : Int) - p by omega]; rfl)

def skipE (row : List Int) (p : Nat) (n : Int) : Int := if n < 0 then 1 else if n ≤ (row.length : Int) - p then 0 else 30
def skipP (row : List Int) (p : Nat) (n : Int) : Nat := if n < 0 then p else if n ≤ (row.length : Int) - p then p + n.toNat else p

theorem rdskip_any {w : World} {K : Nat → Nat} {g : Nat} {row : List Int} {p : Nat} (h : Rp w K g row p) (n : Int) :
    Calls Tryd.prog 88 #[.pointer (some ⟨g, 0, none⟩), .int .i64 n] w fun e w' => e = .returned (.int .i64 (skipE row p n)) ∧ Rp w' K g row (skipP row p n) ∧ Fr K K w w' := by
  have H := hide h
  have hle := h.le
  obtain ⟨v, d, h1, -⟩ := h
  have c1 : ∀ q, (w.drewN q).cell? ⟨g, 1, none⟩ = some (.int .i64 p) := fun q => h1.cell 1
  have cf : ∀ q, (w.drewN q).frozen? ⟨g, 1, none⟩ = false := fun q => h1.free 1
  clear h1
  by_cases hn : n < 0
  · have HE : Hid (skipE row p n = 1 ∧ skipP row p n = p) := ⟨if_pos hn, if_pos hn⟩
    clear c1 cf
    go_enter Tryd.func88, Tryd.ntmps88
    go_wp2
    go_ret
    rw [HE.out.1, HE.out.2]
    exact ⟨rfl, H.out, Fr.refl _ _⟩
  by_cases hl : n ≤ (row.length : Int) - p
  · have HE : Hid (skipE row p n = 0 ∧ skipP row p n = p + n.toNat) := ⟨by show (if _ then _ else _) = _; rw [if_neg hn, if_pos hl], by show (if _ then _ else _) = _; rw [if_neg hn, if_pos hl]⟩
    obtain ⟨m, rfl⟩ : ∃ m : Nat, n = m := ⟨n.toNat, by omega⟩
    have HM : Hid (∀ q, Rp ((w.drewN q).setCell ⟨g, 1, none⟩ (.int .i64 ((p : Int) + m))) K g row (p + m) ∧ Fr K K w ((w.drewN q).setCell ⟨g, 1, none⟩ (.int .i64 ((p : Int) + m)))) := fun q => by
      obtain ⟨a1, a2⟩ := (H.out.drewN q).move (p + m) ((p : Int) + m) (by omega) (by omega)
      exact ⟨a1, ((Fr.refl _ _).drewN q).trans a2⟩
    go_enter Tryd.func88, Tryd.ntmps88
    go_wp2_with fail
    refine (rdleft_any H.out).mono ?_
    rintro e w1 ⟨rfl, q, rfl⟩
    go_wp2
    go_ret
    rw [HE.out.1, HE.out.2]
    exact ⟨rfl, HM.out _⟩
  · have HE : Hid (skipE row p n = 30 ∧ skipP row p n = p) := ⟨by show (if _ then _ else _) = _; rw [if_neg hn, if_neg hl], by show (if _ then _ else _) = _; rw [if_neg hn, if_neg hl]⟩
    clear c1 cf
    go_enter Tryd.func88, Tryd.ntmps88
    go_wp2_with fail
    refine (rdleft_any H.out).mono ?_
    rintro e w1 ⟨rfl, q, rfl⟩
    go_wp2
    go_ret
    rw [HE.out.1, HE.out.2]
    exact ⟨rfl, H.out.drewN _, (Fr.refl _ _).drewN _⟩

def algn (p : Nat) : Nat := (p + 7) / 8 * 8

def rrawE (row : List Int) (p : Nat) (n : Int) : Int := if n < 0 then 1 else if p % 8 ≠ 0 then 31 else if n ≤ ((row.length : Int) - p) / 8 then 0 else 30
noncomputable def rrawL (row : List Int) (p : Nat) (n : Int) : List Int := if rrawE row p n = 0 then pack ((row.drop p).take (8 * n.toNat)) else []
def rrawP (row : List Int) (p : Nat) (n : Int) : Nat := if rrawE row p n = 0 then p + 8 * n.toNat else p

end Go.Proofs.YtegoienjikjhkaaDoor

namespace Go.Proofs.YtegoienjikjhkaaDoor
open Go.RowKit Go.Maps
set_option maxRecDepth 20000

theorem tmod_pos {k n : Int} (h : 0 ≤ k) : k.tmod n = k % n := Int.tmod_eq_emod_of_nonneg h

theorem tmod_neg {k n : Int} (hn : 0 < n) (h : k < 0) : (k.tmod n < 0 → k.tmod n + n = k % n) ∧ (¬ k.tmod n < 0 → k.tmod n = k % n) := by
  have h1 := Int.emod_nonneg k (show n ≠ 0 by omega)
  have h2 := Int.emod_lt_of_pos k hn
  have e : k.tmod n = -((-k) % n) := by
    have h5 := Int.tmod_eq_emod_of_nonneg (a := -k) (b := n) (by omega)
    have := Int.neg_tmod (-k) n
    rw [Int.neg_neg, h5] at this
    exact this
  have h3 := Int.emod_nonneg (-k) (show n ≠ 0 by omega)
  have h4 := Int.emod_lt_of_pos (-k) hn
  have d1 := Int.mul_ediv_add_emod k n
  have d2 := Int.mul_ediv_add_emod (-k) n
  have key : k % n = (if (-k) % n = 0 then 0 else n - (-k) % n) := by
    by_cases hz : (-k) % n = 0
    · rw [if_pos hz]
      have : k = n * (-((-k) / n)) := by rw [Int.mul_neg]; omega
      rw [this, Int.mul_emod_right]
    · rw [if_neg hz]
      have : k = (n - (-k) % n) + n * (-((-k) / n) - 1) := by rw [Int.mul_sub, Int.mul_neg]; omega
      conv => lhs; rw [this]
      rw [Int.add_mul_emod_self_left, Int.emod_eq_of_lt (by omega) (by omega)]
  rw [e, key]
  refine ⟨fun h => ?_, fun h => ?_⟩
  · rw [if_neg (by omega)]; omega
  · rw [if_pos (by omega)]; omega

end Go.Proofs.YtegoienjikjhkaaDoor

namespace Go.Proofs.YtegoienjikjhkaaDoor
open Go.RowKit Go.Maps
set_option maxRecDepth 20000

/-- The bytes of the writer: new memory. -/
theorem wbytes_any {w : World} {K : Nat → Nat} {g : Nat} {row : List Int} (h : Wp w K g row) :
    Calls Tryd.prog 16 #[.pointer (some ⟨g, 0, none⟩)] w fun e w' => ∃ a c, e = .returned (.slice a (pack row).length c) ∧ OB w' w.heap.size (.slice a (pack row).length c) (pack row) ∧ Below w.heap.size w w' := by
  obtain ⟨v, d, r, n, h1, h2, h3⟩ := h
  have c0 : w.cell? ⟨g, 0, none⟩ = some v := h1.cell 0
  have c1 : w.cell? ⟨g, 1, none⟩ = some (.int .u64 r) := h1.cell 1
  have c2 : w.cell? ⟨g, 2, none⟩ = some (.int .i64 n) := h1.cell 2
  obtain ⟨a, c, rfl⟩ := h1.o.shape
  have hl := h2.len
  have hn := h2.h8
  have hd : d.length ≤ 33554432 := by omega
  have hgl := h1.lt
  have HA1 := hide h1
  have HA2 := hide h2
  obtain ⟨T, HT⟩ : ∃ T, Hid (T = pack row) := ⟨_, rfl⟩
  rw [← HT.out]
  have HT2 : Hid (T = d ++ tail r n) := HT.out.trans h2.pack
  clear h1 h2 hl
  go_enter Tryd.func16, Tryd.ntmps16
  go_wp2_with (at_make; refine wpList_mk rfl _ _ rfl _ _ _ _ 0 (d.length + 1) rfl rfl rfl (by first | rfl | (simp; done)) (by omega) (by omega) ?_)
  intro w1 hg hb1
  have ho : OB w1 w.heap.size (.slice (some ⟨w.heap.size, 0, none⟩) 0 (d.length + 1)) [] := ⟨by simp, .inr ⟨w.heap.size, d.length + 1, _, rfl, Nat.le_refl _, hg, by simp, by unfold maxLen; omega, by simp, by simp⟩⟩
  have HO := hide ho
  have HB1 := hide hb1
  have HSRC : Hid (SB w1 (.slice a d.length c) d) := HA1.out.o.sb.below hb1
  have k0 : w1.cell? ⟨g, 0, none⟩ = some (.slice a d.length c) := (hb1.cell hgl).trans c0
  have hw1 : w.heap.size ≤ w1.heap.size := hb1.size
  clear ho hg hb1
  go_wp2_with (at_builtin; refine wpList_app rfl _ _ 44 rfl w.heap.size _ _ [] d rfl HO.out rfl HSRC.out.src (by simp; omega) hw1 ?_)
  intro v2 w2 ho2 hgr2
  have ho2' : OB w2 w.heap.size v2 d := ho2
  have hb2 : Below w.heap.size w w2 := HB1.out.grown hgr2.by hw1 (fun k hk => by simp [Value.ownBlock] at hk; omega)
  have k1 : w2.cell? ⟨g, 1, none⟩ = some (.int .u64 r) := (hb2.cell hgl).trans c1
  have k2 : w2.cell? ⟨g, 2, none⟩ = some (.int .i64 n) := (hb2.cell hgl).trans c2
  have hw2 := hb2.size
  have HO2 := hide ho2'
  have HB2 := hide hb2
  obtain ⟨a2, p2, rfl⟩ := ho2'.shape
  clear ho2 ho2' hgr2 hb2 HO HSRC k0
  by_cases h0 : n = 0
  · subst h0
    have HTd : Hid (T = d) := by show _ = _; rw [HT2.out]; simp [tail]
    go_wp2
    go_ret
    rw [HTd.out]
    exact ⟨_, _, rfl, HO2.out, HB2.out⟩
  · have h0' : (0 : Int) < n := by omega
    have hr := pow_lt256 hn HA2.out.r1
    have hr0 := HA2.out.r0
    have hrw : IntKind.u8.wrap r = r := by rw [IntKind.wrap_u8]; omega
    have HTd : Hid (T = d ++ [r]) := by show _ = _; rw [HT2.out]; simp [tail, h0]
    have HALC : Hid (OB (w2.alloc (.cells #[.int .u8 r] 5)) w.heap.size (.slice a2 d.length p2) d) := HO2.out.alloc _
    have HSR : Hid (Src Tryd.prog 1 44 (.slice (some ⟨w2.heap.size, 0, none⟩) 1 1) ([r] : List Int).length (([r] : List Int).map (Value.int .u8)) (w2.alloc (.cells #[.int .u8 r] 5))) := (built_sb w2 [r] (by unfold maxLen; simp)).src
    go_wp2_with (at_builtin; refine wpList_app rfl _ _ 44 rfl w.heap.size _ _ d [r] rfl HALC.out rfl HSR.out (by simp; omega) (by simp; omega) ?_)
    intro v3 w3 ho3 hgr3
    have hb3 : Below w.heap.size w w3 := (HB2.out.alloc hw2 _).grown hgr3.by (by simp; omega) (fun k hk => by have := HO2.out.lt k hk; omega)
    obtain ⟨a3, p3, rfl⟩ := ho3.shape
    have HO3 := hide ho3
    have HB3 := hide hb3
    clear ho3 hgr3 hb3
    go_wp2
    go_ret
    rw [HTd.out]
    exact ⟨_, _, rfl, HO3.out, HB3.out⟩

theorem zeroCells_byte (n : Nat) : (Builtin.zeroCells #[Value.int .u8 0] n) = (List.replicate n (Value.int .u8 0)).toArray := by
  have e : ∀ k : Nat, [Value.int IntKind.u8 0][k % 1]?.getD default = Value.int .u8 0 := fun k => by simp [Nat.mod_one]
  apply Array.ext'
  simp [Builtin.zeroCells, e, List.map_const']

set_option linter.unusedSimpArgs false in
/-- append of zeros onto a full slice: a new block. -/
theorem run_app_zeros (w : World) (ty : TypeId) (v : Value) (n : Nat) (xs : List Value) (hv : (v = .slice none 0 0 ∧ n = 0 ∧ xs = []) ∨ ∃ g, v = .slice (some ⟨g, 0, none⟩) n n ∧ w.heap[g]? = some (.cells xs.toArray 5 (0, 0)) ∧ xs.length = n) (m : Nat) (hm : 0 < m) (hb : n + m ≤ 140737488355328) :
    ∃ C w', (Builtin.append_ #[44, 3] ty #[v, .int .i64 m]).run Tryd.prog w = .ok (.slice (some ⟨w.heap.size, 0, none⟩) (n + m) C) w' ∧ n + m ≤ C ∧ C ≤ maxLen ∧ (∃ zs : List Value, w'.heap[w.heap.size]? = some (.cells (xs ++ zs).toArray 5 (0, 0)) ∧ xs.length + zs.length = C) ∧ Below w.heap.size w w' := by
  obtain ⟨i, hi, hz, hsize, hby⟩ := info_parts info5
  have ht := Tryd.underlying44
  have hti := Tryd.underlying3
  have hwr : IntKind.i64.wrap (m : Int) = m := by rw [IntKind.wrap_i64]; omega
  have hneg : ¬ ((m : Int) < 0) := by omega
  have hbig : ¬ (281474976710656 < (m : Int)) := by omega
  have hm0 : m ≠ 0 := by omega
  have hge := fun old => grownCap_ge w (n + m) old 5
  have hcm := fun old => grownCap_le_maxLen w (n + m) old 5 (by unfold maxLen; omega)
  have has : ∀ W : World, (asInt (Value.int .i64 m)).run Tryd.prog W = .ok (m : Int) W := fun _ => rfl
  have hcl : (Value.int .u8 0).cells = #[Value.int .u8 0] := rfl
  have grown : ∀ old : Nat, xs.length = n →
      (∃ zs : List Value, (w.drew.alloc (.cells (xs.toArray ++ (List.replicate m (Value.int .u8 0)).toArray ++ (List.replicate (grownCap w (n + m) old 5 - (n + m)) (Value.int .u8 0)).toArray) 5)).heap[w.heap.size]? = some (.cells (xs ++ zs).toArray 5 (0, 0)) ∧ xs.length + zs.length = grownCap w (n + m) old 5) ∧
      Below w.heap.size w (w.drew.alloc (.cells (xs.toArray ++ (List.replicate m (Value.int .u8 0)).toArray ++ (List.replicate (grownCap w (n + m) old 5 - (n + m)) (Value.int .u8 0)).toArray) 5)) := by
    intro old hxl
    have h1 := hge old
    refine ⟨⟨List.replicate m (Value.int .u8 0) ++ List.replicate (grownCap w (n + m) old 5 - (n + m)) (Value.int .u8 0), ?_, ?_⟩, (Below.refl _ _).drew.alloc (Nat.le_refl _) _⟩
    · refine (heap_alloc_new w.drew _).trans ?_
      simp
    · simp; omega
  rcases hv with ⟨rfl, rfl, rfl⟩ | ⟨g, rfl, hg, hxl⟩
  · have h48 : ¬ (281474976710656 < Builtin.nextslicecap m 0) := by rw [nextslicecap_zero hm]; omega
    have hgr := grown 0 rfl
    have h1 := hge 0
    simp only [Nat.zero_add, List.nil_append] at hgr h1 ⊢
    refine ⟨_, _, ?_, h1, by simpa using hcm 0, hgr.1, hgr.2⟩
    have hle : ¬ ((m : Int) ≤ 0) := by omega
    simp [Builtin.append_, run_underlying ht, run_underlying hti, has, hcl, hle, sizeOf, typeInfo, zeroValue, hi, hz, hsize, hby, hwr, hneg, hbig, hm0, h48, zeroCells_byte, Question.forced, run_firstCells_none, newRow, grownCap]
    intro h
    omega
  · have h48 : ¬ (281474976710656 < Builtin.nextslicecap (n + m) n) := by have := growslice_fits (need := n + m) (old := n) (bytes := 1) (by omega) (by omega); omega
    have holds : ∀ j u, xs[j]? = some u → w.cell? ((⟨g, 0, none⟩ : Addr).add j) = some u := fun j u hj => by
      rw [Addr.add_lit]
      unfold World.cell?
      simp only [hg, Nat.zero_add]
      simpa using hj
    have hfo := run_firstCells_some (P := Tryd.prog) w.drew 1 n ⟨g, 0, none⟩ n n xs (by omega) (by simpa using holds)
    have h63' : ¬ (9223372036854775807 < (n : Int) + (m : Int)) := by omega
    have hroom : ¬ n + m ≤ n := by omega
    have hgr := grown n hxl
    refine ⟨_, _, ?_, hge n, hcm n, hgr.1, hgr.2⟩
    simp [Builtin.append_, run_underlying ht, run_underlying hti, has, hcl, sizeOf, typeInfo, zeroValue, hi, hz, hsize, hby, hwr, hneg, hbig, hm0, hroom, h48, h63', zeroCells_byte, Question.forced, hfo, newRow, grownCap]

theorem wpList_app_zeros {w : World} {ops : Array Oper} {rest : List Oper} {o : Oper} {a : Act} {Q : Exit → Act → World → Prop} (hgd : o.guard = none) (s x : Operand)
    (ho : o.op = .call { callee := .builtin .append, args := #[s, x], argTypes := #[44, 3] }) (v : Value) (n : Nat) (xs : List Value) (hs : a.eval s = v) (hv : (v = .slice none 0 0 ∧ n = 0 ∧ xs = []) ∨ ∃ g, v = .slice (some ⟨g, 0, none⟩) n n ∧ w.heap[g]? = some (.cells xs.toArray 5 (0, 0)) ∧ xs.length = n) (m : Nat) (M : Int) (hx : a.eval x = .int .i64 M) (hM : M = m) (hm : 0 < m) (hb : n + m ≤ 140737488355328)
    (h : ∀ C w', n + m ≤ C → C ≤ maxLen → (∃ zs : List Value, w'.heap[w.heap.size]? = some (.cells (xs ++ zs).toArray 5 (0, 0)) ∧ xs.length + zs.length = C) → Below w.heap.size w w' → wpList Tryd.prog ops Q rest (a.put o.dst (.slice (some ⟨w.heap.size, 0, none⟩) (n + m) C)) w') :
    wpList Tryd.prog ops Q (o :: rest) a w := by
  refine wpList_plain hgd fun K hK => ?_
  subst hM
  obtain ⟨C, w', hr, h1, h2, h3, h4⟩ := run_app_zeros w o.type v n xs hv m hm hb
  unfold Oper.wp
  simp [execOp, ho, resolve, invoke, builtin, hs, hx, hr, Result.andThen]
  exact hK _ _ (h C w' h1 h2 h3 h4)

theorem grow_any (v : Value) (d : List Int) (n : Nat) (w : World) (h : OB w 0 v d) (hd : d.length ≤ 33554432) (hn : n ≤ 33554432) :
    Calls Tryd.prog 68 #[v, .int .i64 n] w fun e w' => ∃ a c, e = .returned (.slice a d.length c) ∧ OB w' 0 (.slice a d.length c) d ∧ Grew w w' v (.slice a d.length c) := by
  have H := hide h
  rcases h.2 with ⟨rfl, h0⟩ | ⟨g, cap, cur, rfl, k1, k2, k3, k4, k5, k6⟩
  · have e : d = [] := List.eq_nil_of_length_eq_zero h0
    subst e
    clear h
    by_cases hn0 : n = 0
    · subst hn0
      go_enter Tryd.func68, Tryd.ntmps68
      go_wp2
      go_ret
      exact ⟨none, 0, rfl, H.out, .inl ⟨rfl, rfl⟩⟩
    · have hnp : (0 : Int) < n := by omega
      go_enter Tryd.func68, Tryd.ntmps68
      go_wp2_with (at_builtin; refine wpList_app_zeros rfl _ _ rfl _ 0 [] rfl (.inl ⟨rfl, rfl, rfl⟩) n _ rfl (by first | rfl | (simp; done)) (by omega) (by omega) ?_)
      intro C w1 h1 h2 zs h3 h5 h4
      have HO : Hid (OB w1 0 (.slice (some ⟨w.heap.size, 0, none⟩) 0 C) []) := ⟨by simp, .inr ⟨w.heap.size, C, _, rfl, Nat.zero_le _, h3, Nat.zero_le _, h2, by simp at h5 ⊢; omega, by simp⟩⟩
      have HB := hide h4
      unfold maxLen at h2
      clear h3 h4 h5
      go_wp2
      go_ret
      exact ⟨_, _, rfl, HO.out, .inr (.inl ⟨rfl, HB.out⟩)⟩
  · have K2 := hide k2
    have K5 : Hid (cur.toList.length = cap) := by show _ = _; rw [Array.length_toList]; omega
    have K6 : Hid (cur.toList.take d.length = d.map (Value.int .u8)) := by show _ = _; simpa using k6
    unfold maxLen at k4
    clear k2 k5 k6 h
    by_cases hroom : d.length + n ≤ cap
    · go_enter Tryd.func68, Tryd.ntmps68
      go_wp2
      go_ret
      exact ⟨_, _, rfl, H.out, .inl ⟨rfl, rfl⟩⟩
    · obtain ⟨m, hm⟩ : ∃ m : Nat, d.length + n = cap + m := ⟨d.length + n - cap, by omega⟩
      have hm0 : 0 < m := by omega
      have hmi : (n : Int) - ((cap : Int) - d.length) = m := by omega
      have HV : Hid (∃ g', (Value.slice (some ⟨g, 0, none⟩) cap cap) = .slice (some ⟨g', 0, none⟩) cap cap ∧ w.heap[g']? = some (.cells cur.toList.toArray 5 (0, 0)) ∧ cur.toList.length = cap) := ⟨g, rfl, by simpa using K2.out, K5.out⟩
      have HMI := hide hmi
      clear hmi
      go_enter Tryd.func68, Tryd.ntmps68
      go_wp2_with (at_builtin; refine wpList_app_zeros rfl _ _ rfl _ cap cur.toList rfl (.inr HV.out) m _ rfl HMI.out hm0 (by omega) ?_)
      intro C w1 h1 h2 zs h3 h5 h4
      have HO : Hid (OB w1 0 (.slice (some ⟨w.heap.size, 0, none⟩) d.length C) d) := by
        have hcl := K5.out
        refine ⟨by simp, .inr ⟨w.heap.size, C, _, rfl, Nat.zero_le _, h3, by omega, h2, by simp at h5 ⊢; omega, ?_⟩⟩
        rw [Nat.mul_one, List.toList_toArray, List.take_append_of_le_length (by omega)]
        exact K6.out
      have HB := hide h4
      unfold maxLen at h2
      have hC : (d.length : Int) ≤ C := by omega
      clear h3 h4 h5
      go_wp2
      go_ret
      exact ⟨_, _, rfl, HO.out, .inr (.inl ⟨rfl, HB.out⟩)⟩
end Go.Proofs.YtegoienjikjhkaaDoor

