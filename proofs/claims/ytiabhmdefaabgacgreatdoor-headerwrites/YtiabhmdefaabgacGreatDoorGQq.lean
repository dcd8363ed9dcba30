import Derived.Test.YtiabhmdefaabgacGreatDoorGNx
import Derived.Test.YtiabhmdefaabgacGreatDoorGWj
namespace Go.Proofs.YtiabhmdefaabgacGreatDoor
open Go.RowKit Go.Maps
set_option maxRecDepth 20000

/-- One byte more behind the row of an object. -/
theorem WV.snoc {T : Nat} {rest : List Value} {w W w6 : World} {K : Nat → Nat} {g : Nat} {v v' : Value} {d : List Int} {q : Int} {o : Obj} (h : WV T rest w K g v d) (hW : W.heap = (w.alloc o).heap) (h1 : W.os = w.os) (h2 : W.tape = w.tape) (h3 : W.output = w.output) (ho : OB w6 0 v' (d ++ [q])) (hg : Grew W w6 v v') :
    ∃ K', WV T rest (w6.setCell ⟨g, 0, none⟩ v') K' g v' (d ++ [q]) ∧ Fr K K' w (w6.setCell ⟨g, 0, none⟩ v') := by
  have hgr : w.grownBy W v.ownBlock := ⟨h1, h2, h3, by rw [hW, size_alloc']; omega, fun k hk _ => by rw [hW]; exact Below.heap_alloc _ _ k hk⟩
  refine h.put (hgr.trans hg.by) ho ?_
  rcases hg.at with e | e
  · exact .inr (fun k hk => by rw [e, hW, size_alloc'] at hk; cases hk; omega)
  · exact .inl e

/-- What the append's step wants, for a block of one byte. -/
theorem WV.alloc1 {T : Nat} {rest : List Value} {w : World} {K : Nat → Nat} {g : Nat} {v : Value} {d : List Int} (h : WV T rest w K g v d) (q : Int) :
    (w.alloc (.cells #[.int .u8 q] 5)).cell? ⟨g, 0, none⟩ = some v ∧ (∀ W : World, W.heap = (w.alloc (.cells #[.int .u8 q] 5)).heap → OB W 0 v d) ∧
    (∀ W : World, W.heap = (w.alloc (.cells #[.int .u8 q] 5)).heap → Src Tryz.prog 1 36 (.slice (some ⟨w.heap.size, 0, none⟩) 1 1) ([q] : List Int).length (([q] : List Int).map (Value.int .u8)) W) ∧
    (∀ (W w6 : World) (u : Value), W.heap = (w.alloc (.cells #[.int .u8 q] 5)).heap → Grew W w6 v u → w6.cell? ⟨g, 0, none⟩ = some v ∧ w6.frozen? ⟨g, 0, none⟩ = false) := by
  have hgl := h.lt
  refine ⟨?_, fun W hW => OB.move (w := w) h.o fun x hx => by rw [hW]; exact Below.heap_alloc _ _ x (h.o.lt x hx).2, fun W hW => ((built_sb w [q] (by unfold maxLen; simp)).heap hW).src, fun W w6 u hW hg => ?_⟩
  · rw [((Below.refl w.heap.size w).alloc (Nat.le_refl _) _).cell hgl]; exact h.cell 0
  · have e1 : w6.heap[g]? = w.heap[g]? := (hg.by.block g (by rw [hW, size_alloc']; omega) (fun e => h.ng e.symm)).trans (by rw [hW]; exact Below.heap_alloc _ _ g hgl)
    have e2 := e1.trans h.s
    exact ⟨by simp [World.cell?, e2], by simp [World.frozen?, e2]⟩

end Go.Proofs.YtiabhmdefaabgacGreatDoor

namespace Go.Proofs.YtiabhmdefaabgacGreatDoor
open Go.RowKit Go.Maps
set_option maxRecDepth 20000

theorem ahead_snoc {row : List Int} {p i : Nat} (h : p + i < row.length) : ahead row p (i + 1) = ahead row p i + row.getD (p + i) 0 * 2 ^ i := by
  unfold ahead
  have hl : i < (row.drop p).length := by rw [List.length_drop]; omega
  rw [List.take_succ_eq_append_getElem hl, val_append, List.length_take, Nat.min_eq_left (by omega)]
  have e : (row.drop p)[i] = row.getD (p + i) 0 := by
    rw [List.getElem_drop]
    simp [List.getD, h]
  rw [e]
  simp only [val]
  rw [Int.mul_comm]
  simp

end Go.Proofs.YtiabhmdefaabgacGreatDoor

namespace Go.Proofs.YtiabhmdefaabgacGreatDoor
open Go.RowKit Go.Maps
set_option maxRecDepth 20000

theorem pad_self {row : List Int} (h : row.length % 8 = 0) : pad row = row := by
  unfold pad
  rw [show (row.length + 7) / 8 * 8 - row.length = 0 by omega]
  simp

/-- The bytes that come off, one by one. -/
theorem rraw_get {row : List Int} (hb : Bit row) {p n : Nat} (hl : p + 8 * n ≤ row.length) :
    (pack ((row.drop p).take (8 * n))).length = n ∧ Byt (pack ((row.drop p).take (8 * n))) ∧ ∀ k, k < n → ahead row (p + 8 * k) 8 = (pack ((row.drop p).take (8 * n))).getD k 0 := by
  have hX : Bit ((row.drop p).take (8 * n)) := (hb.drop p).take _
  have hXl : ((row.drop p).take (8 * n)).length = 8 * n := by rw [List.length_take, List.length_drop]; omega
  obtain ⟨hu, hB⟩ := unpack_pack hX
  rw [pad_self (by omega)] at hu
  have hlen : (pack ((row.drop p).take (8 * n))).length = n := by rw [length_pack hX, hXl]; omega
  refine ⟨hlen, hB, fun k hk => ?_⟩
  obtain ⟨L, HL⟩ : ∃ L, L = pack ((row.drop p).take (8 * n)) := ⟨_, rfl⟩
  rw [← HL] at hu hB hlen ⊢
  have e1 : (row.drop (p + 8 * k)).take 8 = ((unpack L).drop (8 * k)).take 8 := by
    rw [hu, List.drop_take, List.drop_drop, List.take_take, Nat.min_eq_left (by omega)]
  unfold ahead
  rw [e1, ← unpack_drop, List.drop_eq_getElem_cons (by omega), unpack_cons, List.take_append_of_le_length (by rw [length_bts]; exact Nat.le_refl _), List.take_of_length_le (by rw [length_bts]; exact Nat.le_refl _)]
  have hk2 : k < L.length := by omega
  have hg : L.getD k 0 = L[k] := by simp [List.getD, hk2]
  have hb2 := hB k
  rw [hg] at hb2 ⊢
  exact val_bts_in hb2.1 (by omega)

theorem peek_in8 {row : List Int} {p : Nat} : peekV row p 8 = ahead row p 8 := by
  have hc : Cnt 8 := ⟨by omega, by omega⟩
  unfold peekV; rw [if_pos hc]; rfl

end Go.Proofs.YtiabhmdefaabgacGreatDoor

namespace Go.Proofs.YtiabhmdefaabgacGreatDoor
open Go.RowKit Go.Maps
set_option maxRecDepth 20000

end Go.Proofs.YtiabhmdefaabgacGreatDoor

namespace Go.Proofs.YtiabhmdefaabgacGreatDoor
open Go.RowKit Go.Maps
set_option maxRecDepth 20000

structure It where
  kind : Int
  v : Int
  n : Int
  d : Value
  l : List Int

/-- The items in memory. -/
def ISc (w : World) (v : Value) (ops : List It) : Prop :=
  ∃ ao cap, v = .slice ao ops.length cap ∧ ops.length ≤ cap ∧ cap ≤ maxLen ∧ ∀ (i : Nat) (o : It), ops[i]? = some o → ∃ b of, ao = some ⟨b, of, none⟩ ∧ w.cell? ⟨b, of + i * 4, none⟩ = some (.int .i64 o.kind) ∧ w.cell? ⟨b, of + i * 4 + 1, none⟩ = some (.int .u32 o.v) ∧ w.cell? ⟨b, of + i * 4 + 2, none⟩ = some (.int .i64 o.n) ∧ w.cell? ⟨b, of + i * 4 + 3, none⟩ = some o.d

def IOk (w : World) (ops : List It) : Prop := ∀ o ∈ ops, (0 ≤ o.v ∧ o.v < 4294967296) ∧ SB w o.d o.l ∧ Byt o.l ∧ o.l.length ≤ 1048576

def isize (ops : List It) : Nat := (ops.map fun o => 47 + 8 * o.l.length).sum

def wid (o : It) : Nat := (o.n % 33).toNat
def low (o : It) : Int := o.v % 2 ^ wid o

theorem wid_le (o : It) : wid o ≤ 32 := by unfold wid; omega
theorem wid_eq (o : It) : o.n % 33 = (wid o : Int) := by unfold wid; omega

def layStep (row : List Int) (o : It) : List Int := if o.kind % 3 = 0 then row ++ bts (low o) (wid o) else if o.kind % 3 = 1 then pad row else pad row ++ unpack o.l
def layRow (ops : List It) : List Int := ops.foldl layStep []

theorem take_snoc {α : Type} {l : List α} {k : Nat} {o : α} (h : l[k]? = some o) : l.take (k + 1) = l.take k ++ [o] := by
  obtain ⟨hk, rfl⟩ := List.getElem?_eq_some_iff.1 h
  exact List.take_succ_eq_append_getElem hk

theorem layRow_snoc {ops : List It} {k : Nat} {o : It} (h : ops[k]? = some o) : layRow (ops.take (k + 1)) = layStep (layRow (ops.take k)) o := by
  unfold layRow
  rw [take_snoc h, List.foldl_append]
  rfl

theorem isize_snoc {ops : List It} {k : Nat} {o : It} (h : ops[k]? = some o) : isize (ops.take (k + 1)) = isize (ops.take k) + (47 + 8 * o.l.length) := by
  unfold isize
  rw [take_snoc h]
  simp

theorem isize_le (ops : List It) (k : Nat) : isize (ops.take k) ≤ isize ops := by
  have e : isize ops = isize (ops.take k) + isize (ops.drop k) := by
    unfold isize
    rw [← List.sum_append, ← List.map_append, List.take_append_drop]
  omega

theorem isize_bound {w : World} {ops : List It} (h : IOk w ops) : isize ops ≤ 8388655 * ops.length := by
  induction ops with
  | nil => simp [isize]
  | cons o r ih =>
    have h1 := (h o (by simp)).2.2.2
    have h2 := ih (fun x hx => h x (by simp [hx]))
    unfold isize at h2 ⊢
    simp only [List.map_cons, List.sum_cons, List.length_cons]
    omega

theorem IOk.take {w : World} {ops : List It} (h : IOk w ops) (k : Nat) : IOk w (ops.take k) := fun o ho => h o (List.mem_of_mem_take ho)

theorem layStep_len (row : List Int) (o : It) : (layStep row o).length ≤ row.length + (47 + 8 * o.l.length) := by
  have hw := wid_le o
  unfold layStep
  split
  · rw [List.length_append, length_bts]; omega
  · split
    · rw [length_pad]; omega
    · rw [List.length_append, length_pad, length_unpack]; omega

theorem layRow_len (ops : List It) (k : Nat) : (layRow (ops.take k)).length ≤ isize (ops.take k) := by
  induction k with
  | zero => simp [layRow, isize]
  | succ k ih =>
    by_cases hk : k < ops.length
    · obtain ⟨o, ho⟩ : ∃ o, ops[k]? = some o := ⟨ops[k], by simp [hk]⟩
      rw [layRow_snoc ho, isize_snoc ho]
      have := layStep_len (layRow (ops.take k)) o
      omega
    · rw [List.take_of_length_le (by omega)] at ih ⊢
      exact ih

theorem layStep_ext (row : List Int) (o : It) : ∃ s, layStep row o = row ++ s := by
  unfold layStep pad
  split
  · exact ⟨_, rfl⟩
  · split
    · exact ⟨_, rfl⟩
    · exact ⟨_, List.append_assoc _ _ _⟩

theorem fold_ext (ops : List It) : ∀ row, ∃ s, ops.foldl layStep row = row ++ s := by
  induction ops with
  | nil => intro row; exact ⟨[], by simp⟩
  | cons o r ih =>
    intro row
    obtain ⟨s1, h1⟩ := layStep_ext row o
    obtain ⟨s2, h2⟩ := ih (layStep row o)
    exact ⟨s1 ++ s2, by rw [List.foldl_cons, h2, h1, List.append_assoc]⟩

theorem layRow_ext (ops : List It) (k : Nat) : ∃ s, layRow ops = layRow (ops.take k) ++ s := by
  obtain ⟨s, h⟩ := fold_ext (ops.drop k) (layRow (ops.take k))
  refine ⟨s, ?_⟩
  rw [← h]
  unfold layRow
  rw [← List.foldl_append, List.take_append_drop]

theorem Herd.pop {W w : World} {xs : List ((Nat → Nat) × Thing)} {y : (Nat → Nat) × Thing} (h : Herd W w (xs ++ [y])) : Herd W w xs := by
  have e : ∀ (i : Nat) (d : (Nat → Nat) × Thing), xs[i]? = some d → (xs ++ [y])[i]? = some d := fun i d hd => by
    rw [List.getElem?_append_left (List.getElem?_eq_some_iff.1 hd).1]; exact hd
  exact ⟨h.bel, fun i d hd => h.rep i d (e i d hd), fun i d hd => h.up i d (e i d hd), fun i j d d' hd hd' => h.sep i j d d' (e i d hd) (e j d' hd')⟩

theorem Herd.box {W w : World} {xs : List ((Nat → Nat) × Thing)} (H : Herd W w xs) (i : Nat) {K : Nat → Nat} {B T : Nat} {cs : Array Value} (hi : xs[i]? = some (K, tb B (.cells cs T (0, 0)))) (j : Nat) : w.cell? ⟨B, j, none⟩ = cs[j]? := by
  have h : (tb B (.cells cs T (0, 0))).P w K := H.rep i _ hi
  have h1 : w.heap[B]? = some (.cells cs T (0, 0)) := h.1
  simp [World.cell?, h1]

/-- A block just made comes in. -/
theorem Herd.alloc {W w : World} {xs : List ((Nat → Nat) × Thing)} (h : Herd W w xs) (o : Obj) : ∃ K, Herd W (w.alloc o) (xs ++ [(K, tb w.heap.size o)]) := by
  refine ⟨fun k => if k = w.heap.size then 1 else 0, h.push ((Below.refl _ _).alloc (Nat.le_refl _) _) ⟨heap_alloc_new w o, by simp, fun k hk => ?_⟩ fun k hk => ?_⟩
  · by_cases e : k = w.heap.size
    · rw [e, size_alloc']; omega
    · simp [e] at hk
  · by_cases e : k = w.heap.size
    · omega
    · simp [e] at hk

/-- What an item shows in a later world. -/
theorem ISc.item {W w : World} {ao : Option Addr} {cap : Nat} {ops : List It} (h : ISc W (.slice ao ops.length cap) ops) (hb : Below W.heap.size W w) {k : Nat} {o : It} (ho : ops[k]? = some o) :
    ∃ b of, ao = some ⟨b, of, none⟩ ∧ w.cell? ⟨b, of + k * 4, none⟩ = some (.int .i64 o.kind) ∧ w.cell? ⟨b, of + k * 4 + 1, none⟩ = some (.int .u32 o.v) ∧ w.cell? ⟨b, of + k * 4 + 2, none⟩ = some (.int .i64 o.n) ∧ w.cell? ⟨b, of + k * 4 + 3, none⟩ = some o.d := by
  obtain ⟨ao', cap', hue, hc1, hc2, hc3⟩ := h
  simp only [Value.slice.injEq] at hue
  obtain ⟨rfl, -, rfl⟩ := hue
  obtain ⟨b, of, rfl, h0, h1, h2, h3⟩ := hc3 k o ho
  have hk : ∀ {i : Nat} {u : Value}, W.cell? ⟨b, i, none⟩ = some u → w.cell? ⟨b, i, none⟩ = some u := fun hc => (hb.cell (World.block_lt_of_cell? _ _ hc)).trans hc
  exact ⟨b, of, rfl, hk h0, hk h1, hk h2, hk h3⟩

theorem ISc.len {w : World} {v : Value} {ops : List It} (h : ISc w v ops) : ∃ a c, v = .slice a ops.length c ∧ ops.length ≤ c ∧ c ≤ 9223372036854775807 := by
  obtain ⟨a, c, h, h1, h2, _⟩ := h
  unfold maxLen at h2
  exact ⟨a, c, h, h1, h2⟩

end Go.Proofs.YtiabhmdefaabgacGreatDoor

namespace Go.Proofs.YtiabhmdefaabgacGreatDoor
open Go.RowKit Go.Maps
set_option maxRecDepth 20000

/-- Where the bits of the next item lie. -/
theorem drop_at {U a b c : List Int} (h : U = a ++ (b ++ c)) : U.drop a.length = b ++ c := by
  rw [h, List.drop_left' rfl]

theorem rraw_ok {U : List Int} {p n : Nat} (hp : p ≤ U.length) (h8 : p % 8 = 0) {l rest : List Int} (hl : l.length = n) (hB : Byt l) (hd : U.drop p = unpack l ++ rest) : rrawE U p n = 0 ∧ rrawL U p n = l ∧ rrawP U p n = p + 8 * n := by
  have hlen : U.length - p = 8 * n + rest.length := by
    have := congrArg List.length hd
    rwa [List.length_drop, List.length_append, length_unpack, hl] at this
  have he : rrawE U p n = 0 := by
    unfold rrawE
    rw [if_neg (by omega), if_neg (by omega)]
    rw [if_pos (by omega)]
  refine ⟨he, ?_, by unfold rrawP; rw [if_pos he]; rfl⟩
  unfold rrawL
  rw [if_pos he, hd, Int.toNat_natCast, List.take_append_of_le_length (by rw [length_unpack, hl]; exact Nat.le_refl _), List.take_of_length_le (by rw [length_unpack, hl]; exact Nat.le_refl _), pack_unpack hB]

theorem Herd.only {W w : World} {xs : List ((Nat → Nat) × Thing)} (h : Herd W w xs) (i : Nat) {d : (Nat → Nat) × Thing} (hi : xs[i]? = some d) : Herd W w [d] := by
  have e : ∀ (j : Nat) (d' : (Nat → Nat) × Thing), [d][j]? = some d' → j = 0 ∧ d' = d := fun j d' h => by
    cases j with
    | zero => simp at h; exact ⟨rfl, h.symm⟩
    | succ j => simp at h
  refine ⟨h.bel, fun j d' hd => ?_, fun j d' hd => ?_, fun j j' d' e' hd he hne => ?_⟩
  · obtain ⟨_, rfl⟩ := e j d' hd; exact h.rep i _ hi
  · obtain ⟨_, rfl⟩ := e j d' hd; exact h.up i _ hi
  · have := (e j d' hd).1; have := (e j' e' he).1; omega

/-- The row behind an item. -/
theorem row_at {ops : List It} {U rest : List Int} (hU : U = layRow ops ++ rest) {k : Nat} {o : It} (ho : ops[k]? = some o) : ∃ s, U = layStep (layRow (ops.take k)) o ++ s := by
  obtain ⟨s, hs⟩ := layRow_ext ops (k + 1)
  rw [layRow_snoc ho] at hs
  exact ⟨s ++ rest, by rw [hU, hs, List.append_assoc]⟩

end Go.Proofs.YtiabhmdefaabgacGreatDoor

namespace Go.Proofs.YtiabhmdefaabgacGreatDoor
open Go.RowKit Go.Maps
set_option maxRecDepth 20000

/-- A list that a call made beside what it did to its own. -/
theorem Herd.oplist {W w w' : World} {xs : List ((Nat → Nat) × Thing)} (H : Herd W w xs) (i : Nat) {K : Nat → Nat} {x x' : Thing} (hi : xs[i]? = some (K, x)) (h1 : x'.P w' K) (h2 : Fr K K w w') {v : Value} {l : List Int} (h0 : OB w' w.heap.size v l) :
    ∃ K', Herd W w' (xs.set i (K, x') ++ [(K', tl v l)]) := by
  have hw := H.rep i _ hi
  have H1 := H.op i hi (x' := x') h1 h2
  refine ⟨fun k => if v.ownBlock = some k then 1 else 0, H1.bel, fun j d hd => ?_, fun j d hd k hk => ?_, fun j j' d e hd he hne k hk => ?_⟩
  · rcases get_snoc hd with hd | ⟨_, rfl⟩
    · exact H1.rep j d hd
    · refine ⟨h0.base (Nat.zero_le _), fun k hk => by simp [hk], fun k hk => ?_⟩
      by_cases e : v.ownBlock = some k
      · exact (h0.lt k e).2
      · simp [e] at hk
  · rcases get_snoc hd with hd | ⟨_, rfl⟩
    · exact H1.up j d hd k hk
    · by_cases e : v.ownBlock = some k
      · have := (h0.lt k e).1; have := H.bel.size; omega
      · simp [e] at hk
  · have old : ∀ j' (e' : (Nat → Nat) × Thing), (xs.set i (K, x'))[j']? = some e' → ∀ k, e'.1 k ≠ 0 → k < w.heap.size := fun j' e' he' k hk => by
      rcases get_set he' with ⟨_, he2⟩ | ⟨_, rfl⟩
      · exact e'.2.sup (H.rep j' e' he2) k hk
      · exact x.sup hw k hk
    rcases get_snoc hd with hd | ⟨e1, rfl⟩
    · rcases get_snoc he with he | ⟨e2, rfl⟩
      · exact H1.sep j j' d e hd he hne k hk
      · by_cases e0 : v.ownBlock = some k
        · have := (h0.lt k e0).1; have := old j d hd k hk; omega
        · simp [e0]
    · rcases get_snoc he with he | ⟨e2, rfl⟩
      · by_cases e0 : v.ownBlock = some k
        · by_cases ez : e.1 k = 0
          · exact ez
          · have := (h0.lt k e0).1; have := old j' e he k ez; omega
        · simp [e0] at hk
      · omega

end Go.Proofs.YtiabhmdefaabgacGreatDoor

