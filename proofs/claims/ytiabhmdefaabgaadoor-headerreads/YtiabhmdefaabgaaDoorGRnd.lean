import Derived.Test.YtiabhmdefaabgaaDoorGFact
import Derived.Test.YtiabhmdefaabgaaDoorGHerdJ
namespace Go.Proofs.YtiabhmdefaabgaaDoor
open Go.RowKit Go.Maps
set_option maxRecDepth 20000

structure It where
  kind : Int
  v : Int
  n : Int
  d : Value
  l : List Int

/-- The items in memory. -/
def ISc (w : World) (v : Value) (ops : List It) : Prop :=
  ∃ ao cap, v = .slice ao ops.length cap ∧ ops.length ≤ cap ∧ cap ≤ maxLen ∧ ∀ (i : Nat) (o : It), ops[i]? = some o → ∃ b of, ao = some ⟨b, of, none⟩ ∧ w.cell? ⟨b, of + i * 4, none⟩ = some (.int .i64 o.kind) ∧ w.cell? ⟨b, of + i * 4 + 1, none⟩ = some (.int .u32 o.v) ∧ w.cell? ⟨b, of + i * 4 + 2, none⟩ = some (.int .i64 o.n) ∧ w.cell? ⟨b, of + i * 4 + 3, none⟩ = some o.d

def IOk (w : World) (ops : List It) : Prop := ∀ o ∈ ops, (0 ≤ o.v ∧ o.v < 4294967296) ∧ SB w o.d o.l ∧ Byt o.l ∧ o.l.length ≤ 1048576

def isize (ops : List It) : Nat := (ops.map fun o => 47 + 8 * o.l.length).sum

def wid (o : It) : Nat := (o.n % 33).toNat
def low (o : It) : Int := o.v % 2 ^ wid o

theorem wid_le (o : It) : wid o ≤ 32 := by unfold wid; omega
theorem wid_eq (o : It) : o.n % 33 = (wid o : Int) := by unfold wid; omega

def layStep (row : List Int) (o : It) : List Int := if o.kind % 3 = 0 then row ++ bts (low o) (wid o) else if o.kind % 3 = 1 then pad row else pad row ++ unpack o.l
def layRow (ops : List It) : List Int := ops.foldl layStep []

theorem take_snoc {α : Type} {l : List α} {k : Nat} {o : α} (h : l[k]? = some o) : l.take (k + 1) = l.take k ++ [o] := by
  obtain ⟨hk, rfl⟩ := List.getElem?_eq_some_iff.1 h
  exact List.take_succ_eq_append_getElem hk

theorem layRow_snoc {ops : List It} {k : Nat} {o : It} (h : ops[k]? = some o) : layRow (ops.take (k + 1)) = layStep (layRow (ops.take k)) o := by
  unfold layRow
  rw [take_snoc h, List.foldl_append]
  rfl

theorem isize_snoc {ops : List It} {k : Nat} {o : It} (h : ops[k]? = some o) : isize (ops.take (k + 1)) = isize (ops.take k) + (47 + 8 * o.l.length) := by
  unfold isize
  rw [take_snoc h]
  simp

theorem isize_le (ops : List It) (k : Nat) : isize (ops.take k) ≤ isize ops := by
  have e : isize ops = isize (ops.take k) + isize (ops.drop k) := by
    unfold isize
    rw [← List.sum_append, ← List.map_append, List.take_append_drop]
  omega

theorem isize_bound {w : World} {ops : List It} (h : IOk w ops) : isize ops ≤ 8388655 * ops.length := by
  induction ops with
  | nil => simp [isize]
  | cons o r ih =>
    have h1 := (h o (by simp)).2.2.2
    have h2 := ih (fun x hx => h x (by simp [hx]))
    unfold isize at h2 ⊢
    simp only [List.map_cons, List.sum_cons, List.length_cons]
    omega

theorem IOk.take {w : World} {ops : List It} (h : IOk w ops) (k : Nat) : IOk w (ops.take k) := fun o ho => h o (List.mem_of_mem_take ho)

theorem layStep_len (row : List Int) (o : It) : (layStep row o).length ≤ row.length + (47 + 8 * o.l.length) := by
  have hw := wid_le o
  unfold layStep
  split
  · rw [List.length_append, length_bts]; omega
  · split
    · rw [length_pad]; omega
    · rw [List.length_append, length_pad, length_unpack]; omega

theorem layRow_len (ops : List It) (k : Nat) : (layRow (ops.take k)).length ≤ isize (ops.take k) := by
  induction k with
  | zero => simp [layRow, isize]
  | succ k ih =>
    by_cases hk : k < ops.length
    · obtain ⟨o, ho⟩ : ∃ o, ops[k]? = some o := ⟨ops[k], by simp [hk]⟩
      rw [layRow_snoc ho, isize_snoc ho]
      have := layStep_len (layRow (ops.take k)) o
      omega
    · rw [List.take_of_length_le (by omega)] at ih ⊢
      exact ih

theorem layStep_ext (row : List Int) (o : It) : ∃ s, layStep row o = row ++ s := by
  unfold layStep pad
  split
  · exact ⟨_, rfl⟩
  · split
    · exact ⟨_, rfl⟩
    · exact ⟨_, List.append_assoc _ _ _⟩

theorem fold_ext (ops : List It) : ∀ row, ∃ s, ops.foldl layStep row = row ++ s := by
  induction ops with
  | nil => intro row; exact ⟨[], by simp⟩
  | cons o r ih =>
    intro row
    obtain ⟨s1, h1⟩ := layStep_ext row o
    obtain ⟨s2, h2⟩ := ih (layStep row o)
    exact ⟨s1 ++ s2, by rw [List.foldl_cons, h2, h1, List.append_assoc]⟩

theorem layRow_ext (ops : List It) (k : Nat) : ∃ s, layRow ops = layRow (ops.take k) ++ s := by
  obtain ⟨s, h⟩ := fold_ext (ops.drop k) (layRow (ops.take k))
  refine ⟨s, ?_⟩
  rw [← h]
  unfold layRow
  rw [← List.foldl_append, List.take_append_drop]

theorem Herd.pop {W w : World} {xs : List ((Nat → Nat) × Thing)} {y : (Nat → Nat) × Thing} (h : Herd W w (xs ++ [y])) : Herd W w xs := by
  have e : ∀ (i : Nat) (d : (Nat → Nat) × Thing), xs[i]? = some d → (xs ++ [y])[i]? = some d := fun i d hd => by
    rw [List.getElem?_append_left (List.getElem?_eq_some_iff.1 hd).1]; exact hd
  exact ⟨h.bel, fun i d hd => h.rep i d (e i d hd), fun i d hd => h.up i d (e i d hd), fun i j d d' hd hd' => h.sep i j d d' (e i d hd) (e j d' hd')⟩

theorem Herd.box {W w : World} {xs : List ((Nat → Nat) × Thing)} (H : Herd W w xs) (i : Nat) {K : Nat → Nat} {B T : Nat} {cs : Array Value} (hi : xs[i]? = some (K, tb B (.cells cs T (0, 0)))) (j : Nat) : w.cell? ⟨B, j, none⟩ = cs[j]? := by
  have h : (tb B (.cells cs T (0, 0))).P w K := H.rep i _ hi
  have h1 : w.heap[B]? = some (.cells cs T (0, 0)) := h.1
  simp [World.cell?, h1]

/-- A block just made comes in. -/
theorem Herd.alloc {W w : World} {xs : List ((Nat → Nat) × Thing)} (h : Herd W w xs) (o : Obj) : ∃ K, Herd W (w.alloc o) (xs ++ [(K, tb w.heap.size o)]) := by
  refine ⟨fun k => if k = w.heap.size then 1 else 0, h.push ((Below.refl _ _).alloc (Nat.le_refl _) _) ⟨heap_alloc_new w o, by simp, fun k hk => ?_⟩ fun k hk => ?_⟩
  · by_cases e : k = w.heap.size
    · rw [e, size_alloc']; omega
    · simp [e] at hk
  · by_cases e : k = w.heap.size
    · omega
    · simp [e] at hk

/-- What an item shows in a later world. -/
theorem ISc.item {W w : World} {ao : Option Addr} {cap : Nat} {ops : List It} (h : ISc W (.slice ao ops.length cap) ops) (hb : Below W.heap.size W w) {k : Nat} {o : It} (ho : ops[k]? = some o) :
    ∃ b of, ao = some ⟨b, of, none⟩ ∧ w.cell? ⟨b, of + k * 4, none⟩ = some (.int .i64 o.kind) ∧ w.cell? ⟨b, of + k * 4 + 1, none⟩ = some (.int .u32 o.v) ∧ w.cell? ⟨b, of + k * 4 + 2, none⟩ = some (.int .i64 o.n) ∧ w.cell? ⟨b, of + k * 4 + 3, none⟩ = some o.d := by
  obtain ⟨ao', cap', hue, hc1, hc2, hc3⟩ := h
  simp only [Value.slice.injEq] at hue
  obtain ⟨rfl, -, rfl⟩ := hue
  obtain ⟨b, of, rfl, h0, h1, h2, h3⟩ := hc3 k o ho
  have hk : ∀ {i : Nat} {u : Value}, W.cell? ⟨b, i, none⟩ = some u → w.cell? ⟨b, i, none⟩ = some u := fun hc => (hb.cell (World.block_lt_of_cell? _ _ hc)).trans hc
  exact ⟨b, of, rfl, hk h0, hk h1, hk h2, hk h3⟩

theorem ISc.len {w : World} {v : Value} {ops : List It} (h : ISc w v ops) : ∃ a c, v = .slice a ops.length c ∧ ops.length ≤ c ∧ c ≤ 9223372036854775807 := by
  obtain ⟨a, c, h, h1, h2, _⟩ := h
  unfold maxLen at h2
  exact ⟨a, c, h, h1, h2⟩

end Go.Proofs.YtiabhmdefaabgaaDoor

