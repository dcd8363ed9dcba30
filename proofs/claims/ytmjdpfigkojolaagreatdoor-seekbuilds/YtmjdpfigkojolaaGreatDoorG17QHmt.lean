import Init
import Derived.Test.YtmjdpfigkojolaaGreatDoorRows
import Derived.WalkKit
import Derived.ProofKit
import Derived.OpenShut
import Derived.ShutString
import Derived.ChangeOld
import Derived.Below
import Derived.WalkLawsBesides
import Derived.WalkSpells
import Derived.Deep.QuietTactic
import Derived.BigQuiet
import Derived.Laws.CopyOwn
import Derived.SizedLaws
import Derived.Maps.Own
import Derived.Laws.BytesArg
import Derived.Laws.BitsLemmas
import Derived.Maps.AppendAt
import Derived.Deep.AppendSrc
import Derived.Deep.AppendLies
import Derived.Deep.RegionLaw
namespace Go.Proofs.YtmjdpfigkojolaaGreatDoor

/-! The coin collector's theorem (package-merge), in numbers: leaves w by rising weight; a row is leaves and packages merged. -/

def pks : List Nat → List Nat
  | a :: b :: r => (a + b) :: pks r
  | _ => []

def mrg : List Nat → List Nat → List Nat
  | [], p => p
  | a :: w, [] => a :: w
  | a :: w, b :: p => if a ≤ b then a :: mrg w (b :: p) else b :: mrg (a :: w) p
termination_by w p => w.length + p.length

def cnt : List Nat → List Nat → Nat → Nat
  | _, _, 0 => 0
  | [], _, _ => 0
  | _ :: w, [], m + 1 => cnt w [] m + 1
  | a :: w, b :: p, m + 1 => if a ≤ b then cnt w (b :: p) m + 1 else cnt (a :: w) p m
termination_by w p _ => w.length + p.length

def row (w : List Nat) : Nat → List Nat
  | 0 => []
  | k + 1 => mrg w (pks (row w k))

end Go.Proofs.YtmjdpfigkojolaaGreatDoor

namespace Go.Proofs.YtmjdpfigkojolaaGreatDoor

/-! Huffman's theorem, in numbers: rows of pairs (weight, length); Kraft's sum in parts of 2^-N. -/

theorem perm_sum {α : Type} (f : α → Nat) {P Q : List α} (h : P.Perm Q) : (P.map f).sum = (Q.map f).sum := by
  induction h with
  | nil => rfl
  | cons _ _ ih => simp [ih]
  | swap _ _ _ => simp; omega
  | trans _ _ i1 i2 => rw [i1, i2]

inductive Huff : List Nat → Nat → Prop
  | one (w : Nat) : Huff [w] 0
  | join {ws : List Nat} (a b : Nat) (rest : List Nat) (c : Nat) : ws.Perm (a :: b :: rest) → a ≤ b → (∀ x ∈ rest, b ≤ x) → Huff ((a + b) :: rest) c → Huff ws (c + (a + b))

end Go.Proofs.YtmjdpfigkojolaaGreatDoor

namespace Go.Proofs.YtmjdpfigkojolaaGreatDoor

/-! Huffman's joining: what the lengths are behind it. A node: its weight, and the symbols that it holds. -/

def fb : Nat → Nat
  | 0 => 1
  | 1 => 1
  | n + 2 => fb (n + 1) + fb n

theorem fb_pos (n : Nat) : 1 ≤ fb n := by
  induction n using fb.induct with
  | case1 => exact Nat.le_refl _
  | case2 => exact Nat.le_refl _
  | case3 n h1 h2 => simp only [fb]; omega

abbrev Nod := Nat × List Nat

def syms (row : List Nod) : List Nat := row.flatMap (·.2)
def fl (f len : Nat → Nat) (l : List Nat) : Nat := (l.map fun s => f s * len s).sum
def kr (len : Nat → Nat) (l : List Nat) : Nat := (l.map fun s => 2 ^ (60 - len s)).sum

def Deep (len : Nat → Nat) (row : List Nod) (n : Nod) : Prop :=
  ∃ h, (∀ s ∈ n.2, len s ≤ h) ∧ fb (h + 1) ≤ n.1 ∧ (h ≤ 60 → kr len n.2 = 2 ^ 60) ∧ (h = 0 ∨ ∃ m, fb h ≤ m ∧ ∀ n' ∈ row, n' ≠ n → m ≤ n'.1)

structure Forest (f len : Nat → Nat) (row : List Nod) : Prop where
  nd : (syms row).Nodup
  ne : ∀ n ∈ row, n.2 ≠ []
  sum : ∀ n ∈ row, n.1 = (n.2.map f).sum
  deep : ∀ n ∈ row, Deep len row n

theorem syms_perm {r r' : List Nod} (h : r.Perm r') : (syms r).Perm (syms r') := h.flatMap_right _

theorem Forest.perm {f len : Nat → Nat} {r r' : List Nod} (h : Forest f len r) (hp : r.Perm r') : Forest f len r' := by
  refine ⟨(syms_perm hp).nodup_iff.1 h.nd, fun n hn => h.ne n (hp.symm.subset hn), fun n hn => h.sum n (hp.symm.subset hn), fun n hn => ?_⟩
  obtain ⟨d, h1, h2, h3, h4⟩ := h.deep n (hp.symm.subset hn)
  refine ⟨d, h1, h2, h3, ?_⟩
  rcases h4 with h4 | ⟨m, h5, h6⟩
  · exact .inl h4
  · exact .inr ⟨m, h5, fun n' hn' => h6 n' (hp.symm.subset hn')⟩

def bmp (len : Nat → Nat) (hs : List Nat) : Nat → Nat := fun s => if s ∈ hs then len s + 1 else len s

theorem bmp_in {len : Nat → Nat} {hs : List Nat} {s : Nat} (h : s ∈ hs) : bmp len hs s = len s + 1 := if_pos h
theorem bmp_out {len : Nat → Nat} {hs : List Nat} {s : Nat} (h : s ∉ hs) : bmp len hs s = len s := if_neg h

theorem map_sum_congr {α : Type} {f g : α → Nat} {l : List α} (h : ∀ x ∈ l, f x = g x) : (l.map f).sum = (l.map g).sum := by rw [List.map_congr_left h]

theorem kr_out {len : Nat → Nat} {hs l : List Nat} (h : ∀ s ∈ l, s ∉ hs) : kr (bmp len hs) l = kr len l := map_sum_congr fun s hs' => by rw [bmp_out (h s hs')]

theorem kr_bmp {len : Nat → Nat} {hs : List Nat} (h : ∀ s ∈ hs, len s + 1 ≤ 60) : 2 * kr (bmp len hs) hs = kr len hs := by
  have e : kr (bmp len hs) hs = (hs.map fun s => 2 ^ (60 - (len s + 1))).sum := map_sum_congr fun s hs' => by rw [bmp_in hs']
  rw [e]
  unfold kr
  clear e
  induction hs with
  | nil => rfl
  | cons a l ih =>
    have h1 := ih fun s hs => h s (by simp [hs])
    have h2 := h a (by simp)
    simp only [List.map_cons, List.sum_cons]
    have : 2 ^ (60 - len a) = 2 * 2 ^ (60 - (len a + 1)) := by rw [show 60 - len a = (60 - (len a + 1)) + 1 by omega, Nat.pow_succ, Nat.mul_comm]
    omega

theorem Forest.join {f len : Nat → Nat} {x y : Nod} {rest : List Nod} {hs : List Nat} (F : Forest f len (x :: y :: rest)) (hxy : x.1 ≤ y.1) (hr : ∀ r ∈ rest, y.1 ≤ r.1) (hh : hs.Perm (x.2 ++ y.2)) : Forest f (bmp len hs) ((x.1 + y.1, hs) :: rest) := by
  have hnd := F.nd
  have hs1 : syms (x :: y :: rest) = x.2 ++ (y.2 ++ syms rest) := by simp [syms]
  rw [hs1, ← List.append_assoc] at hnd
  have hnd2 : (hs ++ syms rest).Nodup := ((hh.append_right (syms rest)).nodup_iff).2 hnd
  obtain ⟨d1, d2, d3⟩ := List.nodup_append.1 hnd2
  have hmem : ∀ s, s ∈ hs ↔ s ∈ x.2 ∨ s ∈ y.2 := fun s => by rw [hh.mem_iff, List.mem_append]
  have hrs : ∀ n ∈ rest, ∀ s ∈ n.2, s ∉ hs := fun n hn s hs' hm => d3 s hm s (List.mem_flatMap.2 ⟨n, hn, hs'⟩) rfl
  obtain ⟨hx, Dx1, Dx2, Dx3, Dx4⟩ := F.deep x (by simp)
  obtain ⟨hy, Dy1, Dy2, Dy3, Dy4⟩ := F.deep y (by simp)
  have nx := F.ne x (by simp)
  have ny := F.ne y (by simp)
  have hne : x ≠ y := fun e => by
    obtain ⟨s, hs'⟩ := List.exists_mem_of_ne_nil _ nx
    have h0 := (List.nodup_append.1 (List.nodup_append.1 hnd).1).2.2 s hs' s (by rw [← e]; exact hs') 
    exact h0 rfl
  have hrx : ∀ n ∈ rest, n ≠ x := fun n hn e => by
    obtain ⟨s, hs'⟩ := List.exists_mem_of_ne_nil _ nx
    exact hrs n hn s (by rw [e]; exact hs') ((hmem s).2 (.inl hs'))
  have hsum : (hs.map f).sum = x.1 + y.1 := by
    rw [perm_sum f hh, List.map_append, List.sum_append, ← F.sum x (by simp), ← F.sum y (by simp)]
  refine ⟨by simpa [syms] using hnd2, ?_, ?_, ?_⟩
  · intro n hn
    rcases List.mem_cons.1 hn with rfl | hn
    · intro e
      have : hs = [] := e
      rw [this] at hh
      have := hh.length_eq
      simp at this
      exact nx (List.eq_nil_of_length_eq_zero (by omega))
    · exact F.ne n (by simp [hn])
  · intro n hn
    rcases List.mem_cons.1 hn with rfl | hn
    · exact hsum.symm
    · exact F.sum n (by simp [hn])
  · intro n hn
    rcases List.mem_cons.1 hn with rfl | hn
    · refine ⟨max hx hy + 1, ?_, ?_, ?_, .inr ⟨y.1, ?_, ?_⟩⟩
      · intro s hs'
        rw [bmp_in hs']
        rcases (hmem s).1 hs' with h | h
        · have := Dx1 s h; omega
        · have := Dy1 s h; omega
      · show fb (max hx hy + 1 + 1) ≤ x.1 + y.1
        simp only [fb]
        by_cases c : hy ≤ hx
        · rw [Nat.max_eq_left c]
          rcases Dx4 with h0 | ⟨m, m1, m2⟩
          · subst h0
            have e0 : fb (0 + 1) = 1 := rfl
            have e1 : fb 0 = 1 := rfl
            have := fb_pos (hy + 1)
            omega
          · have := m2 y (by simp) (fun e => hne e.symm)
            omega
        · rw [Nat.max_eq_right (by omega)]
          rcases Dy4 with h0 | ⟨m, m1, m2⟩
          · omega
          · have := m2 x (by simp) hne
            omega
      · intro hm
        have h1 : kr len hs = kr len x.2 + kr len y.2 := by
          unfold kr
          rw [perm_sum _ hh, List.map_append, List.sum_append]
        have h2 := kr_bmp (len := len) (hs := hs) (fun s hs' => by
          rcases (hmem s).1 hs' with h | h
          · have := Dx1 s h; omega
          · have := Dy1 s h; omega)
        rw [h1, Dx3 (by omega), Dy3 (by omega)] at h2
        show kr (bmp len hs) hs = 2 ^ 60
        omega
      · by_cases c : hy ≤ hx
        · rw [Nat.max_eq_left c]; omega
        · rw [Nat.max_eq_right (by omega)]; exact Dy2
      · intro n' hn' hne'
        rcases List.mem_cons.1 hn' with rfl | hn'
        · exact absurd rfl hne'
        · exact hr n' hn'
    · obtain ⟨h, D1, D2, D3, D4⟩ := F.deep n (by simp [hn])
      refine ⟨h, fun s hs' => by rw [bmp_out (hrs n hn s hs')]; exact D1 s hs', D2, fun h6 => by rw [kr_out (hrs n hn)]; exact D3 h6, ?_⟩
      rcases D4 with h0 | ⟨m, m1, m2⟩
      · exact .inl h0
      · refine .inr ⟨m, m1, fun n' hn' hne' => ?_⟩
        rcases List.mem_cons.1 hn' with rfl | hn'
        · have := m2 x (by simp) (fun e => hrx n hn e.symm)
          show m ≤ x.1 + y.1
          omega
        · exact m2 n' (by simp [hn']) hne'

theorem Huff.perm {ws vs : List Nat} {c : Nat} (h : Huff ws c) (hp : ws.Perm vs) : Huff vs c := by
  cases h with
  | one w =>
    have : vs = [w] := List.perm_singleton.1 hp.symm
    subst this
    exact .one w
  | join a b rest c h1 h2 h3 h4 => exact .join a b rest c (hp.symm.trans h1) h2 h3 h4

end Go.Proofs.YtmjdpfigkojolaaGreatDoor

namespace Go.Proofs.YtmjdpfigkojolaaGreatDoor

/-! Package-merge: what the lengths are behind it. -/

def sel (w : List Nat) : Nat → Nat → List Nat
  | 0, _ => []
  | k + 1, m => cnt w (pks (row w k)) m :: sel w k (2 * (m - cnt w (pks (row w k)) m))

def ct (cs : List Nat) (i : Nat) : Nat := (cs.filter fun c => decide (i < c)).length

end Go.Proofs.YtmjdpfigkojolaaGreatDoor

namespace Go.Proofs.YtmjdpfigkojolaaGreatDoor

/-! What both calls' lists are good for, said of the used symbols 'us6' with frequencies f. -/

def leafs (f : Nat → Nat) (us6 : List Nat) : List Nod := us6.map fun s => (f s, [s])

end Go.Proofs.YtmjdpfigkojolaaGreatDoor

namespace Go.Proofs.YtmjdpfigkojolaaGreatDoor

/-! Depths as a function of rows: the lightest is looked for one by one; the row keeps the order of the numbers. -/

def nod0 : Nod := (0, [])

def lgk (row : List Nod) : Nat → Nat
  | 0 => 0
  | k + 1 => if (row.getD (k + 1) nod0).1 < (row.getD (lgk row k) nod0).1 then k + 1 else lgk row k

def lgt (row : List Nod) : Nat := lgk row (row.length - 1)

def fir (row : List Nod) : Nod := row.getD (lgt row) nod0
def wo (row : List Nod) : List Nod := row.eraseIdx (lgt row)
def hjn (row : List Nod) : Nod := ((fir row).1 + (fir (wo row)).1, (fir row).2 ++ (fir (wo row)).2)
def hst (row : List Nod) : List Nod := wo (wo row) ++ [hjn row]

def hrun : Nat → List Nod → (Nat → Nat) → (Nat → Nat)
  | 0, _, len => len
  | n + 1, row, len => hrun n (hst row) (bmp len (hjn row).2)

/-! Frequencies by a factor. -/

def sc (b : Nat) (row : List Nod) : List Nod := row.map fun n => (b * n.1, n.2)

/-! Other names for the symbols. -/

/-! Package-merge by a factor. -/

end Go.Proofs.YtmjdpfigkojolaaGreatDoor

namespace Go.Proofs.YtmjdpfigkojolaaGreatDoor

/-! The program's joining: each node of the row bears a number; for each number the holder's. -/

abbrev Znd := Nod × Nat

end Go.Proofs.YtmjdpfigkojolaaGreatDoor

namespace Go.Proofs.YtmjdpfigkojolaaGreatDoor.H4
open Go.RowKit

def SI (w : World) (v : Value) (l : List Int) : Prop :=
  ∃ ao cap, v = .slice ao l.length cap ∧ l.length ≤ cap ∧ cap ≤ maxLen ∧ (ao = none → cap = 0) ∧ ∀ x, ao = some x → ∀ i, i < l.length → w.cell? (x.add i) = some (.int .i64 (l.getD i 0))

def OI (w : World) (base : Nat) (v : Value) (l : List Int) : Prop := w.ownsRow base 3 1 v l.length (l.map (Value.int .i64))

theorem hide {p : Prop} (h : p) : Hid p := h
theorem unhide {p : Prop} (h : Hid p) : p := h

theorem add_block (x : Addr) (i : Nat) : (x.add i).block = x.block := by unfold Addr.add; split <;> rfl

theorem SI.move {w w' : World} {v : Value} {l : List Int} (h : SI w v l) (hc : ∀ a u, w.cell? a = some u → v.ownBlock = some a.block → w'.cell? a = some u) : SI w' v l := by
  obtain ⟨ao, cap, rfl, h1, h2, h3, h4⟩ := h
  refine ⟨ao, cap, rfl, h1, h2, h3, fun x hx i hi => hc _ _ (h4 x hx i hi) ?_⟩
  subst hx; simp [Value.ownBlock, add_block]

theorem SI.below {w w' : World} {v : Value} {l : List Int} (h : SI w v l) (hb : Below w.heap.size w w') : SI w' v l :=
  h.move fun a _ ha _ => (hb.cell (World.block_lt_of_cell? w a ha)).trans ha

theorem OI.lt {w : World} {base : Nat} {v : Value} {l : List Int} (h : OI w base v l) : ∀ k, v.ownBlock = some k → base ≤ k ∧ k < w.heap.size := World.ownsRow.lt h

theorem OI.sb {w : World} {base : Nat} {v : Value} {l : List Int} (h : OI w base v l) : SI w v l := by
  have hc := @World.ownsRow.cells _ _ _ _ _ _ _ h
  rcases h.2 with ⟨rfl, h0⟩ | ⟨g, cap, cur, rfl, _, _, h3, h4, _, _⟩
  · obtain rfl : l = [] := List.eq_nil_of_length_eq_zero h0
    exact ⟨none, 0, rfl, Nat.le_refl _, Nat.zero_le _, fun _ => rfl, fun x hx => by cases hx⟩
  · refine ⟨some ⟨g, 0, none⟩, cap, rfl, h3, h4, (fun e => by cases e), fun x hx i hi => ?_⟩
    cases hx
    refine hc (g := g) rfl i _ ?_
    simp [hi]

theorem OI.shape {w : World} {base : Nat} {v : Value} {l : List Int} (h : OI w base v l) : ∃ a c, v = .slice a l.length c := by
  rcases h.2 with ⟨rfl, h0⟩ | ⟨g, cap, cur, rfl, _⟩
  · exact ⟨none, 0, by rw [h0]⟩
  · exact ⟨_, _, rfl⟩

theorem OI.move {w w' : World} {base : Nat} {v : Value} {l : List Int} (h : OI w base v l) (hb : ∀ k, v.ownBlock = some k → w'.heap[k]? = w.heap[k]?) : OI w' base v l := by
  refine ⟨h.1, ?_⟩
  rcases h.2 with h2 | ⟨g, cap, cur, rfl, h1, h2, r⟩
  · exact .inl h2
  · exact .inr ⟨g, cap, cur, rfl, h1, (hb g rfl).trans h2, r⟩

theorem OI.base {w : World} {base base' : Nat} {v : Value} {l : List Int} (h : OI w base v l) (hb : base' ≤ base) : OI w base' v l := by
  refine ⟨h.1, ?_⟩
  rcases h.2 with h2 | ⟨g, cap, cur, rfl, h1, r⟩
  · exact .inl h2
  · exact .inr ⟨g, cap, cur, rfl, Nat.le_trans hb h1, r⟩

theorem OI.below {w w' : World} {base B : Nat} {v : Value} {l : List Int} (h : OI w base v l) (hb : Below B w w') (hB : w.heap.size ≤ B) : OI w' base v l :=
  h.move fun k hk => hb.block k (Nat.lt_of_lt_of_le (h.lt k hk).2 hB)

theorem size_alloc' (w : World) (o : Obj) : (w.alloc o).heap.size = w.heap.size + 1 := by simp

theorem heap_two (w : World) (o p : Obj) : ((w.alloc o).alloc p).heap[w.heap.size + 1]? = some p ∧ ((w.alloc o).alloc p).heap[w.heap.size]? = some o := by
  have e := heap_alloc_new (w.alloc o) p
  rw [size_alloc'] at e
  exact ⟨e, (Below.heap_alloc (w.alloc o) p w.heap.size (by rw [size_alloc']; omega)).trans (heap_alloc_new w o)⟩

theorem infoInt : (Tryz.prog.info? 3).map (fun i => (i.zero, i.size, i.bytes)) = some (some (.int .i64 0), 1, 8) := by kernel_rfl

theorem madeInts (n : Nat) : (madeCells #[Value.int .i64 0] n).toList = List.replicate n (Value.int .i64 0) := by
  have e : ∀ k : Nat, [Value.int IntKind.i64 0][k % 1]?.getD default = Value.int .i64 0 := fun k => by simp [Nat.mod_one]
  simp only [madeCells]
  simp [e, List.map_const']

theorem OI.of_full {w : World} {base g : Nat} {l : List Int} (hg : w.heap[g]? = some (.cells (l.map (Value.int .i64)).toArray 3 (0, 0))) (hb : base ≤ g) (hm : l.length ≤ maxLen) : OI w base (.slice (some ⟨g, 0, none⟩) l.length l.length) l :=
  ⟨by simp, .inr ⟨g, l.length, _, rfl, hb, hg, Nat.le_refl _, hm, by simp, List.take_of_length_le (by simp)⟩⟩

theorem addr_lit {w : World} {x : Addr} {u : Value} (h : w.cell? (x.add 0) = some u) : ∃ b o, x = ⟨b, o, none⟩ := by
  have hs := World.cell?_spot h
  obtain ⟨b, o, s⟩ := x
  refine ⟨b, o, ?_⟩
  unfold Addr.add at hs
  cases s with
  | none => rfl
  | some q => simp at hs

theorem size_setCell (w : World) (a : Addr) (u : Value) : (w.setCell a u).heap.size = w.heap.size := by simp [World.setCell]

theorem setCell_others (w : World) (g o : Nat) (u : Value) : ∀ k, k ≠ g → (w.setCell ⟨g, o, none⟩ u).heap[k]? = w.heap[k]? := fun k hk => Below.heap_setCell w _ u k hk

end Go.Proofs.YtmjdpfigkojolaaGreatDoor.H4

namespace Go.Proofs.YtmjdpfigkojolaaGreatDoor.H4

structure It (V : Type) where
  key : Int
  turn : Int
  val : V

instance {V : Type} [Inhabited V] : Inhabited (It V) := ⟨⟨0, 0, default⟩⟩

variable {V : Type}

def Lt (a b : It V) : Prop := a.key < b.key ∨ a.key = b.key ∧ a.turn < b.turn

instance (a b : It V) : Decidable (Lt a b) := by unfold Lt; infer_instance

theorem Lt.asymm {a b : It V} (h : Lt a b) : ¬ Lt b a := by unfold Lt at *; omega

theorem Lt.ntrans {a b c : It V} (h : ¬ Lt a b) (k : ¬ Lt b c) : ¬ Lt a c := by unfold Lt at *; omega

variable [Inhabited V]

def pt (xs : List (It V)) (i : Nat) : It V := xs.getD i default

theorem pt_eq {xs : List (It V)} {i : Nat} (h : i < xs.length) : pt xs i = xs[i] := by simp [pt, h]

def swp (xs : List (It V)) (i j : Nat) : List (It V) := (xs.set i (pt xs j)).set j (pt xs i)

@[simp] theorem length_swp (xs : List (It V)) (i j : Nat) : (swp xs i j).length = xs.length := by simp [swp]

def Tree (xs : List (It V)) : Prop := ∀ i, 0 < i → i < xs.length → ¬ Lt (pt xs i) (pt xs ((i - 1) / 2))

def fstTo (R : List (It V)) : Nat → Nat
  | 0 => 0
  | k + 1 => if (pt R k).key < (pt R (fstTo R k)).key then k else fstTo R k

def Asc (R : List (It V)) : Prop := ∀ i j, i < j → j < R.length → (pt R i).turn < (pt R j).turn

structure Holds (xs R : List (It V)) (n : Int) : Prop where
  tree : Tree xs
  perm : xs.Perm R
  asc : Asc R
  low : ∀ i, i < R.length → (pt R i).turn < n

theorem Holds.len {xs R : List (It V)} {n : Int} (h : Holds xs R n) : xs.length = R.length := h.perm.length_eq

theorem Asc.snoc {R : List (It V)} {n : Int} (h : Asc R) (hl : ∀ i, i < R.length → (pt R i).turn < n) (x : It V) (hx : x.turn = n) : Asc (R ++ [x]) ∧ ∀ i, i < (R ++ [x]).length → (pt (R ++ [x]) i).turn < n + 1 := by
  have e1 : ∀ i, i < R.length → pt (R ++ [x]) i = pt R i := fun i hi => by unfold pt; rw [List.getD, List.getD, List.getElem?_append_left hi]
  have e2 : pt (R ++ [x]) R.length = x := by unfold pt; simp [List.getD]
  refine ⟨fun i j hij hj => ?_, fun i hi => ?_⟩
  · rw [List.length_append, List.length_singleton] at hj
    by_cases ej : j = R.length
    · rw [ej, e2, e1 i (by omega), hx]
      exact hl i (by omega)
    · rw [e1 j (by omega), e1 i (by omega)]
      exact h i j hij (by omega)
  · rw [List.length_append, List.length_singleton] at hi
    by_cases ei : i = R.length
    · rw [ei, e2, hx]; omega
    · rw [e1 i (by omega)]
      have := hl i (by omega)
      omega

theorem Holds.push {xs R : List (It V)} {n : Int} (h : Holds xs R n) (x : It V) (hx : x.turn = n) {ys : List (It V)} (ht : Tree ys) (hp : ys.Perm (xs ++ [x])) : Holds ys (R ++ [x]) (n + 1) := by
  obtain ⟨a, b⟩ := h.asc.snoc h.low x hx
  exact ⟨ht, hp.trans (h.perm.append_right _), a, b⟩

end Go.Proofs.YtmjdpfigkojolaaGreatDoor.H4

