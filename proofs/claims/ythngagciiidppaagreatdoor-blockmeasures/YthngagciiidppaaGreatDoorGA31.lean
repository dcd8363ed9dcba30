import Derived.Test.YthngagciiidppaaGreatDoorGA00
import Derived.Handy
import Derived.Test.YthngagciiidppaaGreatDoorGA04
namespace Go.Proofs.YthngagciiidppaaGreatDoor
open Go.RowKit Go.Maps
set_option maxRecDepth 20000

/-- An object whose first cell is a list of bytes of its own. -/
structure WV (T : Nat) (rest : List Value) (w : World) (K : Nat → Nat) (g : Nat) (v : Value) (d : List Int) : Prop where
  s : w.heap[g]? = some (.cells (v :: rest).toArray T (0, 0))
  kg : K g = 1
  o : OB w 0 v d
  kv : ∀ k, v.ownBlock = some k → K k = 2
  sup : ∀ k, K k ≠ 0 → k < w.heap.size

theorem WV.lt {T : Nat} {rest : List Value} {w : World} {K : Nat → Nat} {g : Nat} {v : Value} {d : List Int} (h : WV T rest w K g v d) : g < w.heap.size := (Array.getElem?_eq_some_iff.1 h.s).1

theorem WV.ng {T : Nat} {rest : List Value} {w : World} {K : Nat → Nat} {g : Nat} {v : Value} {d : List Int} (h : WV T rest w K g v d) : v.ownBlock ≠ some g := fun e => by
  have := h.kv g e
  rw [h.kg] at this
  omega

theorem WV.cell {T : Nat} {rest : List Value} {w : World} {K : Nat → Nat} {g : Nat} {v : Value} {d : List Int} (h : WV T rest w K g v d) (i : Nat) : w.cell? ⟨g, i, none⟩ = (v :: rest)[i]? := by
  simp [World.cell?, h.s]

theorem WV.free {T : Nat} {rest : List Value} {w : World} {K : Nat → Nat} {g : Nat} {v : Value} {d : List Int} (h : WV T rest w K g v d) : ∀ o, w.frozen? ⟨g, o, none⟩ = false := fun o => by
  simp [World.frozen?, h.s]

theorem WV.far {T : Nat} {rest : List Value} {w w' : World} {K : Nat → Nat} {g : Nat} {v : Value} {d : List Int} (h : WV T rest w K g v d) (hsz : w.heap.size ≤ w'.heap.size) (hb : ∀ k, K k ≠ 0 → w'.heap[k]? = w.heap[k]?) : WV T rest w' K g v d :=
  ⟨(hb g (by rw [h.kg]; omega)).trans h.s, h.kg, h.o.move fun k hk => hb k (by rw [h.kv k hk]; omega), h.kv, fun k hk => Nat.lt_of_lt_of_le (h.sup k hk) hsz⟩

theorem WV.below {T : Nat} {rest : List Value} {w w' : World} {K : Nat → Nat} {g : Nat} {v : Value} {d : List Int} (h : WV T rest w K g v d) (hb : Below w.heap.size w w') : WV T rest w' K g v d := h.far hb.size fun k hk => hb.block k (h.sup k hk)

theorem WV.drewN {T : Nat} {rest : List Value} {w : World} {K : Nat → Nat} {g : Nat} {v : Value} {d : List Int} (h : WV T rest w K g v d) (n : Nat) : WV T rest (w.drewN n) K g v d := h.far (Nat.le_refl _) (fun _ _ => rfl)

theorem WV.block {T : Nat} {rest : List Value} {w w' : World} {K : Nat → Nat} {g : Nat} {v : Value} {d : List Int} (h : WV T rest w K g v d) {rest' : List Value} (hs : w'.heap[g]? = some (.cells (v :: rest').toArray T (0, 0))) (hz : w'.heap.size = w.heap.size) (hk : ∀ k, k ≠ g → w'.heap[k]? = w.heap[k]?) : WV T rest' w' K g v d :=
  ⟨hs, h.kg, h.o.move fun k hk' => hk k fun e => h.ng (by rw [← e]; exact hk'), h.kv, fun k hk' => by rw [hz]; exact h.sup k hk'⟩

theorem WV.fr {T : Nat} {rest : List Value} {w w' : World} {K : Nat → Nat} {g : Nat} {v : Value} {d : List Int} (h : WV T rest w K g v d) (h1 : w'.os = w.os) (h2 : w'.tape = w.tape) (h3 : w'.output = w.output) (hz : w'.heap.size = w.heap.size) (hk : ∀ k, k ≠ g → w'.heap[k]? = w.heap[k]?) : Fr K K w w' :=
  ⟨h1, h2, h3, by rw [hz]; exact Nat.le_refl _, fun k _ h0 => hk k fun e => by rw [e, h.kg] at h0; omega, fun _ _ => rfl⟩

/-- Another cell of the object is written. -/
theorem WV.set {T : Nat} {rest : List Value} {w : World} {K : Nat → Nat} {g : Nat} {v : Value} {d : List Int} (h : WV T rest w K g v d) (i : Nat) (u : Value) : WV T (rest.set i u) (w.setCell ⟨g, i + 1, none⟩ u) K g v d ∧ Fr K K w (w.setCell ⟨g, i + 1, none⟩ u) := by
  have hk := setCell_others w g (i + 1) u
  refine ⟨h.block ?_ (size_setCell _ _ _) hk, h.fr rfl rfl rfl (size_setCell _ _ _) hk⟩
  rw [heap_setCell_at u h.s]
  congr 2
  simp

/-- The bytes come to lie in a row that the append made or wrote. -/
theorem WV.put {T : Nat} {rest : List Value} {w w1 : World} {K : Nat → Nat} {g : Nat} {v v' : Value} {d d' : List Int} (h : WV T rest w K g v d) (hg : w.grownBy w1 v.ownBlock) (ho : OB w1 0 v' d') (hat : v'.ownBlock = v.ownBlock ∨ ∀ k, v'.ownBlock = some k → w.heap.size ≤ k) :
    ∃ K', WV T rest (w1.setCell ⟨g, 0, none⟩ v') K' g v' d' ∧ Fr K K' w (w1.setCell ⟨g, 0, none⟩ v') := by
  have hgl := h.lt
  have hng : v'.ownBlock ≠ some g := fun e => by
    rcases hat with h1 | h1
    · exact h.ng (h1 ▸ e)
    · have := h1 g e; omega
  refine ⟨fun k => if v'.ownBlock = some k then 2 else K k, ⟨?_, ?_, ?_, ?_, ?_⟩, ⟨hg.os, hg.tape, hg.output, by rw [size_setCell]; exact hg.size, fun k hk h0 => ?_, fun k hk => ?_⟩⟩
  · rw [heap_setCell_at v' ((hg.block g hgl (fun e => h.ng e.symm)).trans h.s)]
    congr 2
  · simp [hng, h.kg]
  · exact ho.move fun k hk => setCell_others w1 g _ _ k (fun e => hng (by rw [← e]; exact hk))
  · intro k hk; simp [hk]
  · intro k hk
    rw [size_setCell]
    by_cases e : v'.ownBlock = some k
    · exact (ho.lt k e).2
    · simp [e] at hk
      exact Nat.lt_of_lt_of_le (h.sup k hk) hg.size
  · have e1 : k ≠ g := fun e => by rw [e, h.kg] at h0; omega
    have e2 : v.ownBlock ≠ some k := fun e => by rw [h.kv k e] at h0; omega
    exact (setCell_others w1 g _ _ k e1).trans (hg.block k hk (fun e => e2 e.symm))
  · by_cases e : v'.ownBlock = some k
    · simp only [e, if_true]
      rcases hat with h1 | h1
      · exact (h.kv k (h1 ▸ e)).symm
      · have := h1 k e; omega
    · simp only [e, if_false]

/-- What stood in the first bytes of the row, and in other blocks, stands there still. -/
structure Stays (g : Nat) (w w' : World) (v : Value) (n : Nat) (v' : Value) (n' : Nat) : Prop where
  c : ∀ b i, b < w.heap.size → b ≠ g → (v.ownBlock = some b → i < n) → w'.cell? ⟨b, i, none⟩ = w.cell? ⟨b, i, none⟩
  at' : v'.ownBlock = v.ownBlock ∨ ∀ k, v'.ownBlock = some k → w.heap.size ≤ k
  le : n ≤ n'
  sz : w.heap.size ≤ w'.heap.size

theorem Stays.refl (g : Nat) (w : World) (v : Value) (n : Nat) : Stays g w w v n v n := ⟨fun _ _ _ _ _ => rfl, .inl rfl, Nat.le_refl _, Nat.le_refl _⟩

theorem Stays.trans {g : Nat} {a b c : World} {v1 v2 v3 : Value} {n1 n2 n3 : Nat} (h : Stays g a b v1 n1 v2 n2) (k : Stays g b c v2 n2 v3 n3) : Stays g a c v1 n1 v3 n3 := by
  refine ⟨fun x i hx hg hi => (k.c x i (Nat.lt_of_lt_of_le hx h.sz) hg (fun e => ?_)).trans (h.c x i hx hg hi), ?_, Nat.le_trans h.le k.le, Nat.le_trans h.sz k.sz⟩
  · rcases h.at' with e1 | e1
    · exact Nat.lt_of_lt_of_le (hi (by rw [← e1]; exact e)) h.le
    · have := e1 x e; omega
  · rcases k.at' with e1 | e1
    · rw [e1]; exact h.at'
    · exact .inr fun x hx => Nat.le_trans h.sz (e1 x hx)

theorem u64_or {r x : Int} {h n : Nat} (r0 : 0 ≤ r) (r1 : r < 2 ^ h) (x0 : 0 ≤ x) (x1 : x < 2 ^ n) (hn : h + n ≤ 63) : bits .or .u64 r (x * 2 ^ h) = r + x * 2 ^ h ∧ 0 ≤ x * 2 ^ h ∧ x * 2 ^ h < 2 ^ 63 ∧ r + x * 2 ^ h < 2 ^ (h + n) := by
  have hp := pow_pos h
  have hx0 : 0 ≤ x * 2 ^ h := Int.mul_nonneg x0 (by omega)
  have e : (2 : Int) ^ (h + n) = 2 ^ n * 2 ^ h := by rw [Nat.add_comm, Int.pow_add]
  have hx1 : x * 2 ^ h ≤ 2 ^ (h + n) - 2 ^ h := by
    rw [e]
    have := Int.mul_le_mul_of_nonneg_right (show x ≤ 2 ^ n - 1 by omega) (Int.le_of_lt hp)
    rw [Int.sub_mul] at this
    omega
  have h63 : (2 : Int) ^ (h + n) ≤ 2 ^ 63 := pow_le hn
  refine ⟨?_, hx0, by omega, by omega⟩
  have comm : bits .or .u64 r (x * 2 ^ h) = bits .or .u64 (x * 2 ^ h) r := by
    simp only [bits]
    rw [BitVec.or_comm]
  rw [comm, bits_join .u64 63 (by decide) (fun n a b => by rw [IntKind.wrap_u64]; omega) h (x * 2 ^ h) r hx0 (by simp) (by omega) r0 r1 (by omega)]
  omega

theorem OB.get {w : World} {base : Nat} {v : Value} {l : List Int} (h : OB w base v l) {b : Nat} (hv : v.ownBlock = some b) {i : Nat} (hi : i < l.length) : w.cell? ⟨b, i, none⟩ = some (.int .u8 (l.getD i 0)) := by
  have hc := @World.ownsRow.cells _ _ _ _ _ _ _ h
  rcases h.2 with ⟨rfl, _⟩ | ⟨g, cap, cur, rfl, _⟩
  · simp [Value.ownBlock] at hv
  · simp [Value.ownBlock] at hv
    subst hv
    have := hc (g := g) rfl i (.int .u8 (l.getD i 0)) (by simp [hi])
    rw [Addr.add_lit] at this
    simpa using this

theorem Grew.stays {w w' : World} {v v' : Value} {d news : List Int} (h : Grew w w' v v') (ho : OB w 0 v d) (ho' : OB w' 0 v' (d ++ news)) {b i : Nat} (hb : b < w.heap.size) (hi : v.ownBlock = some b → i < d.length) : w'.cell? ⟨b, i, none⟩ = w.cell? ⟨b, i, none⟩ := by
  rcases h with ⟨_, rfl⟩ | ⟨_, hbel⟩ | ⟨he, _, hg⟩
  · rfl
  · exact World.cell?_of_block (hbel.block b hb)
  · by_cases e : v.ownBlock = some b
    · rw [ho.get e (hi e), ho'.get (he.trans e) (by rw [List.length_append]; have := hi e; omega)]
      simp only [List.getD, List.getElem?_append_left (hi e)]
    · exact World.cell?_of_block (hg.block b hb (fun x => e x.symm))

/-- A row of bits that is being put. -/
structure Half (row d : List Int) (R : Int) (h : Nat) : Prop where
  e : row = unpack d ++ bts R h
  b : Byt d
  r0 : 0 ≤ R
  r1 : R < 2 ^ h

theorem Half.step {row d : List Int} {R : Int} {h : Nat} (k : Half row d R h) (h8 : 8 ≤ h) : Half row (d ++ [R % 256]) (R / 256) (h - 8) := by
  obtain ⟨e, b, r0, r1⟩ := k
  refine ⟨?_, byt_append b (byt_one (by omega) (by omega)), by omega, ?_⟩
  · rw [e, unpack_append, unpack_one, List.append_assoc]
    congr 1
    have := bts_split R 8 (h - 8)
    rw [show 8 + (h - 8) = h by omega] at this
    rw [this, ← bts_mod R 8]
    rfl
  · have e2 : (2 : Int) ^ h = 2 ^ (h - 8) * 256 := by
      conv => lhs; rw [show h = (h - 8) + 8 by omega, Int.pow_add]
      rfl
    rw [e2] at r1
    exact Int.ediv_lt_of_lt_mul (by omega) r1

theorem SB.heap {w w' : World} {v : Value} {l : List Int} (h : SB w v l) (e : w'.heap = w.heap) : SB w' v l :=
  h.move fun a u ha _ => by rw [World.cell?_of_block (w := w) (by rw [e])]; exact ha

theorem built_sb (w : World) (cs : List Int) (hm : cs.length ≤ maxLen) : SB (w.alloc (.cells (cs.map (Value.int .u8)).toArray 5)) (.slice (some ⟨w.heap.size, 0, none⟩) cs.length cs.length) cs := by
  refine ⟨_, _, rfl, Nat.le_refl _, hm, (fun h => by cases h), fun x hx i hi => ?_⟩
  cases hx
  rw [Addr.add_lit]
  have e := heap_alloc_new w (.cells (cs.map (Value.int .u8)).toArray 5)
  unfold World.cell?
  simp only [e]
  simp [hi]

end Go.Proofs.YthngagciiidppaaGreatDoor

namespace Go.Proofs.YthngagciiidppaaGreatDoor
open Go.RowKit Go.Maps
set_option maxRecDepth 20000

def putOk (row : List Int) (v n : Int) : Prop := Fit v n ∧ (row.length : Int) + n ≤ 268435456
instance (row : List Int) (v n : Int) : Decidable (putOk row v n) := by unfold putOk; exact inferInstance
def putE (row : List Int) (v n : Int) : Int := if putOk row v n then 0 else 1
def putRow (row : List Int) (v n : Int) : List Int := if putOk row v n then row ++ bts v n.toNat else row

def alignRow (row : List Int) : List Int := pad row

theorem top_pad {row : List Int} (h : row.length ≤ 268435456) : (pad row).length ≤ 268435456 := by
  rw [length_pad]; omega

end Go.Proofs.YthngagciiidppaaGreatDoor

namespace Go.Proofs.YthngagciiidppaaGreatDoor
open Go.RowKit Go.Maps
set_option maxRecDepth 20000

theorem pow256 (k : Nat) : (256 : Int) ^ k = 2 ^ (8 * k) := by
  rw [Int.pow_mul]
  rfl

theorem u64_mask {x : Int} {n : Nat} (h0 : 0 ≤ x) (h1 : x < 2 ^ 63) (hn : n ≤ 32) : bits .and .u64 x (2 ^ n - 1) = x % 2 ^ n :=
  bits_mask .u64 63 (by decide) (fun n a b => by rw [IntKind.wrap_u64]; omega) n (by omega) x h0 h1

theorem getD_piece (d : List Int) {F L k : Nat} (hk : k < L) : ((d.drop F).take L).getD k 0 = d.getD (F + k) 0 := by
  simp [List.getD, hk]

/-- The loop's slices are pieces of the bytes. -/
theorem piece_cells {w : World} {b c : Nat} {d l : List Int} {F L : Nat} (h : OB w 0 (.slice (some ⟨b, 0, none⟩) d.length c) d) (hl : l = (d.drop F).take L) (hb : F + L ≤ d.length) : l.length = L ∧ ∀ k, k < l.length → w.cell? ⟨b, F + k, none⟩ = some (.int .u8 (l.getD k 0)) := by
  have e : l.length = L := by rw [hl, List.length_take, List.length_drop]; omega
  refine ⟨e, fun k hk => ?_⟩
  rw [h.get rfl (i := F + k) (by omega), hl, getD_piece d (by omega)]

end Go.Proofs.YthngagciiidppaaGreatDoor

namespace Go.Proofs.YthngagciiidppaaGreatDoor
open Go.RowKit Go.Maps
set_option maxRecDepth 20000

def takeOk (row : List Int) (p : Nat) (n : Int) : Prop := Cnt n ∧ n ≤ (row.length : Int) - p
instance (row : List Int) (p : Nat) (n : Int) : Decidable (takeOk row p n) := by unfold takeOk; exact inferInstance
def takeE (row : List Int) (p : Nat) (n : Int) : Int := if Cnt n then (if n ≤ (row.length : Int) - p then 0 else 30) else 1
def takeV (row : List Int) (p : Nat) (n : Int) : Int := if takeOk row p n then ahead row p n.toNat else 0
def takeP (row : List Int) (p : Nat) (n : Int) : Nat := if takeOk row p n then p + n.toNat else p

def peekV (row : List Int) (p : Nat) (n : Int) : Int := if Cnt n then ahead row p n.toNat else 0
def peekK (row : List Int) (p : Nat) (n : Int) : Int := if Cnt n then min n ((row.length : Int) - p) else 0

def skipE (row : List Int) (p : Nat) (n : Int) : Int := if n < 0 then 1 else if n ≤ (row.length : Int) - p then 0 else 30
def skipP (row : List Int) (p : Nat) (n : Int) : Nat := if n < 0 then p else if n ≤ (row.length : Int) - p then p + n.toNat else p

def algn (p : Nat) : Nat := (p + 7) / 8 * 8

def rrawE (row : List Int) (p : Nat) (n : Int) : Int := if n < 0 then 1 else if p % 8 ≠ 0 then 31 else if n ≤ ((row.length : Int) - p) / 8 then 0 else 30
noncomputable def rrawL (row : List Int) (p : Nat) (n : Int) : List Int := if rrawE row p n = 0 then pack ((row.drop p).take (8 * n.toNat)) else []
def rrawP (row : List Int) (p : Nat) (n : Int) : Nat := if rrawE row p n = 0 then p + 8 * n.toNat else p

end Go.Proofs.YthngagciiidppaaGreatDoor

