import Derived.Test.YtjmjjjpanioifaaGSpoil
import Derived.Deep.AppendLies
import Derived.Deep.RegionLaw
namespace Go.Proofs.Ytjmjjjpanioifaa
open Go.RowKit Go.Maps
set_option maxRecDepth 20000

def Role (K : Nat → Nat) (v : Value) (r : Nat) : Prop := ∀ k, v.ownBlock = some k → K k = r

/-- What is not one's own stays. -/
structure Fr (K K' : Nat → Nat) (w w' : World) : Prop where
  os : w'.os = w.os
  tape : w'.tape = w.tape
  output : w'.output = w.output
  size : w.heap.size ≤ w'.heap.size
  block : ∀ k, k < w.heap.size → K k = 0 → w'.heap[k]? = w.heap[k]?
  role : ∀ k, k < w.heap.size → K' k = K k

theorem Fr.refl (K : Nat → Nat) (w : World) : Fr K K w w := ⟨rfl, rfl, rfl, Nat.le_refl _, fun _ _ _ => rfl, fun _ _ => rfl⟩

theorem Fr.trans {K K' K'' : Nat → Nat} {a b c : World} (h : Fr K K' a b) (k : Fr K' K'' b c) : Fr K K'' a c :=
  ⟨k.os.trans h.os, k.tape.trans h.tape, k.output.trans h.output, Nat.le_trans h.size k.size,
   fun i hi h0 => (k.block i (Nat.lt_of_lt_of_le hi h.size) (by rw [h.role i hi]; exact h0)).trans (h.block i hi h0),
   fun i hi => (k.role i (Nat.lt_of_lt_of_le hi h.size)).trans (h.role i hi)⟩

theorem Fr.of_below {K : Nat → Nat} {w w' : World} (h : Below w.heap.size w w') : Fr K K w w' :=
  ⟨h.os, h.tape, h.output, h.size, fun k hk _ => h.block k hk, fun _ _ => rfl⟩

theorem Fr.below {K K' : Nat → Nat} {w w' : World} {B : Nat} (h : Fr K K' w w') (hu : ∀ k, K k ≠ 0 → B ≤ k) (hB : B ≤ w.heap.size) : Below B w w' :=
  ⟨h.os, h.tape, h.output, h.size, fun k hk => h.block k (by omega) (by
    by_cases hz : K k = 0
    · exact hz
    · have := hu k hz; omega)⟩

theorem Fr.up {K K' : Nat → Nat} {w w' : World} {B : Nat} (h : Fr K K' w w') (hu : ∀ k, K k ≠ 0 → B ≤ k) (hB : B ≤ w.heap.size) : ∀ k, K' k ≠ 0 → B ≤ k := by
  intro k hk
  by_cases hl : k < w.heap.size
  · exact hu k (by rw [← h.role k hl]; exact hk)
  · omega

theorem Fr.drewN {K K' : Nat → Nat} {w w' : World} (h : Fr K K' w w') (n : Nat) : Fr K K' w (w'.drewN n) := ⟨h.os, h.tape, h.output, h.size, h.block, h.role⟩

structure BSt where
  l : List Int
  m : Int
  e : Int

/-- The struct of a buffer: the program's (true), the document's (false). -/
def SS : Bool → World → Nat → Value → Int → Int → Prop
  | true, w, g, v, m, e => S3 110 w g v (.int .i64 m) (.int .i64 e)
  | false, w, g, v, m, e => S3 110 w g (.int .i64 m) v (.int .i64 e)

def spot : Bool → Nat
  | true => 0
  | false => 1

theorem SS.lt {p : Bool} {w : World} {g : Nat} {v : Value} {m e : Int} (h : SS p w g v m e) : g < w.heap.size := by
  cases p
  · exact S3.lt h
  · exact S3.lt h

theorem SS.same {p : Bool} {w w' : World} {g : Nat} {v : Value} {m e : Int} (h : SS p w g v m e) (hw : w'.heap[g]? = w.heap[g]?) : SS p w' g v m e := by
  cases p
  · exact hw.trans h
  · exact hw.trans h

theorem SS.err {p : Bool} {w : World} {g : Nat} {v : Value} {m e : Int} (h : SS p w g v m e) (e' : Int) : SS p (w.setCell ⟨g, 2, none⟩ (.int .i64 e')) g v m e' := by
  cases p
  · exact (S3.set h).2.2 _
  · exact (S3.set h).2.2 _

theorem SS.data {p : Bool} {w : World} {g : Nat} {v : Value} {m e : Int} (h : SS p w g v m e) (v' : Value) : SS p (w.setCell ⟨g, spot p, none⟩ v') g v' m e := by
  cases p
  · exact (S3.set h).2.1 _
  · exact (S3.set h).1 _

/-- A buffer in memory. -/
structure BuV (p : Bool) (w : World) (K : Nat → Nat) (g : Nat) (v : Value) (st : BSt) : Prop where
  s : SS p w g v st.m st.e
  kg : K g = 1
  o : OB w 0 v st.l
  kv : Role K v 2
  sup : ∀ k, K k ≠ 0 → k < w.heap.size
  pos : st.e = 0 → 0 ≤ st.m
  top : st.m ≤ 9223372036854775807

def Bu (p : Bool) (w : World) (K : Nat → Nat) (g : Nat) (st : BSt) : Prop := ∃ v, BuV p w K g v st

theorem BuV.ng {p : Bool} {w : World} {K : Nat → Nat} {g : Nat} {v : Value} {st : BSt} (h : BuV p w K g v st) : v.ownBlock ≠ some g := fun e => by
  have := h.kv g e
  rw [h.kg] at this
  omega

theorem BuV.far {p : Bool} {w w' : World} {K : Nat → Nat} {g : Nat} {v : Value} {st : BSt} (h : BuV p w K g v st) (hsz : w.heap.size ≤ w'.heap.size) (hb : ∀ k, K k ≠ 0 → w'.heap[k]? = w.heap[k]?) : BuV p w' K g v st :=
  ⟨h.s.same (hb g (by rw [h.kg]; omega)), h.kg, h.o.move fun k hk => hb k (by rw [h.kv k hk]; omega), h.kv, fun k hk => Nat.lt_of_lt_of_le (h.sup k hk) hsz, h.pos, h.top⟩

theorem Bu.far {p : Bool} {w w' : World} {K : Nat → Nat} {g : Nat} {st : BSt} (h : Bu p w K g st) (hsz : w.heap.size ≤ w'.heap.size) (hb : ∀ k, K k ≠ 0 → w'.heap[k]? = w.heap[k]?) : Bu p w' K g st := by
  obtain ⟨v, h⟩ := h
  exact ⟨v, h.far hsz hb⟩

theorem Bu.below {p : Bool} {w w' : World} {K : Nat → Nat} {g : Nat} {st : BSt} (h : Bu p w K g st) (hb : Below w.heap.size w w') : Bu p w' K g st := by
  obtain ⟨v, h⟩ := h
  exact ⟨v, h.far hb.size fun k hk => hb.block k (h.sup k hk)⟩

theorem BuV.drewN {p : Bool} {w : World} {K : Nat → Nat} {g : Nat} {v : Value} {st : BSt} (h : BuV p w K g v st) (n : Nat) : BuV p (w.drewN n) K g v st := h.far (Nat.le_refl _) (fun _ _ => rfl)

theorem BuV.err {p : Bool} {w : World} {K : Nat → Nat} {g : Nat} {v : Value} {st : BSt} (h : BuV p w K g v st) (e : Int) (he : e ≠ 0) : BuV p (w.setCell ⟨g, 2, none⟩ (.int .i64 e)) K g v { st with e := e } ∧ Fr K K w (w.setCell ⟨g, 2, none⟩ (.int .i64 e)) :=
  ⟨⟨h.s.err e, h.kg, h.o.move fun k hk => setCell_others w g 2 _ k (fun e => h.ng (by rw [← e]; exact hk)), h.kv, fun k hk => by rw [size_setCell]; exact h.sup k hk, fun h0 => absurd h0 he, h.top⟩,
   ⟨rfl, rfl, rfl, by rw [size_setCell]; exact Nat.le_refl _, fun k _ h0 => setCell_others w g 2 _ k (fun e => by rw [e, h.kg] at h0; omega), fun _ _ => rfl⟩⟩

/-- The bytes come to lie in a row that the append made or wrote. -/
theorem BuV.put {p : Bool} {w w1 : World} {K : Nat → Nat} {g : Nat} {v v' : Value} {st : BSt} {l' : List Int} (h : BuV p w K g v st) (hg : w.grownBy w1 v.ownBlock) (ho : OB w1 0 v' l') (hat : v'.ownBlock = v.ownBlock ∨ ∀ k, v'.ownBlock = some k → w.heap.size ≤ k) :
    ∃ K', BuV p (w1.setCell ⟨g, spot p, none⟩ v') K' g v' { st with l := l' } ∧ Fr K K' w (w1.setCell ⟨g, spot p, none⟩ v') := by
  have hgl := h.s.lt
  have hng : v'.ownBlock ≠ some g := fun e => by
    rcases hat with h1 | h1
    · exact h.ng (h1 ▸ e)
    · have := h1 g e; omega
  refine ⟨fun k => if v'.ownBlock = some k then 2 else K k, ⟨?_, ?_, ?_, ?_, ?_, h.pos, h.top⟩, ⟨hg.os, hg.tape, hg.output, by rw [size_setCell]; exact hg.size, fun k hk h0 => ?_, fun k hk => ?_⟩⟩
  · exact (h.s.same (hg.block g hgl (fun e => h.ng e.symm))).data v'
  · simp [hng, h.kg]
  · exact ho.move fun k hk => setCell_others w1 g _ _ k (fun e => hng (by rw [← e]; exact hk))
  · intro k hk; simp [hk]
  · intro k hk
    rw [size_setCell]
    by_cases e : v'.ownBlock = some k
    · exact (ho.lt k e).2
    · simp [e] at hk
      exact Nat.lt_of_lt_of_le (h.sup k hk) hg.size
  · have e1 : k ≠ g := fun e => by rw [e, h.kg] at h0; omega
    have e2 : v.ownBlock ≠ some k := fun e => by rw [h.kv k e] at h0; omega
    exact (setCell_others w1 g _ _ k e1).trans (hg.block k hk (fun e => e2 e.symm))
  · by_cases e : v'.ownBlock = some k
    · simp only [e, if_true]
      rcases hat with h1 | h1
      · exact (h.kv k (h1 ▸ e)).symm
      · have := h1 k e; omega
    · simp only [e, if_false]

/-- Bytes within the row are written over. -/
theorem BuV.over {p : Bool} {w : World} {K : Nat → Nat} {g b o : Nat} {v : Value} {st : BSt} {u : Value} {l' : List Int} (h : BuV p w K g v st) (hv : v.ownBlock = some b) (ho : OB (w.setCell ⟨b, o, none⟩ u) 0 v l') : BuV p (w.setCell ⟨b, o, none⟩ u) K g v { st with l := l' } ∧ Fr K K w (w.setCell ⟨b, o, none⟩ u) := by
  have hb : b ≠ g := fun e => h.ng (by rw [hv, e])
  exact ⟨⟨h.s.same (setCell_others w b o u g (fun e => hb e.symm)), h.kg, ho, h.kv, fun k hk => by rw [size_setCell]; exact h.sup k hk, h.pos, h.top⟩,
   ⟨rfl, rfl, rfl, by rw [size_setCell]; exact Nat.le_refl _, fun k _ h0 => setCell_others w b o _ k (fun e => by rw [e, h.kv b hv] at h0; omega), fun _ _ => rfl⟩⟩

theorem berr_any {w : World} {K : Nat → Nat} {g : Nat} {v : Value} {st : BSt} (h : BuV true w K g v st) :
    Calls Try.prog 70 #[.pointer (some ⟨g, 0, none⟩)] w fun e w' => e = .returned (.int .i64 st.e) ∧ w' = w := by
  obtain ⟨c0, c1, c2⟩ := S3.at h.s
  clear h c0 c1
  go_enter Try.func70, Try.ntmps70
  go_wp2
  go_ret
  exact ⟨rfl, rfl⟩

end Go.Proofs.Ytjmjjjpanioifaa

