import Derived.Test.YtijmmfimkibgbaaGSt
import Derived.Deep.AppendLies
import Derived.Deep.RegionLaw
namespace Go.Proofs.Ytijmmfimkibgbaa
open Go.RowKit Go.Maps
set_option maxRecDepth 20000

def Role (K : Nat → Nat) (v : Value) (r : Nat) : Prop := ∀ k, v.ownBlock = some k → K k = r

/-- What is not one's own stays. -/
structure Fr (K K' : Nat → Nat) (w w' : World) : Prop where
  os : w'.os = w.os
  tape : w'.tape = w.tape
  output : w'.output = w.output
  size : w.heap.size ≤ w'.heap.size
  block : ∀ k, k < w.heap.size → K k = 0 → w'.heap[k]? = w.heap[k]?
  role : ∀ k, k < w.heap.size → K' k = K k

theorem Fr.refl (K : Nat → Nat) (w : World) : Fr K K w w := ⟨rfl, rfl, rfl, Nat.le_refl _, fun _ _ _ => rfl, fun _ _ => rfl⟩

theorem Fr.trans {K K' K'' : Nat → Nat} {a b c : World} (h : Fr K K' a b) (k : Fr K' K'' b c) : Fr K K'' a c :=
  ⟨k.os.trans h.os, k.tape.trans h.tape, k.output.trans h.output, Nat.le_trans h.size k.size,
   fun i hi h0 => (k.block i (Nat.lt_of_lt_of_le hi h.size) (by rw [h.role i hi]; exact h0)).trans (h.block i hi h0),
   fun i hi => (k.role i (Nat.lt_of_lt_of_le hi h.size)).trans (h.role i hi)⟩

theorem Fr.of_below {K : Nat → Nat} {w w' : World} (h : Below w.heap.size w w') : Fr K K w w' :=
  ⟨h.os, h.tape, h.output, h.size, fun k hk _ => h.block k hk, fun _ _ => rfl⟩

theorem Fr.below {K K' : Nat → Nat} {w w' : World} {B : Nat} (h : Fr K K' w w') (hu : ∀ k, K k ≠ 0 → B ≤ k) (hB : B ≤ w.heap.size) : Below B w w' :=
  ⟨h.os, h.tape, h.output, h.size, fun k hk => h.block k (by omega) (by
    by_cases hz : K k = 0
    · exact hz
    · have := hu k hz; omega)⟩

theorem Fr.up {K K' : Nat → Nat} {w w' : World} {B : Nat} (h : Fr K K' w w') (hu : ∀ k, K k ≠ 0 → B ≤ k) (hB : B ≤ w.heap.size) : ∀ k, K' k ≠ 0 → B ≤ k := by
  intro k hk
  by_cases hl : k < w.heap.size
  · exact hu k (by rw [← h.role k hl]; exact hk)
  · omega

theorem Fr.drewN {K K' : Nat → Nat} {w w' : World} (h : Fr K K' w w') (n : Nat) : Fr K K' w (w'.drewN n) := ⟨h.os, h.tape, h.output, h.size, h.block, h.role⟩

structure BSt where
  l : List Int
  m : Int
  e : Int

/-- The struct of a buffer: the program's (true), the document's (false). -/
def SS : Bool → World → Nat → Value → Int → Int → Prop
  | true, w, g, v, m, e => S3 72 w g v (.int .i64 m) (.int .i64 e)
  | false, w, g, v, m, e => S3 72 w g (.int .i64 m) v (.int .i64 e)

def spot : Bool → Nat
  | true => 0
  | false => 1

theorem SS.lt {p : Bool} {w : World} {g : Nat} {v : Value} {m e : Int} (h : SS p w g v m e) : g < w.heap.size := by
  cases p
  · exact S3.lt h
  · exact S3.lt h

theorem SS.same {p : Bool} {w w' : World} {g : Nat} {v : Value} {m e : Int} (h : SS p w g v m e) (hw : w'.heap[g]? = w.heap[g]?) : SS p w' g v m e := by
  cases p
  · exact hw.trans h
  · exact hw.trans h

theorem SS.err {p : Bool} {w : World} {g : Nat} {v : Value} {m e : Int} (h : SS p w g v m e) (e' : Int) : SS p (w.setCell ⟨g, 2, none⟩ (.int .i64 e')) g v m e' := by
  cases p
  · exact (S3.set h).2.2 _
  · exact (S3.set h).2.2 _

theorem SS.data {p : Bool} {w : World} {g : Nat} {v : Value} {m e : Int} (h : SS p w g v m e) (v' : Value) : SS p (w.setCell ⟨g, spot p, none⟩ v') g v' m e := by
  cases p
  · exact (S3.set h).2.1 _
  · exact (S3.set h).1 _

/-- A buffer in memory. -/
structure BuV (p : Bool) (w : World) (K : Nat → Nat) (g : Nat) (v : Value) (st : BSt) : Prop where
  s : SS p w g v st.m st.e
  kg : K g = 1
  o : OB w 0 v st.l
  kv : Role K v 2
  sup : ∀ k, K k ≠ 0 → k < w.heap.size
  pos : st.e = 0 → 0 ≤ st.m
  top : st.m ≤ 9223372036854775807

def Bu (p : Bool) (w : World) (K : Nat → Nat) (g : Nat) (st : BSt) : Prop := ∃ v, BuV p w K g v st

theorem BuV.ng {p : Bool} {w : World} {K : Nat → Nat} {g : Nat} {v : Value} {st : BSt} (h : BuV p w K g v st) : v.ownBlock ≠ some g := fun e => by
  have := h.kv g e
  rw [h.kg] at this
  omega

theorem BuV.far {p : Bool} {w w' : World} {K : Nat → Nat} {g : Nat} {v : Value} {st : BSt} (h : BuV p w K g v st) (hsz : w.heap.size ≤ w'.heap.size) (hb : ∀ k, K k ≠ 0 → w'.heap[k]? = w.heap[k]?) : BuV p w' K g v st :=
  ⟨h.s.same (hb g (by rw [h.kg]; omega)), h.kg, h.o.move fun k hk => hb k (by rw [h.kv k hk]; omega), h.kv, fun k hk => Nat.lt_of_lt_of_le (h.sup k hk) hsz, h.pos, h.top⟩

theorem Bu.far {p : Bool} {w w' : World} {K : Nat → Nat} {g : Nat} {st : BSt} (h : Bu p w K g st) (hsz : w.heap.size ≤ w'.heap.size) (hb : ∀ k, K k ≠ 0 → w'.heap[k]? = w.heap[k]?) : Bu p w' K g st := by
  obtain ⟨v, h⟩ := h
  exact ⟨v, h.far hsz hb⟩

theorem Bu.below {p : Bool} {w w' : World} {K : Nat → Nat} {g : Nat} {st : BSt} (h : Bu p w K g st) (hb : Below w.heap.size w w') : Bu p w' K g st := by
  obtain ⟨v, h⟩ := h
  exact ⟨v, h.far hb.size fun k hk => hb.block k (h.sup k hk)⟩

theorem BuV.drewN {p : Bool} {w : World} {K : Nat → Nat} {g : Nat} {v : Value} {st : BSt} (h : BuV p w K g v st) (n : Nat) : BuV p (w.drewN n) K g v st := h.far (Nat.le_refl _) (fun _ _ => rfl)

theorem BuV.err {p : Bool} {w : World} {K : Nat → Nat} {g : Nat} {v : Value} {st : BSt} (h : BuV p w K g v st) (e : Int) (he : e ≠ 0) : BuV p (w.setCell ⟨g, 2, none⟩ (.int .i64 e)) K g v { st with e := e } ∧ Fr K K w (w.setCell ⟨g, 2, none⟩ (.int .i64 e)) :=
  ⟨⟨h.s.err e, h.kg, h.o.move fun k hk => setCell_others w g 2 _ k (fun e => h.ng (by rw [← e]; exact hk)), h.kv, fun k hk => by rw [size_setCell]; exact h.sup k hk, fun h0 => absurd h0 he, h.top⟩,
   ⟨rfl, rfl, rfl, by rw [size_setCell]; exact Nat.le_refl _, fun k _ h0 => setCell_others w g 2 _ k (fun e => by rw [e, h.kg] at h0; omega), fun _ _ => rfl⟩⟩

/-- The bytes come to lie in a row that the append made or wrote. -/
theorem BuV.put {p : Bool} {w w1 : World} {K : Nat → Nat} {g : Nat} {v v' : Value} {st : BSt} {l' : List Int} (h : BuV p w K g v st) (hg : w.grownBy w1 v.ownBlock) (ho : OB w1 0 v' l') (hat : v'.ownBlock = v.ownBlock ∨ ∀ k, v'.ownBlock = some k → w.heap.size ≤ k) :
    ∃ K', BuV p (w1.setCell ⟨g, spot p, none⟩ v') K' g v' { st with l := l' } ∧ Fr K K' w (w1.setCell ⟨g, spot p, none⟩ v') := by
  have hgl := h.s.lt
  have hng : v'.ownBlock ≠ some g := fun e => by
    rcases hat with h1 | h1
    · exact h.ng (h1 ▸ e)
    · have := h1 g e; omega
  refine ⟨fun k => if v'.ownBlock = some k then 2 else K k, ⟨?_, ?_, ?_, ?_, ?_, h.pos, h.top⟩, ⟨hg.os, hg.tape, hg.output, by rw [size_setCell]; exact hg.size, fun k hk h0 => ?_, fun k hk => ?_⟩⟩
  · exact (h.s.same (hg.block g hgl (fun e => h.ng e.symm))).data v'
  · simp [hng, h.kg]
  · exact ho.move fun k hk => setCell_others w1 g _ _ k (fun e => hng (by rw [← e]; exact hk))
  · intro k hk; simp [hk]
  · intro k hk
    rw [size_setCell]
    by_cases e : v'.ownBlock = some k
    · exact (ho.lt k e).2
    · simp [e] at hk
      exact Nat.lt_of_lt_of_le (h.sup k hk) hg.size
  · have e1 : k ≠ g := fun e => by rw [e, h.kg] at h0; omega
    have e2 : v.ownBlock ≠ some k := fun e => by rw [h.kv k e] at h0; omega
    exact (setCell_others w1 g _ _ k e1).trans (hg.block k hk (fun e => e2 e.symm))
  · by_cases e : v'.ownBlock = some k
    · simp only [e, if_true]
      rcases hat with h1 | h1
      · exact (h.kv k (h1 ▸ e)).symm
      · have := h1 k e; omega
    · simp only [e, if_false]

/-- Bytes within the row are written over. -/
theorem BuV.over {p : Bool} {w : World} {K : Nat → Nat} {g b o : Nat} {v : Value} {st : BSt} {u : Value} {l' : List Int} (h : BuV p w K g v st) (hv : v.ownBlock = some b) (ho : OB (w.setCell ⟨b, o, none⟩ u) 0 v l') : BuV p (w.setCell ⟨b, o, none⟩ u) K g v { st with l := l' } ∧ Fr K K w (w.setCell ⟨b, o, none⟩ u) := by
  have hb : b ≠ g := fun e => h.ng (by rw [hv, e])
  exact ⟨⟨h.s.same (setCell_others w b o u g (fun e => hb e.symm)), h.kg, ho, h.kv, fun k hk => by rw [size_setCell]; exact h.sup k hk, h.pos, h.top⟩,
   ⟨rfl, rfl, rfl, by rw [size_setCell]; exact Nat.le_refl _, fun k _ h0 => setCell_others w b o _ k (fun e => by rw [e, h.kv b hv] at h0; omega), fun _ _ => rfl⟩⟩

theorem berr_any {w : World} {K : Nat → Nat} {g : Nat} {v : Value} {st : BSt} (h : BuV true w K g v st) :
    Calls Try.prog 38 #[.pointer (some ⟨g, 0, none⟩)] w fun e w' => e = .returned (.int .i64 st.e) ∧ w' = w := by
  obtain ⟨c0, c1, c2⟩ := S3.at h.s
  clear h c0 c1
  go_enter Try.func38, Try.ntmps38
  go_wp2
  go_ret
  exact ⟨rfl, rfl⟩

end Go.Proofs.Ytijmmfimkibgbaa

namespace Go.Proofs.Ytijmmfimkibgbaa
open Go.RowKit Go.Maps
set_option maxRecDepth 20000

/-- The n low bytes, the lowest first. -/
def bytesLE (v : Int) : Nat → List Int
  | 0 => []
  | n + 1 => v % 256 :: bytesLE (v / 256) n

theorem length_bytesLE (v : Int) (n : Nat) : (bytesLE v n).length = n := by
  induction n generalizing v with
  | zero => rfl
  | succ n ih => simp [bytesLE, ih]

theorem bytesLE_snoc (v : Int) (n : Nat) : bytesLE v (n + 1) = bytesLE v n ++ [v / 256 ^ n % 256] := by
  induction n generalizing v with
  | zero => simp [bytesLE]
  | succ n ih =>
    rw [bytesLE, ih, bytesLE]
    simp only [List.cons_append]
    congr 3
    rw [Int.pow_succ, Int.mul_comm, Int.ediv_ediv_of_nonneg (by omega)]

theorem byt_bytesLE (v : Int) (n : Nat) : Byt (bytesLE v n) := by
  induction n generalizing v with
  | zero => intro i; simp [bytesLE]
  | succ n ih =>
    intro i
    cases i with
    | zero => simp [bytesLE]; omega
    | succ i => simpa [bytesLE] using ih (v / 256) i

def wide (v : Int) (n : Nat) : Prop := v < 0 ∨ 256 ^ n ≤ v

instance (v : Int) (n : Nat) : Decidable (wide v n) := by unfold wide; exact inferInstance

def numSt (st : BSt) (v : Int) (n : Nat) : BSt :=
  if st.e ≠ 0 then st else if wide v n then { st with e := 21 } else if st.m - st.l.length < n then { st with e := 22 } else { st with l := st.l ++ bytesLE v n }

theorem room_no {w : World} {K : Nat → Nat} {g : Nat} {v : Value} {st : BSt} (h : BuV true w K g v st) (n : Nat) (h0 : st.e = 0) (hr : st.m - st.l.length < n) :
    Calls Try.prog 39 #[.pointer (some ⟨g, 0, none⟩), .int .i64 (n : Int)] w fun e w' => e = .returned (.bool false) ∧ BuV true w' K g v { st with e := 22 } ∧ Fr K K w w' := by
  have H := hide h
  have hp := h.pos h0
  have ht := h.top
  obtain ⟨c0, c1, c2⟩ := S3.at h.s
  have hfz := S3.free h.s
  obtain ⟨a, c, rfl⟩ := h.o.shape
  have hlm : st.l.length ≤ 9223372036854775807 := by
    obtain ⟨_, _, e, h1, h2, _⟩ := h.o.sb
    simp only [Value.slice.injEq] at e
    unfold maxLen at h2
    omega
  clear h h0
  go_enter Try.func39, Try.ntmps39
  go_wp2
  go_quiet (fail)
  go_wp2
  go_ret
  exact ⟨rfl, ((H.out.drewN _).err 22 (by omega)).1, ((Fr.refl K w).drewN _).trans ((H.out.drewN _).err 22 (by omega)).2⟩

theorem room_yes {w : World} {K : Nat → Nat} {g : Nat} {v : Value} {st : BSt} (h : BuV true w K g v st) (n : Nat) (h0 : st.e = 0) (hr : ¬ st.m - st.l.length < n) :
    Calls Try.prog 39 #[.pointer (some ⟨g, 0, none⟩), .int .i64 (n : Int)] w fun e w' => e = .returned (.bool true) ∧ BuV true w' K g v st ∧ Fr K K w w' := by
  have H := hide h
  have hp := h.pos h0
  have ht := h.top
  obtain ⟨c0, c1, c2⟩ := S3.at h.s
  have hfz := S3.free h.s
  obtain ⟨a, c, rfl⟩ := h.o.shape
  have hlm : st.l.length ≤ 9223372036854775807 := by
    obtain ⟨_, _, e, h1, h2, _⟩ := h.o.sb
    simp only [Value.slice.injEq] at e
    unfold maxLen at h2
    omega
  clear h h0
  go_enter Try.func39, Try.ntmps39
  go_wp2
  go_quiet (fail)
  go_wp2
  go_ret
  exact ⟨rfl, H.out.drewN _, (Fr.refl K w).drewN _⟩

theorem fits_no {w : World} {K : Nat → Nat} {g : Nat} {u : Value} {st : BSt} (h : BuV true w K g u st) (v : Int) (n : Nat) (hn : n = 1 ∨ n = 2 ∨ n = 4) (hv0 : -9223372036854775808 ≤ v) (hv1 : v ≤ 9223372036854775807) (hw : wide v n) :
    Calls Try.prog 44 #[.pointer (some ⟨g, 0, none⟩), .int .i64 v, .int .i64 (n : Int)] w fun e w' => e = .returned (.bool false) ∧ BuV true w' K g u { st with e := 21 } ∧ Fr K K w w' := by
  have H := hide h
  obtain ⟨c0, c1, c2⟩ := S3.at h.s
  have hfz := S3.free h.s
  clear h c0 c1
  have HE := hide (H.out.err 21 (by omega))
  by_cases h0 : v < 0
  · clear hw
    go_enter Try.func44, Try.ntmps44
    go_wp2
    go_ret
    exact ⟨rfl, HE.out.1, HE.out.2⟩
  have h1 : 256 ^ n ≤ v := by
    rcases hw with h | h
    · exact absurd h h0
    · exact h
  clear hw
  obtain rfl | rfl | rfl := hn
  · have hg : 0 < v / 256 := by omega
    clear h1
    go_enter Try.func44, Try.ntmps44
    go_wp2
    go_ret
    exact ⟨rfl, HE.out.1, HE.out.2⟩
  · have hg : 0 < v / 65536 := by omega
    clear h1
    go_enter Try.func44, Try.ntmps44
    go_wp2
    go_ret
    exact ⟨rfl, HE.out.1, HE.out.2⟩
  · have hg : 0 < v / 4294967296 := by omega
    clear h1
    go_enter Try.func44, Try.ntmps44
    go_wp2
    go_ret
    exact ⟨rfl, HE.out.1, HE.out.2⟩

theorem fits_yes {w : World} {K : Nat → Nat} {g : Nat} {u : Value} {st : BSt} (h : BuV true w K g u st) (v : Int) (n : Nat) (hn : n = 1 ∨ n = 2 ∨ n = 4) (hw : ¬ wide v n) :
    Calls Try.prog 44 #[.pointer (some ⟨g, 0, none⟩), .int .i64 v, .int .i64 (n : Int)] w fun e w' => e = .returned (.bool true) ∧ w' = w := by
  have H := hide h
  obtain ⟨c0, c1, c2⟩ := S3.at h.s
  have hfz := S3.free h.s
  clear h c0 c1
  have h0 : ¬ v < 0 := fun h => hw (.inl h)
  have h1 : ¬ 256 ^ n ≤ v := fun h => hw (.inr h)
  clear hw H c2 hfz
  obtain rfl | rfl | rfl := hn
  · have hg : v / 256 = 0 := by omega
    have hv2 : v ≤ 9223372036854775807 := by omega
    clear h1
    go_enter Try.func44, Try.ntmps44
    go_wp2
    go_ret
    exact ⟨rfl, rfl⟩
  · have hg : v / 65536 = 0 := by omega
    have hv2 : v ≤ 9223372036854775807 := by omega
    clear h1
    go_enter Try.func44, Try.ntmps44
    go_wp2
    go_ret
    exact ⟨rfl, rfl⟩
  · have hg : v / 4294967296 = 0 := by omega
    have hv2 : v ≤ 9223372036854775807 := by omega
    clear h1
    go_enter Try.func44, Try.ntmps44
    go_wp2
    go_ret
    exact ⟨rfl, rfl⟩
end Go.Proofs.Ytijmmfimkibgbaa

namespace Go.Proofs.Ytijmmfimkibgbaa
open Go.RowKit Go.Maps
set_option maxRecDepth 20000

theorem shr_run (v : Int) (k : Nat) (hk : k < 4) (w : World) : (Op.shift BinOp.shr IntKind.i64 v IntKind.i64 (IntKind.i64.wrap (8 * (k : Int)))).run Try.prog w = .ok (.int .i64 (v / 256 ^ k)) w := by
  obtain rfl | rfl | rfl | rfl : k = 0 ∨ k = 1 ∨ k = 2 ∨ k = 3 := by omega
  all_goals rw [IntKind.wrap_i64]
  all_goals simp

/-- One byte more. -/
theorem BuV.app1 {p : Bool} {w w6 : World} {K : Nat → Nat} {g gg cap : Nat} {v : Value} {st : BSt} {c : Int} {o : Obj} (h : BuV p w K g v st) (hown : w6.ownsRow 0 5 1 (.slice (some ⟨gg, 0, none⟩) (st.l.length + 1) cap) (st.l.length + 1) (st.l.map (Value.int .u8) ++ [.int .u8 c])) (hgrow : (w.alloc o).drew.grownBy w6 v.ownBlock) (hat : v.ownBlock = some gg ∨ gg = w.heap.size + 1) :
    ∃ K', BuV p (w6.setCell ⟨g, spot p, none⟩ (.slice (some ⟨gg, 0, none⟩) (st.l.length + 1) cap)) K' g (.slice (some ⟨gg, 0, none⟩) (st.l.length + 1) cap) { st with l := st.l ++ [c] } ∧ Fr K K' w (w6.setCell ⟨g, spot p, none⟩ (.slice (some ⟨gg, 0, none⟩) (st.l.length + 1) cap)) := by
  have ho : OB w6 0 (.slice (some ⟨gg, 0, none⟩) (st.l.length + 1) cap) (st.l ++ [c]) := by
    unfold OB
    rw [List.length_append, List.map_append]
    exact hown
  refine h.put ((grownBy_drew (grownBy_alloc' w o _)).trans hgrow) ho ?_
  rcases hat with e | e
  · exact .inl (by rw [e]; rfl)
  · exact .inr (fun k hk => by simp [Value.ownBlock] at hk; omega)

set_option linter.unusedSimpArgs false in
set_option maxHeartbeats 4000000 in
theorem bnumber_any {w : World} {K : Nat → Nat} {g : Nat} {u : Value} {st : BSt} (h : BuV true w K g u st) (v : Int) (n : Nat) (hn : n = 1 ∨ n = 2 ∨ n = 4) (hv0 : -9223372036854775808 ≤ v) (hv1 : v ≤ 9223372036854775807) (hl : st.l.length + 4 ≤ 140737488355328) :
    Calls Try.prog 36 #[.pointer (some ⟨g, 0, none⟩), .int .i64 v, .int .i64 (n : Int)] w fun e w' => e = .returned (.tuple #[]) ∧ ∃ K', Bu true w' K' g (numSt st v n) ∧ Fr K K' w w' := by
  have H := hide h
  clear h
  by_cases he : st.e = 0
  case neg =>
    have HS : Hid (numSt st v n = st) := by show _ = _; unfold numSt; rw [if_pos he]
    have he' : (st.e != 0) = true := by simpa using he
    go_enter Try.func36, Try.ntmps36
    go_wp2_with fail
    refine (berr_any H.out).mono ?_
    rintro e w ⟨rfl, rfl⟩
    go_wp2
    (try simp only [Exit.inBlock, Exit.then]); refine bodyPost_ret (results_none rfl _ _ _) rfl ?_
    rw [HS.out]
    exact ⟨rfl, K, ⟨u, H.out⟩, Fr.refl _ _⟩
  case pos =>
  have HE := hide he
  by_cases hw : wide v n
  case pos =>
    have HW := hide hw
    have HS : Hid (numSt st v n = { st with e := 21 }) := by show _ = _; unfold numSt; rw [if_neg (by simp [he]), if_pos hw]
    clear he hw
    go_enter Try.func36, Try.ntmps36
    go_wp2_with fail
    refine (berr_any H.out).mono ?_
    rintro e w ⟨rfl, rfl⟩
    rw [HE.out]
    go_wp2_with fail
    refine (fits_no H.out v n hn hv0 hv1 HW.out).mono ?_
    rintro e w1 ⟨rfl, hb, hf⟩
    have HF := hide (And.intro hb hf)
    clear hb hf
    go_wp2
    (try simp only [Exit.inBlock, Exit.then]); refine bodyPost_ret (results_none rfl _ _ _) rfl ?_
    rw [HS.out]
    exact ⟨rfl, K, ⟨u, HF.out.1⟩, HF.out.2⟩
  case neg =>
  have HW := hide hw
  by_cases hr : st.m - st.l.length < n
  case pos =>
    have HR := hide hr
    have HS : Hid (numSt st v n = { st with e := 22 }) := by show _ = _; unfold numSt; rw [if_neg (by simp [he]), if_neg hw, if_pos hr]
    clear he hw hr
    go_enter Try.func36, Try.ntmps36
    go_wp2_with fail
    refine (berr_any H.out).mono ?_
    rintro e w ⟨rfl, rfl⟩
    rw [HE.out]
    go_wp2_with fail
    refine (fits_yes H.out v n hn HW.out).mono ?_
    rintro e w1 ⟨rfl, hw1⟩
    subst hw1
    go_wp2_with fail
    refine (room_no H.out n HE.out HR.out).mono ?_
    rintro e w1 ⟨rfl, hb, hf⟩
    have HF := hide (And.intro hb hf)
    clear hb hf
    go_wp2
    (try simp only [Exit.inBlock, Exit.then]); refine bodyPost_ret (results_none rfl _ _ _) rfl ?_
    rw [HS.out]
    exact ⟨rfl, K, ⟨u, HF.out.1⟩, HF.out.2⟩
  case neg =>
    have HR : Hid (¬ st.m - st.l.length < n) := hr
    have hr' : (n : Int) ≤ st.m - st.l.length := by omega
    have HS : Hid (numSt st v n = { st with l := st.l ++ bytesLE v n }) := by show _ = _; unfold numSt; rw [if_neg (by simp [he]), if_neg hw, if_neg hr]
    have hvp : 0 ≤ v := by
      by_cases h : v < 0
      · exact absurd (.inl h) hw
      · omega
    have hn4 : n ≤ 4 := by omega
    clear he hw hr
    go_enter Try.func36, Try.ntmps36
    go_wp2_with fail
    refine (berr_any H.out).mono ?_
    rintro e w ⟨rfl, rfl⟩
    rw [HE.out]
    go_wp2_with fail
    refine (fits_yes H.out v n hn HW.out).mono ?_
    rintro e w1 ⟨rfl, hw1⟩
    subst hw1
    go_wp2_with fail
    refine (room_yes H.out n HE.out (by omega)).mono ?_
    rintro e w2 ⟨rfl, hb, hf⟩
    have HF := hide (And.intro hb hf)
    clear hb hf
    go_wp2
    go_loopw [24] (fun i wr => ∃ k : Nat, k ≤ n ∧ i = .int .i64 k ∧ Hid (∃ K' v', BuV true wr K' g v' { st with l := st.l ++ bytesLE v k } ∧ Fr K K' w1 wr)) (fun i _ => n - (intOf i).toNat)
    case atStart => exact ⟨0, Nat.zero_le _, rfl, K, u, by simpa [bytesLE] using HF.out.1, HF.out.2⟩
    case round =>
      obtain ⟨k, hk, rfl, HQ⟩ := hrel
      obtain ⟨K1, v1, hb1, hf1⟩ := HQ.out
      by_cases hlt : k < n
      · obtain ⟨l1, HL1⟩ : ∃ l1, Hid (l1 = st.l ++ bytesLE v k) := ⟨_, rfl⟩
        rw [← HL1.out] at hb1
        have hll : l1.length = st.l.length + k := by rw [HL1.out, List.length_append, length_bytesLE]
        have HLL : Hid (l1.length + 1 ≤ 140737488355328) := by show _ ≤ _; omega
        obtain ⟨c0, c1, c2⟩ := S3.at hb1.s
        have hfz := S3.free hb1.s
        obtain ⟨a1, p1, rfl⟩ := hb1.o.shape
        have hgl := hb1.s.lt
        obtain ⟨q, HQ2⟩ : ∃ q, Hid (q = v / 256 ^ k) := ⟨_, rfl⟩
        have hsh : ∀ W : World, (Op.shift BinOp.shr IntKind.i64 v IntKind.i64 (IntKind.i64.wrap (8 * (k : Int)))).run Try.prog W = .ok (.int .i64 q) W := fun W => by rw [HQ2.out]; exact shr_run v k (by omega) W
        obtain ⟨c, HC⟩ : ∃ c, Hid (c = q % 256) := ⟨_, rfl⟩
        have hcw : IntKind.u8.wrap q = c := by rw [IntKind.wrap_u8, HC.out]
        have HB1 := hide hb1
        have HF1 := hide hf1
        have k1 : (wr.alloc (.cells #[.int .u8 c] 5)).cell? ⟨g, 0, none⟩ = some (.slice a1 l1.length p1) := (((Below.refl wr.heap.size wr).alloc (Nat.le_refl _) _).cell hgl).trans c0
        have HROW : Hid (∀ W : World, W.heap = (wr.alloc (.cells #[.int .u8 c] 5)).heap → W.ownsRow 0 5 1 (.slice a1 l1.length p1) l1.length (l1.map (Value.int .u8))) := fun W hW => OB.move (w := wr) HB1.out.o fun x hx => by rw [hW]; exact Below.heap_alloc _ _ x (HB1.out.o.lt x hx).2
        have HG6 : Hid (∀ (w6 : World), (wr.alloc (.cells #[.int .u8 c] 5)).drew.grownBy w6 (Value.slice a1 l1.length p1).ownBlock → w6.cell? ⟨g, 0, none⟩ = some (.slice a1 l1.length p1) ∧ w6.frozen? ⟨g, 0, none⟩ = false) := fun w6 hg => by
          have e1 : w6.heap[g]? = wr.heap[g]? := (hg.block g (by show g < (wr.alloc _).heap.size; rw [size_alloc']; omega) (fun e => HB1.out.ng e.symm)).trans (Below.heap_alloc _ _ g hgl)
          have hs : S3 72 w6 g (.slice a1 l1.length p1) (.int .i64 st.m) (.int .i64 st.e) := HB1.out.s.same e1
          exact ⟨hs.at.1, hs.free 0⟩
        obtain ⟨i5, hi5, hz50, hz51, hz52⟩ := info_parts info5
        have HI5 := hide hi5
        have HZ50 := hide hz50
        have HZ51 := hide hz51
        have HZ52 := hide hz52
        have HP1 : Hid (0 < 1) := by show 0 < 1; omega
        have HPM : Hid (l1.length + 1 ≤ maxLen) := by show _ ≤ _; unfold maxLen; have := HLL.out; omega
        have HPB : Hid ((l1.length + 1) * 1 ≤ 140737488355328) := by show _ ≤ _; have := HLL.out; omega
        clear hb1 hf1 HQ c1 c2 hi5 hz50 hz51 hz52 hll
        go_wp2
        go_region_law (refine step_append_lies _ (by rfl) _ _ _ (by rfl) 0 5 i5 _ 1 1 Try.underlying31 HI5.out HZ50.out HZ51.out HZ52.out rfl HP1.out (.slice a1 l1.length p1) l1.length (l1.map (Value.int .u8)) (by simp [Act.eval, Act.put]) (HROW.out _ (by rfl)) ⟨wr.heap.size, 0, none⟩ 1 1 [.int .u8 c] (by simp [Act.eval, Act.put]) (by rfl) (World.news_of_block (cs := #[.int .u8 c]) (t := 5) (fr := (0, 0)) (heap_alloc_new wr _)) (fun u hu => by rw [List.mem_singleton.1 hu]; rfl) HP1.out HPM.out HPB.out (Nat.zero_le _) (wr.heap.size + 1) (by simp) ?_; intro gg cap6 w6 hown6 hgrow6 hat6 hlt6; obtain ⟨t4, tf⟩ := HG6.out w6 hgrow6; have HALL := hide (And.intro hown6 (And.intro hgrow6 hat6)); clear hown6 hgrow6 hat6 hlt6)
        all_goals
          obtain ⟨hown6, hgrow6, hat6⟩ := HALL.out
          obtain ⟨K7, hb7, hf7⟩ := HB1.out.app1 hown6 hgrow6 hat6
          have HN : Hid (∃ K' v', BuV true (w6.setCell ⟨g, 0, none⟩ (.slice (some ⟨gg, 0, none⟩) (l1.length + 1) cap6)) K' g v' { st with l := st.l ++ bytesLE v (k + 1) } ∧ Fr K K' w1 (w6.setCell ⟨g, 0, none⟩ (.slice (some ⟨gg, 0, none⟩) (l1.length + 1) cap6))) := by
            refine ⟨K7, .slice (some ⟨gg, 0, none⟩) (l1.length + 1) cap6, ?_, HF1.out.trans hf7⟩
            have e : st.l ++ bytesLE v (k + 1) = l1 ++ [c] := by rw [bytesLE_snoc, ← List.append_assoc, ← HL1.out, HC.out, HQ2.out]
            rw [e]
            exact hb7
          clear hown6 hgrow6 hat6 hb7 hf7 HALL t4 tf k1
          go_wp2
          go_roundw
          case rel => exact ⟨k + 1, by omega, by go_num, HN.out⟩
          case measure => simp [intOf]; omega
      · have hkn : k = n := by omega
        have HB1 := hide (And.intro hb1 hf1)
        clear hb1 hf1 HQ
        have hlt' : ¬ (k : Int) < (n : Int) := by omega
        go_wp2
        (try simp only [Exit.inBlock, Exit.then]); refine bodyPost_end (results_none rfl _ _ _) rfl ?_
        rw [HS.out, ← hkn]
        exact ⟨rfl, K1, ⟨v1, HB1.out.1⟩, HB1.out.2⟩
end Go.Proofs.Ytijmmfimkibgbaa

namespace Go.Proofs.Ytijmmfimkibgbaa
open Go.RowKit Go.Maps
set_option maxRecDepth 20000

def strL (s : ByteArray) : List Int := s.data.toList.map fun b => (b.toNat : Int)

theorem length_strL (s : ByteArray) : (strL s).length = s.size := by
  unfold strL
  rw [List.length_map, Array.length_toList]
  rfl

theorem byt_strL (s : ByteArray) : Byt (strL s) := by
  intro i
  unfold strL
  generalize s.data.toList = l
  by_cases hi : i < l.length
  · have : (l.map fun b => (b.toNat : Int)).getD i 0 = ((l[i]).toNat : Int) := by simp [List.getD, hi]
    rw [this]
    have := (l[i]).toNat_lt
    omega
  · have : (l.map fun b => (b.toNat : Int)).getD i 0 = 0 := by
      have e : (l.map fun b => (b.toNat : Int))[i]? = none := List.getElem?_eq_none (by simpa using hi)
      simp [List.getD, e]
    rw [this]; decide

theorem src_str (w : World) (s : ByteArray) : Src Try.prog 1 9 (.string s) (strL s).length ((strL s).map (Value.int .u8)) w := by
  have h := Src.ofString (P := Try.prog) w Try.underlying9 s
  rw [length_strL]
  have e : (strL s).map (Value.int .u8) = byteCells s := by
    unfold strL byteCells
    rw [List.map_map]
    rfl
  rw [e]
  exact h

def textSt (st : BSt) (s : ByteArray) : BSt :=
  if st.e ≠ 0 then st else if st.m - st.l.length < s.size then { st with e := 22 } else { st with l := st.l ++ strL s }

theorem btext_any {w : World} {K : Nat → Nat} {g : Nat} {u : Value} {st : BSt} (h : BuV true w K g u st) (s : ByteArray) (hl : ¬ st.m - st.l.length < s.size → st.l.length + s.size ≤ 140737488355328) :
    Calls Try.prog 20 #[.pointer (some ⟨g, 0, none⟩), .string s] w fun e w' => e = .returned (.tuple #[]) ∧ ∃ K', Bu true w' K' g (textSt st s) ∧ Fr K K' w w' := by
  have H := hide h
  clear h
  by_cases he : st.e = 0
  case neg =>
    have HS : Hid (textSt st s = st) := by show _ = _; unfold textSt; rw [if_pos he]
    have he' : (st.e == 0) = false := by simpa using he
    go_enter Try.func20, Try.ntmps20
    go_wp2_with fail
    refine (berr_any H.out).mono ?_
    rintro e w ⟨rfl, rfl⟩
    go_wp2
    (try simp only [Exit.inBlock, Exit.then]); refine bodyPost_end (results_none rfl _ _ _) rfl ?_
    rw [HS.out]
    exact ⟨rfl, K, ⟨u, H.out⟩, Fr.refl _ _⟩
  case pos =>
  have HE := hide he
  by_cases hr : st.m - st.l.length < s.size
  case pos =>
    have HS : Hid (textSt st s = { st with e := 22 }) := by show _ = _; unfold textSt; rw [if_neg (by simp [he]), if_pos hr]
    clear he
    go_enter Try.func20, Try.ntmps20
    go_wp2_with fail
    refine (berr_any H.out).mono ?_
    rintro e w ⟨rfl, rfl⟩
    rw [HE.out]
    go_wp2_with fail
    refine (room_no H.out s.size HE.out hr).mono ?_
    rintro e w1 ⟨rfl, hb, hf⟩
    have HF := hide (And.intro hb hf)
    clear hb hf
    go_wp2
    (try simp only [Exit.inBlock, Exit.then]); refine bodyPost_end (results_none rfl _ _ _) rfl ?_
    rw [HS.out]
    exact ⟨rfl, K, ⟨u, HF.out.1⟩, HF.out.2⟩
  case neg =>
    have HS : Hid (textSt st s = { st with l := st.l ++ strL s }) := by show _ = _; unfold textSt; rw [if_neg (by simp [he]), if_neg hr]
    have HR : Hid (¬ st.m - st.l.length < s.size) := hr
    clear he hr
    go_enter Try.func20, Try.ntmps20
    go_wp2_with fail
    refine (berr_any H.out).mono ?_
    rintro e w ⟨rfl, rfl⟩
    rw [HE.out]
    go_wp2_with fail
    refine (room_yes H.out s.size HE.out (by have := HR.out; omega)).mono ?_
    rintro e w1 ⟨rfl, hb, hf⟩
    obtain ⟨c0, c1, c2⟩ := S3.at hb.s
    have hfz := S3.free hb.s
    obtain ⟨a1, p1, rfl⟩ := hb.o.shape
    have HB := hide hb
    have HF := hide hf
    have HL : Hid (st.l.length + (strL s).length ≤ 140737488355328) := by show _ ≤ _; rw [length_strL]; exact hl HR.out
    clear hb hf c1 c2
    go_wp2_with (at_builtin; refine wpList_app rfl _ _ 9 rfl 0 _ (.string s) st.l (strL s) rfl HB.out.o rfl (src_str w1 s) HL.out (Nat.zero_le _) ?_)
    intro v' w2 ho hgr
    have hgl := HB.out.s.lt
    have e1 : w2.heap[g]? = w1.heap[g]? := hgr.by.block g hgl (fun e => HB.out.ng e.symm)
    have hs2 : S3 72 w2 g (.slice a1 st.l.length p1) (.int .i64 st.m) (.int .i64 st.e) := HB.out.s.same e1
    obtain ⟨d0, d1, d2⟩ := hs2.at
    have hfz2 := hs2.free
    have HFIN : Hid (∃ K', BuV true (w2.setCell ⟨g, 0, none⟩ v') K' g v' { st with l := st.l ++ strL s } ∧ Fr K K' w (w2.setCell ⟨g, 0, none⟩ v')) := by
      obtain ⟨K', h1, h2⟩ := HB.out.put hgr.by ho (by
        rcases hgr.at with e | e
        · exact .inr (fun k hk => by rw [e] at hk; cases hk; exact Nat.le_refl _)
        · exact .inl e)
      exact ⟨K', h1, HF.out.trans h2⟩
    obtain ⟨av, cv, rfl⟩ := ho.shape
    clear ho hgr hs2 e1 d1 d2
    go_wp2
    (try simp only [Exit.inBlock, Exit.then]); refine bodyPost_end (results_none rfl _ _ _) rfl ?_
    obtain ⟨K', h1, h2⟩ := HFIN.out
    rw [HS.out, ← List.length_append]
    exact ⟨rfl, K', ⟨_, h1⟩, h2⟩

theorem btake_any {w : World} {K : Nat → Nat} {g : Nat} {u : Value} {st : BSt} (h : BuV true w K g u st) (hl : st.l.length ≤ 140737488351232) (t : List Int) (ht : t = if st.e = 0 then st.l else []) :
    Calls Try.prog 40 #[.pointer (some ⟨g, 0, none⟩)] w fun e w' => ∃ a c, e = .returned (.slice a t.length c) ∧ OB w' w.heap.size (.slice a t.length c) t ∧ Below w.heap.size w w' := by
  have H := hide h
  by_cases he : st.e = 0
  case neg =>
    have he' : (st.e != 0) = true := by simpa using he
    rw [if_neg he] at ht
    subst ht
    clear h
    go_enter Try.func40, Try.ntmps40
    go_wp2_with fail
    refine (berr_any H.out).mono ?_
    rintro e w ⟨rfl, rfl⟩
    go_wp2
    go_ret
    exact ⟨none, 0, rfl, World.ownsRow_nil _ _ _ _, Below.refl _ _⟩
  case pos =>
    have HE := hide he
    rw [if_pos he] at ht
    subst ht
    obtain ⟨c0, c1, c2⟩ := S3.at h.s
    obtain ⟨a1, p1, rfl⟩ := h.o.shape
    clear h c1 c2 he
    go_enter Try.func40, Try.ntmps40
    go_wp2_with fail
    refine (berr_any H.out).mono ?_
    rintro e w ⟨rfl, rfl⟩
    rw [HE.out]
    go_wp2_with fail
    refine (slicesClone_any _ st.l _ H.out.o.sb hl).mono ?_
    rintro e w1 ⟨a, c, rfl, ho, hb⟩
    have HO := hide ho
    have HB := hide hb
    clear ho hb
    go_wp2
    go_ret
    exact ⟨a, c, rfl, HO.out, HB.out⟩

end Go.Proofs.Ytijmmfimkibgbaa

