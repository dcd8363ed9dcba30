import Derived.Test.YtijmmfimkibgbaaGPa
import Derived.Test.YtijmmfimkibgbaaGBf
import Derived.Handy
namespace Go.Proofs.Ytijmmfimkibgbaa
open Go.RowKit Go.Maps
set_option maxRecDepth 20000
set_option linter.unusedVariables false

def Ok64 (v : Int) : Prop := -9223372036854775808 ≤ v ∧ v ≤ 9223372036854775807

/-- A local header. -/
structure Loc where
  need : Int
  flags : Int
  method : Int
  clock : Int
  date : Int
  sum : Int
  packed : Int
  size : Int
  name : ByteArray
  extra : ByteArray

def Loc.cs (l : Loc) : Array Value := #[.int .i64 l.need, .int .i64 l.flags, .int .i64 l.method, .int .i64 l.clock, .int .i64 l.date, .int .u32 l.sum, .int .i64 l.packed, .int .i64 l.size, .string l.name, .string l.extra]

def Loc.v (l : Loc) : Value := .agg l.cs

structure Loc.Ok (l : Loc) : Prop where
  need : Ok64 l.need
  flags : Ok64 l.flags
  method : Ok64 l.method
  clock : Ok64 l.clock
  date : Ok64 l.date
  sum0 : 0 ≤ l.sum
  sum1 : l.sum < 4294967296
  packed : Ok64 l.packed
  size : Ok64 l.size
  name : l.name.size ≤ 140737488351232
  extra : l.extra.size ≤ 140737488351232

/-- What is put into a record, one behind the other. -/
inductive Itm where
  | num (v : Int) (n : Nat)
  | txt (s : ByteArray)

def stp (st : BSt) : Itm → BSt
  | .num v n => numSt st v n
  | .txt s => textSt st s

def itB : Itm → List Int
  | .num v n => bytesLE v n
  | .txt s => strL s

def itW : Itm → Prop
  | .num v n => wide v n
  | .txt _ => False

instance (i : Itm) : Decidable (itW i) := by
  cases i
  · exact inferInstanceAs (Decidable (wide _ _))
  · exact inferInstanceAs (Decidable False)

def runI (st : BSt) (its : List Itm) : BSt := its.foldl stp st

def rowI (its : List Itm) : List Int := its.flatMap itB

def fitI (its : List Itm) : Prop := ∀ i ∈ its, ¬ itW i

instance (its : List Itm) : Decidable (fitI its) := by unfold fitI; exact inferInstance

theorem rowI_cons (i : Itm) (its : List Itm) : rowI (i :: its) = itB i ++ rowI its := by simp [rowI]

theorem runI_cons (st : BSt) (i : Itm) (its : List Itm) : runI st (i :: its) = runI (stp st i) its := rfl

theorem runI_app (st : BSt) (a b : List Itm) : runI st (a ++ b) = runI (runI st a) b := by simp [runI]

theorem stp_err {st : BSt} (h : st.e ≠ 0) (i : Itm) : stp st i = st := by
  cases i
  · simp [stp, numSt, h]
  · simp [stp, textSt, h]

theorem runI_err : ∀ (its : List Itm) {st : BSt}, st.e ≠ 0 → runI st its = st
  | [], _, _ => rfl
  | i :: its, st, h => by rw [runI_cons, stp_err h]; exact runI_err its h

theorem runI_wide : ∀ (its : List Itm) (st : BSt), ¬ fitI its → (runI st its).e ≠ 0
  | [], _, h => absurd (fun i hi => by cases hi) h
  | i :: its, st, h => by
    rw [runI_cons]
    by_cases hi : itW i
    · have he : (stp st i).e ≠ 0 := by
        cases i with
        | num v n =>
          simp only [stp, numSt]
          by_cases h0 : st.e ≠ 0
          · rw [if_pos h0]; exact h0
          · rw [if_neg h0, if_pos (show wide v n from hi)]; simp
        | txt s => exact absurd hi (by simp [itW])
      rw [runI_err its he]; exact he
    · exact runI_wide its _ (fun hf => h (fun j hj => by
        rcases List.mem_cons.1 hj with rfl | hj
        · exact hi
        · exact hf j hj))

theorem runI_ok : ∀ (its : List Itm) (st : BSt), st.e = 0 → fitI its → (st.l.length : Int) + (rowI its).length ≤ st.m → runI st its = { st with l := st.l ++ rowI its }
  | [], st, _, _, _ => by simp [runI, rowI]
  | i :: its, st, h0, hf, hl => by
    rw [rowI_cons, List.length_append] at hl
    have hs : stp st i = { st with l := st.l ++ itB i } := by
      cases i with
      | num v n =>
        have hw : ¬ wide v n := hf _ (List.mem_cons_self ..)
        have hb : (itB (.num v n)).length = n := length_bytesLE v n
        simp only [stp, numSt]
        rw [if_neg (by simp [h0]), if_neg hw, if_neg (by omega)]
        rfl
      | txt s =>
        have hb : (itB (.txt s)).length = s.size := length_strL s
        simp only [stp, textSt]
        rw [if_neg (by simp [h0]), if_neg (by omega)]
        rfl
    rw [runI_cons, runI_ok its (stp st i) (by rw [hs]; exact h0) (fun j hj => hf j (List.mem_cons_of_mem _ hj)) (by rw [hs]; simp only [List.length_append]; omega), hs, rowI_cons]
    simp [List.append_assoc]

theorem byt_append {a b : List Int} (ha : Byt a) (hb : Byt b) : Byt (a ++ b) := by
  intro i
  by_cases h : i < a.length
  · have : (a ++ b).getD i 0 = a.getD i 0 := by simp [List.getD, List.getElem?_append_left h]
    rw [this]; exact ha i
  · have : (a ++ b).getD i 0 = b.getD (i - a.length) 0 := by simp [List.getD, List.getElem?_append_right (Nat.le_of_not_lt h)]
    rw [this]; exact hb _

theorem byt_rowI : ∀ its : List Itm, Byt (rowI its)
  | [] => fun i => by simp [rowI]
  | i :: its => by
    rw [rowI_cons]
    refine byt_append ?_ (byt_rowI its)
    cases i with
    | num v n => exact byt_bytesLE v n
    | txt s => exact byt_strL s

/-- A buffer's bounds. -/
def Lim (st : BSt) : Prop := st.m ≤ 200000 ∧ st.l.length ≤ 200000

theorem lim_num {st : BSt} (h : Lim st) (v : Int) (n : Nat) : Lim (numSt st v n) := by
  obtain ⟨h1, h2⟩ := h
  unfold numSt
  by_cases c0 : st.e ≠ 0
  · rw [if_pos c0]; exact ⟨h1, h2⟩
  · rw [if_neg c0]
    by_cases c1 : wide v n
    · rw [if_pos c1]; exact ⟨h1, h2⟩
    · rw [if_neg c1]
      by_cases c2 : st.m - st.l.length < n
      · rw [if_pos c2]; exact ⟨h1, h2⟩
      · rw [if_neg c2]
        refine ⟨h1, ?_⟩
        simp only [List.length_append, length_bytesLE]
        omega

theorem lim_text {st : BSt} (h : Lim st) (s : ByteArray) : Lim (textSt st s) := by
  obtain ⟨h1, h2⟩ := h
  unfold textSt
  by_cases c0 : st.e ≠ 0
  · rw [if_pos c0]; exact ⟨h1, h2⟩
  · rw [if_neg c0]
    by_cases c2 : st.m - st.l.length < s.size
    · rw [if_pos c2]; exact ⟨h1, h2⟩
    · rw [if_neg c2]
      refine ⟨h1, ?_⟩
      simp only [List.length_append, length_strL]
      omega

/-- A buffer under way, and a box (the block c) that stays. -/
def Bx (c : Nat) (o : Obj) (w0 : World) (K0 : Nat → Nat) (g : Nat) (w : World) (st : BSt) : Prop :=
  ∃ K, Bu true w K g st ∧ Fr K0 K w0 w ∧ w.heap[c]? = some o ∧ K c = 0 ∧ Lim st

theorem Bx.lim {c : Nat} {o : Obj} {w0 w : World} {K0 : Nat → Nat} {g : Nat} {st : BSt} (h : Bx c o w0 K0 g w st) : Lim st := by
  obtain ⟨K, _, _, _, _, hl⟩ := h
  exact hl

theorem Bx.box {c : Nat} {o : Obj} {w0 w : World} {K0 : Nat → Nat} {g : Nat} {st : BSt} (h : Bx c o w0 K0 g w st) : w.heap[c]? = some o := by
  obtain ⟨K, _, _, hb, _, _⟩ := h
  exact hb

theorem Bx.fr {c : Nat} {o : Obj} {w0 w : World} {K0 : Nat → Nat} {g : Nat} {st : BSt} (h : Bx c o w0 K0 g w st) : ∃ K, Bu true w K g st ∧ Fr K0 K w0 w := by
  obtain ⟨K, h1, h2, _⟩ := h
  exact ⟨K, h1, h2⟩

theorem Bx.step {c : Nat} {o : Obj} {w0 w : World} {K0 : Nat → Nat} {g : Nat} {st : BSt} (h : Bx c o w0 K0 g w st) :
    ∃ K u, BuV true w K g u st ∧ ∀ w' st', (∃ K', Bu true w' K' g st' ∧ Fr K K' w w') → Lim st' → Bx c o w0 K0 g w' st' := by
  obtain ⟨K, ⟨u, hu⟩, hf, hb, hk, hl⟩ := h
  refine ⟨K, u, hu, fun w' st' ⟨K', h1, h2⟩ hl' => ?_⟩
  have hc : c < w.heap.size := (Array.getElem?_eq_some_iff.1 hb).1
  exact ⟨K', h1, hf.trans h2, (h2.block c hc hk).trans hb, (h2.role c hc).trans hk, hl'⟩

/-- A buffer, and a new box. -/
theorem Bx.inner {w : World} {K : Nat → Nat} {g : Nat} {u : Value} {st : BSt} (h : BuV true w K g u st) (hl : Lim st) (o : Obj) : Bx w.heap.size o w K g (w.alloc o) st := by
  refine ⟨K, Bu.below ⟨u, h⟩ ((Below.refl _ _).alloc (Nat.le_refl _) _), Fr.of_below ((Below.refl _ _).alloc (Nat.le_refl _) _), heap_alloc_new w o, ?_, hl⟩
  by_cases e : K w.heap.size = 0
  · exact e
  · have := h.sup _ e; omega

theorem pu16_any {c : Nat} {o : Obj} {w0 w : World} {K0 : Nat → Nat} {g : Nat} {st : BSt} (h : Bx c o w0 K0 g w st) (v : Int) (hv : Ok64 v) :
    Calls Try.prog 18 #[.pointer (some ⟨g, 0, none⟩), .int .i64 v] w fun e w' => e = .returned (.tuple #[]) ∧ Bx c o w0 K0 g w' (numSt st v 2) := by
  obtain ⟨K, u, hb, hs⟩ := h.step
  have hl := h.lim
  refine (bu16_any hb v hv.1 hv.2 (by have := hl.2; omega)).mono ?_
  rintro e w' ⟨rfl, hf⟩
  exact ⟨rfl, hs _ _ hf (lim_num hl v 2)⟩

theorem pu32_any {c : Nat} {o : Obj} {w0 w : World} {K0 : Nat → Nat} {g : Nat} {st : BSt} (h : Bx c o w0 K0 g w st) (v : Int) (hv : Ok64 v) :
    Calls Try.prog 17 #[.pointer (some ⟨g, 0, none⟩), .int .i64 v] w fun e w' => e = .returned (.tuple #[]) ∧ Bx c o w0 K0 g w' (numSt st v 4) := by
  obtain ⟨K, u, hb, hs⟩ := h.step
  have hl := h.lim
  refine (bu32_any hb v hv.1 hv.2 (by have := hl.2; omega)).mono ?_
  rintro e w' ⟨rfl, hf⟩
  exact ⟨rfl, hs _ _ hf (lim_num hl v 4)⟩

theorem ptext_any {c : Nat} {o : Obj} {w0 w : World} {K0 : Nat → Nat} {g : Nat} {st : BSt} (h : Bx c o w0 K0 g w st) (s : ByteArray) :
    Calls Try.prog 20 #[.pointer (some ⟨g, 0, none⟩), .string s] w fun e w' => e = .returned (.tuple #[]) ∧ Bx c o w0 K0 g w' (textSt st s) := by
  obtain ⟨K, u, hb, hs⟩ := h.step
  have hl := h.lim
  refine (btext_any hb s (fun hr => by have := hl.1; omega)).mono ?_
  rintro e w' ⟨rfl, hf⟩
  exact ⟨rfl, hs _ _ hf (lim_text hl s)⟩

/-- The cells of a box. -/
theorem box_cells {w : World} {c : Nat} {cs : Array Value} {t : TypeId} {k : Nat × Nat} (h : w.heap[c]? = some (.cells cs t k)) (i : Nat) : w.cell? ⟨c, i, none⟩ = cs[i]? := by
  unfold World.cell?
  rw [h]
  rfl

theorem box10 {w : World} {c : Nat} {a0 a1 a2 a3 a4 a5 a6 a7 a8 a9 : Value} {t : TypeId} {k : Nat × Nat} (h : w.heap[c]? = some (.cells #[a0, a1, a2, a3, a4, a5, a6, a7, a8, a9] t k)) :
    w.cell? ⟨c, 0, none⟩ = some a0 ∧ w.cell? ⟨c, 1, none⟩ = some a1 ∧ w.cell? ⟨c, 2, none⟩ = some a2 ∧ w.cell? ⟨c, 3, none⟩ = some a3 ∧ w.cell? ⟨c, 4, none⟩ = some a4 ∧ w.cell? ⟨c, 5, none⟩ = some a5 ∧ w.cell? ⟨c, 6, none⟩ = some a6 ∧ w.cell? ⟨c, 7, none⟩ = some a7 ∧ w.cell? ⟨c, 8, none⟩ = some a8 ∧ w.cell? ⟨c, 9, none⟩ = some a9 :=
  ⟨box_cells h 0, box_cells h 1, box_cells h 2, box_cells h 3, box_cells h 4, box_cells h 5, box_cells h 6, box_cells h 7, box_cells h 8, box_cells h 9⟩
end Go.Proofs.Ytijmmfimkibgbaa

namespace Go.Proofs.Ytijmmfimkibgbaa
open Go.RowKit Go.Maps
set_option maxRecDepth 20000
set_option linter.unusedVariables false

theorem ok_u32 {s : Int} (h0 : 0 ≤ s) (h1 : s < 4294967296) : Ok64 s := by unfold Ok64; omega

set_option maxHeartbeats 1000000 in
theorem putSizes_any (l : Loc) (ok : l.Ok) {c : Nat} {o : Obj} {w0 w : World} {K0 : Nat → Nat} {g : Nat} {st : BSt} (h : Bx c o w0 K0 g w st) :
    Calls Try.prog 37 #[.pointer (some ⟨g, 0, none⟩), l.v] w fun e w' => e = .returned (.tuple #[]) ∧ Bx c o w0 K0 g w' (runI st [.num l.sum 4, .num l.packed 4, .num l.size 4]) := by
  obtain ⟨K, u, hb, hs⟩ := h.step
  have hl := h.lim
  have HI := hide (Bx.inner hb hl (.cells l.cs 24))
  have HS := hide hs
  have HL := hide hl
  obtain ⟨x0, x1, x2, x3, x4, s0, s1, x6, x7, x8, x9⟩ := ok
  obtain ⟨a0, a1, a2, a3, a4, a5, a6, a7, a8, a9⟩ := l
  simp only at s0 s1 x6 x7
  simp only [Loc.cs] at HI
  simp only [Loc.v, Loc.cs]
  have HO5 := hide (ok_u32 s0 s1)
  have HO6 := hide x6
  have HO7 := hide x7
  have g5 : IntKind.i64.wrap a5 = a5 := by rw [IntKind.wrap_i64]; omega
  obtain ⟨wb, hwb⟩ : ∃ wb, w.alloc (.cells #[.int .i64 a0, .int .i64 a1, .int .i64 a2, .int .i64 a3, .int .i64 a4, .int .u32 a5, .int .i64 a6, .int .i64 a7, .string a8, .string a9] 24) = wb := ⟨_, rfl⟩
  rw [hwb] at HI
  obtain ⟨c0, c1, c2, c3, c4, c5, c6, c7, c8, c9⟩ := box10 HI.out.box
  clear h hb hs hl x0 x1 x2 x3 x4 x6 x7 x8 x9 s0 s1 c0 c1 c2 c3 c4 c6 c7 c8 c9
  go_enter Try.func37, Try.ntmps37
  go_wp2_with fail
  refine (pu32_any HI.out a5 HO5.out).mono ?_
  rintro e w1 ⟨rfl, hx⟩
  have HX := hide hx
  obtain ⟨c0, c1, c2, c3, c4, c5, c6, c7, c8, c9⟩ := box10 hx.box
  clear hx c0 c1 c2 c3 c4 c5 c7 c8 c9
  go_wp2_with fail
  refine (pu32_any HX.out a6 HO6.out).mono ?_
  rintro e w2 ⟨rfl, hx⟩
  clear HX
  have HX := hide hx
  obtain ⟨c0, c1, c2, c3, c4, c5, c6, c7, c8, c9⟩ := box10 hx.box
  clear hx c0 c1 c2 c3 c4 c5 c6 c8 c9
  go_wp2_with fail
  refine (pu32_any HX.out a7 HO7.out).mono ?_
  rintro e w3 ⟨rfl, hx⟩
  clear HX
  have HX := hide hx
  clear hx
  go_wp2
  (try simp only [Exit.inBlock, Exit.then]); refine bodyPost_end (results_none rfl _ _ _) rfl ?_
  exact ⟨rfl, HS.out _ _ HX.out.fr HX.out.lim⟩

/-- The answer of what was put: the bytes, or the one error. -/
def tkE (st : BSt) : Int := if st.e = 0 then 0 else 124
def tkL (st : BSt) : List Int := if st.e = 0 then st.l else []

theorem taken_any {w : World} {K : Nat → Nat} {g : Nat} {u : Value} {st : BSt} (h : BuV true w K g u st) (hl : st.l.length ≤ 200000) :
    Calls Try.prog 21 #[.pointer (some ⟨g, 0, none⟩)] w fun e w' => ∃ a c, e = .returned (.tuple #[.slice a (tkL st).length c, .int .i64 (tkE st)]) ∧ OB w' w.heap.size (.slice a (tkL st).length c) (tkL st) ∧ Below w.heap.size w w' := by
  have H := hide h
  have hl' : st.l.length ≤ 140737488351232 := by omega
  by_cases he : st.e = 0
  · have HE := hide he
    have h1 : tkE st = 0 := if_pos he
    have h2 : tkL st = st.l := if_pos he
    have h3 : st.l = if st.e = 0 then st.l else [] := by rw [if_pos he]
    rw [h1, h2]
    have H3 := hide h3
    have HL := hide hl'
    clear h h1 h2 h3 he hl hl'
    go_enter Try.func21, Try.ntmps21
    go_wp2_with fail
    refine (berr_any H.out).mono ?_
    rintro e w ⟨rfl, rfl⟩
    rw [HE.out]
    go_wp2_with fail
    refine (btake_any H.out HL.out st.l H3.out).mono ?_
    rintro e w1 ⟨a, c, rfl, ho, hb⟩
    have HO := hide ho
    have HB := hide hb
    clear ho hb
    go_wp2
    go_ret2
    exact ⟨a, c, rfl, HO.out, HB.out⟩
  · have h1 : tkE st = 124 := if_neg he
    have h2 : tkL st = [] := if_neg he
    have he' : (st.e != 0) = true := by simpa using he
    rw [h1, h2]
    clear h h1 h2 hl hl'
    go_enter Try.func21, Try.ntmps21
    go_wp2_with fail
    refine (berr_any H.out).mono ?_
    rintro e w ⟨rfl, rfl⟩
    go_wp2
    go_ret2
    exact ⟨none, 0, rfl, World.ownsRow_nil _ _ _ _, Below.refl _ _⟩

/-- The answer that a row of items gets: P12.5. -/
def puE (its : List Itm) : Int := if fitI its then 0 else 124
def puL (its : List Itm) : List Int := if fitI its then rowI its else []

theorem pu_of (its : List Itm) (m : Int) (hm : fitI its → ((rowI its).length : Int) ≤ m) : tkE (runI ⟨[], m, 0⟩ its) = puE its ∧ tkL (runI ⟨[], m, 0⟩ its) = puL its := by
  unfold tkE tkL puE puL
  by_cases hf : fitI its
  · rw [runI_ok its ⟨[], m, 0⟩ rfl hf (by have := hm hf; simp; omega), if_pos hf, if_pos hf]
    simp
  · have := runI_wide its ⟨[], m, 0⟩ hf
    rw [if_neg this, if_neg this, if_neg hf, if_neg hf]
    exact ⟨rfl, rfl⟩

/-- A new buffer beside a box. -/
theorem newBx {c : Nat} {o : Obj} (w0 w : World) (m : Int) (hm0 : 0 ≤ m) (hm : m ≤ 200000) (hc : w.heap[c]? = some o) (hw : Below w0.heap.size w0 w) :
    Calls Try.prog 16 #[.int .i64 m] w fun e w' => ∃ g, e = .returned (.pointer (some ⟨g, 0, none⟩)) ∧ Bx c o w0 (fun _ => 0) g w' ⟨[], m, 0⟩ := by
  refine (newBuffer_any m (by omega) w).mono ?_
  rintro e w' ⟨g, K, rfl, hb, hk, hbl⟩
  have hcl : c < w.heap.size := (Array.getElem?_eq_some_iff.1 hc).1
  have hz : ∀ k, k < w.heap.size → K k = 0 := fun k hk' => by
    by_cases e : K k = 0
    · exact e
    · have := hk k e; omega
  refine ⟨g, rfl, K, ?_, ?_, (hbl.block c hcl).trans hc, hz c hcl, hm, by simp⟩
  · rw [newSt, if_neg (by omega)] at hb; exact hb
  · have hh : Below w0.heap.size w0 w' := hw.trans (hbl.mono hw.size)
    exact ⟨hh.os, hh.tape, hh.output, hh.size, fun k hk' _ => hh.block k hk', fun k hk' => hz k (Nat.lt_of_lt_of_le hk' hw.size)⟩

theorem Bx.below0 {c : Nat} {o : Obj} {w0 w : World} {g : Nat} {st : BSt} (h : Bx c o w0 (fun _ => 0) g w st) : Below w0.heap.size w0 w := by
  obtain ⟨K, h1, h2⟩ := h.fr
  exact h2.below (fun k hk => absurd rfl hk) (Nat.le_refl _)

theorem ptaken_any {c : Nat} {o : Obj} {w0 w : World} {g : Nat} {st : BSt} (h : Bx c o w0 (fun _ => 0) g w st) :
    Calls Try.prog 21 #[.pointer (some ⟨g, 0, none⟩)] w fun e w' => ∃ a c, e = .returned (.tuple #[.slice a (tkL st).length c, .int .i64 (tkE st)]) ∧ OB w' w0.heap.size (.slice a (tkL st).length c) (tkL st) ∧ Below w0.heap.size w0 w' := by
  have hl := h.lim
  have hb := h.below0
  obtain ⟨K, ⟨u, hu⟩, _⟩ := h.fr
  refine (taken_any hu hl.2).mono ?_
  rintro e w' ⟨a, c, rfl, ho, hb'⟩
  exact ⟨a, c, rfl, ho.base hb.size, hb.trans (hb'.mono hb.size)⟩
end Go.Proofs.Ytijmmfimkibgbaa

namespace Go.Proofs.Ytijmmfimkibgbaa
open Go.RowKit Go.Maps
set_option maxRecDepth 20000
set_option linter.unusedVariables false
set_option linter.unusedSimpArgs false

theorem box7 {w : World} {c : Nat} {a0 a1 a2 a3 a4 a5 a6 : Value} {t : TypeId} {k : Nat × Nat} (h : w.heap[c]? = some (.cells #[a0, a1, a2, a3, a4, a5, a6] t k)) :
    w.cell? ⟨c, 0, none⟩ = some a0 ∧ w.cell? ⟨c, 1, none⟩ = some a1 ∧ w.cell? ⟨c, 2, none⟩ = some a2 ∧ w.cell? ⟨c, 3, none⟩ = some a3 ∧ w.cell? ⟨c, 4, none⟩ = some a4 ∧ w.cell? ⟨c, 5, none⟩ = some a5 ∧ w.cell? ⟨c, 6, none⟩ = some a6 :=
  ⟨box_cells h 0, box_cells h 1, box_cells h 2, box_cells h 3, box_cells h 4, box_cells h 5, box_cells h 6⟩

theorem box16 {w : World} {c : Nat} {a0 a1 a2 a3 a4 a5 a6 a7 a8 a9 a10 a11 a12 a13 a14 a15 : Value} {t : TypeId} {k : Nat × Nat} (h : w.heap[c]? = some (.cells #[a0, a1, a2, a3, a4, a5, a6, a7, a8, a9, a10, a11, a12, a13, a14, a15] t k)) :
    w.cell? ⟨c, 0, none⟩ = some a0 ∧ w.cell? ⟨c, 1, none⟩ = some a1 ∧ w.cell? ⟨c, 2, none⟩ = some a2 ∧ w.cell? ⟨c, 3, none⟩ = some a3 ∧ w.cell? ⟨c, 4, none⟩ = some a4 ∧ w.cell? ⟨c, 5, none⟩ = some a5 ∧ w.cell? ⟨c, 6, none⟩ = some a6 ∧ w.cell? ⟨c, 7, none⟩ = some a7 ∧ w.cell? ⟨c, 8, none⟩ = some a8 ∧ w.cell? ⟨c, 9, none⟩ = some a9 ∧ w.cell? ⟨c, 10, none⟩ = some a10 ∧ w.cell? ⟨c, 11, none⟩ = some a11 ∧ w.cell? ⟨c, 12, none⟩ = some a12 ∧ w.cell? ⟨c, 13, none⟩ = some a13 ∧ w.cell? ⟨c, 14, none⟩ = some a14 ∧ w.cell? ⟨c, 15, none⟩ = some a15 :=
  ⟨box_cells h 0, box_cells h 1, box_cells h 2, box_cells h 3, box_cells h 4, box_cells h 5, box_cells h 6, box_cells h 7, box_cells h 8, box_cells h 9, box_cells h 10, box_cells h 11, box_cells h 12, box_cells h 13, box_cells h 14, box_cells h 15⟩

/-- The end record. -/
structure Enr where
  disk : Int
  dirDisk : Int
  here : Int
  total : Int
  dirSize : Int
  dirAt : Int
  comment : ByteArray

def Enr.cs (x : Enr) : Array Value := #[.int .i64 x.disk, .int .i64 x.dirDisk, .int .i64 x.here, .int .i64 x.total, .int .i64 x.dirSize, .int .i64 x.dirAt, .string x.comment]

def Enr.v (x : Enr) : Value := .agg x.cs

structure Enr.Ok (x : Enr) : Prop where
  disk : Ok64 x.disk
  dirDisk : Ok64 x.dirDisk
  here : Ok64 x.here
  total : Ok64 x.total
  dirSize : Ok64 x.dirSize
  dirAt : Ok64 x.dirAt
  comment : x.comment.size ≤ 140737488351232

/-- A directory record. -/
structure Cen where
  loc : Loc
  made : Int
  disk : Int
  internal : Int
  external : Int
  at' : Int
  comment : ByteArray

def Cen.cs (c : Cen) : Array Value := #[.int .i64 c.loc.need, .int .i64 c.loc.flags, .int .i64 c.loc.method, .int .i64 c.loc.clock, .int .i64 c.loc.date, .int .u32 c.loc.sum, .int .i64 c.loc.packed, .int .i64 c.loc.size, .string c.loc.name, .string c.loc.extra, .int .i64 c.made, .int .i64 c.disk, .int .i64 c.internal, .int .i64 c.external, .int .i64 c.at', .string c.comment]

def Cen.v (c : Cen) : Value := .agg c.cs

structure Cen.Ok (c : Cen) : Prop where
  loc : c.loc.Ok
  made : Ok64 c.made
  disk : Ok64 c.disk
  internal : Ok64 c.internal
  external : Ok64 c.external
  at' : Ok64 c.at'
  comment : c.comment.size ≤ 140737488351232

/-- The items of the three records. -/
def lcI (l : Loc) : List Itm := [.num l.need 2, .num l.flags 2, .num l.method 2, .num l.clock 2, .num l.date 2, .num l.sum 4, .num l.packed 4, .num l.size 4, .num l.name.size 2, .num l.extra.size 2]

def loI (l : Loc) : List Itm := .num 67324752 4 :: (lcI l ++ [.txt l.name, .txt l.extra])

def ceI (c : Cen) : List Itm := .num 33639248 4 :: .num c.made 2 :: (lcI c.loc ++ [.num c.comment.size 2, .num c.disk 2, .num c.internal 2, .num c.external 4, .num c.at' 4, .txt c.loc.name, .txt c.loc.extra, .txt c.comment])

def enI (x : Enr) : List Itm := [.num 101010256 4, .num x.disk 2, .num x.dirDisk 2, .num x.here 2, .num x.total 2, .num x.dirSize 4, .num x.dirAt 4, .num x.comment.size 2, .txt x.comment]

theorem size_fit {s : ByteArray} (h : ¬ wide (s.size : Int) 2) : s.size ≤ 65535 := by unfold wide at h; omega

theorem loI_row (l : Loc) : (rowI (loI l)).length = 30 + l.name.size + l.extra.size := by
  simp only [loI, lcI, rowI, itB, List.flatMap_cons, List.flatMap_nil, List.cons_append, List.nil_append, List.length_append, length_bytesLE, length_strL, List.length_nil]
  omega

theorem ceI_row (c : Cen) : (rowI (ceI c)).length = 46 + c.loc.name.size + c.loc.extra.size + c.comment.size := by
  simp only [ceI, lcI, rowI, itB, List.flatMap_cons, List.flatMap_nil, List.cons_append, List.nil_append, List.length_append, length_bytesLE, length_strL, List.length_nil]
  omega

theorem enI_row (x : Enr) : (rowI (enI x)).length = 22 + x.comment.size := by
  simp only [enI, rowI, itB, List.flatMap_cons, List.flatMap_nil, List.cons_append, List.nil_append, List.length_append, length_bytesLE, length_strL, List.length_nil]
  omega

theorem loI_len (l : Loc) (h : fitI (loI l)) : ((rowI (loI l)).length : Int) ≤ 196651 := by
  have h1 := size_fit (h (.num l.name.size 2) (by simp [loI, lcI]))
  have h2 := size_fit (h (.num l.extra.size 2) (by simp [loI, lcI]))
  rw [loI_row]
  omega

theorem ceI_len (c : Cen) (h : fitI (ceI c)) : ((rowI (ceI c)).length : Int) ≤ 196651 := by
  have h1 := size_fit (h (.num c.loc.name.size 2) (by simp [ceI, lcI]))
  have h2 := size_fit (h (.num c.loc.extra.size 2) (by simp [ceI, lcI]))
  have h3 := size_fit (h (.num c.comment.size 2) (by simp [ceI, lcI]))
  rw [ceI_row]
  omega

theorem enI_len (x : Enr) (h : fitI (enI x)) : ((rowI (enI x)).length : Int) ≤ 196651 := by
  have h1 := size_fit (h (.num x.comment.size 2) (by simp [enI]))
  rw [enI_row]
  omega

theorem ok_size {s : ByteArray} (h : s.size ≤ 140737488351232) : Ok64 (s.size : Int) := by unfold Ok64; omega
end Go.Proofs.Ytijmmfimkibgbaa

