import Derived.Test.YtjmjjjpanioifaaGBNew
import Derived.Test.YtjmjjjpanioifaaGBText
namespace Go.Proofs.Ytjmjjjpanioifaa
open Go.RowKit Go.Maps
set_option maxRecDepth 20000
set_option linter.unusedVariables false

def Ok64 (v : Int) : Prop := -9223372036854775808 ≤ v ∧ v ≤ 9223372036854775807

/-- A local header. -/
structure Loc where
  need : Int
  flags : Int
  method : Int
  clock : Int
  date : Int
  sum : Int
  packed : Int
  size : Int
  name : ByteArray
  extra : ByteArray

def Loc.cs (l : Loc) : Array Value := #[.int .i64 l.need, .int .i64 l.flags, .int .i64 l.method, .int .i64 l.clock, .int .i64 l.date, .int .u32 l.sum, .int .i64 l.packed, .int .i64 l.size, .string l.name, .string l.extra]

def Loc.v (l : Loc) : Value := .agg l.cs

structure Loc.Ok (l : Loc) : Prop where
  need : Ok64 l.need
  flags : Ok64 l.flags
  method : Ok64 l.method
  clock : Ok64 l.clock
  date : Ok64 l.date
  sum0 : 0 ≤ l.sum
  sum1 : l.sum < 4294967296
  packed : Ok64 l.packed
  size : Ok64 l.size
  name : l.name.size ≤ 140737488351232
  extra : l.extra.size ≤ 140737488351232

/-- What is put into a record, one behind the other. -/
inductive Itm where
  | num (v : Int) (n : Nat)
  | txt (s : ByteArray)

def stp (st : BSt) : Itm → BSt
  | .num v n => numSt st v n
  | .txt s => textSt st s

def itB : Itm → List Int
  | .num v n => bytesLE v n
  | .txt s => strL s

def itW : Itm → Prop
  | .num v n => wide v n
  | .txt _ => False

instance (i : Itm) : Decidable (itW i) := by
  cases i
  · exact inferInstanceAs (Decidable (wide _ _))
  · exact inferInstanceAs (Decidable False)

def runI (st : BSt) (its : List Itm) : BSt := its.foldl stp st

def rowI (its : List Itm) : List Int := its.flatMap itB

def fitI (its : List Itm) : Prop := ∀ i ∈ its, ¬ itW i

instance (its : List Itm) : Decidable (fitI its) := by unfold fitI; exact inferInstance

theorem rowI_cons (i : Itm) (its : List Itm) : rowI (i :: its) = itB i ++ rowI its := by simp [rowI]

theorem runI_cons (st : BSt) (i : Itm) (its : List Itm) : runI st (i :: its) = runI (stp st i) its := rfl

theorem runI_app (st : BSt) (a b : List Itm) : runI st (a ++ b) = runI (runI st a) b := by simp [runI]

theorem stp_err {st : BSt} (h : st.e ≠ 0) (i : Itm) : stp st i = st := by
  cases i
  · simp [stp, numSt, h]
  · simp [stp, textSt, h]

theorem runI_err : ∀ (its : List Itm) {st : BSt}, st.e ≠ 0 → runI st its = st
  | [], _, _ => rfl
  | i :: its, st, h => by rw [runI_cons, stp_err h]; exact runI_err its h

theorem runI_wide : ∀ (its : List Itm) (st : BSt), ¬ fitI its → (runI st its).e ≠ 0
  | [], _, h => absurd (fun i hi => by cases hi) h
  | i :: its, st, h => by
    rw [runI_cons]
    by_cases hi : itW i
    · have he : (stp st i).e ≠ 0 := by
        cases i with
        | num v n =>
          simp only [stp, numSt]
          by_cases h0 : st.e ≠ 0
          · rw [if_pos h0]; exact h0
          · rw [if_neg h0, if_pos (show wide v n from hi)]; simp
        | txt s => exact absurd hi (by simp [itW])
      rw [runI_err its he]; exact he
    · exact runI_wide its _ (fun hf => h (fun j hj => by
        rcases List.mem_cons.1 hj with rfl | hj
        · exact hi
        · exact hf j hj))

theorem runI_ok : ∀ (its : List Itm) (st : BSt), st.e = 0 → fitI its → (st.l.length : Int) + (rowI its).length ≤ st.m → runI st its = { st with l := st.l ++ rowI its }
  | [], st, _, _, _ => by simp [runI, rowI]
  | i :: its, st, h0, hf, hl => by
    rw [rowI_cons, List.length_append] at hl
    have hs : stp st i = { st with l := st.l ++ itB i } := by
      cases i with
      | num v n =>
        have hw : ¬ wide v n := hf _ (List.mem_cons_self ..)
        have hb : (itB (.num v n)).length = n := length_bytesLE v n
        simp only [stp, numSt]
        rw [if_neg (by simp [h0]), if_neg hw, if_neg (by omega)]
        rfl
      | txt s =>
        have hb : (itB (.txt s)).length = s.size := length_strL s
        simp only [stp, textSt]
        rw [if_neg (by simp [h0]), if_neg (by omega)]
        rfl
    rw [runI_cons, runI_ok its (stp st i) (by rw [hs]; exact h0) (fun j hj => hf j (List.mem_cons_of_mem _ hj)) (by rw [hs]; simp only [List.length_append]; omega), hs, rowI_cons]
    simp [List.append_assoc]

theorem byt_append {a b : List Int} (ha : Byt a) (hb : Byt b) : Byt (a ++ b) := by
  intro i
  by_cases h : i < a.length
  · have : (a ++ b).getD i 0 = a.getD i 0 := by simp [List.getD, List.getElem?_append_left h]
    rw [this]; exact ha i
  · have : (a ++ b).getD i 0 = b.getD (i - a.length) 0 := by simp [List.getD, List.getElem?_append_right (Nat.le_of_not_lt h)]
    rw [this]; exact hb _

theorem byt_rowI : ∀ its : List Itm, Byt (rowI its)
  | [] => fun i => by simp [rowI]
  | i :: its => by
    rw [rowI_cons]
    refine byt_append ?_ (byt_rowI its)
    cases i with
    | num v n => exact byt_bytesLE v n
    | txt s => exact byt_strL s

/-- A buffer's bounds. -/
def Lim (st : BSt) : Prop := st.m ≤ 200000 ∧ st.l.length ≤ 200000

theorem lim_num {st : BSt} (h : Lim st) (v : Int) (n : Nat) : Lim (numSt st v n) := by
  obtain ⟨h1, h2⟩ := h
  unfold numSt
  by_cases c0 : st.e ≠ 0
  · rw [if_pos c0]; exact ⟨h1, h2⟩
  · rw [if_neg c0]
    by_cases c1 : wide v n
    · rw [if_pos c1]; exact ⟨h1, h2⟩
    · rw [if_neg c1]
      by_cases c2 : st.m - st.l.length < n
      · rw [if_pos c2]; exact ⟨h1, h2⟩
      · rw [if_neg c2]
        refine ⟨h1, ?_⟩
        simp only [List.length_append, length_bytesLE]
        omega

theorem lim_text {st : BSt} (h : Lim st) (s : ByteArray) : Lim (textSt st s) := by
  obtain ⟨h1, h2⟩ := h
  unfold textSt
  by_cases c0 : st.e ≠ 0
  · rw [if_pos c0]; exact ⟨h1, h2⟩
  · rw [if_neg c0]
    by_cases c2 : st.m - st.l.length < s.size
    · rw [if_pos c2]; exact ⟨h1, h2⟩
    · rw [if_neg c2]
      refine ⟨h1, ?_⟩
      simp only [List.length_append, length_strL]
      omega

/-- A buffer under way, and a box (the block c) that stays. -/
def Bx (c : Nat) (o : Obj) (w0 : World) (K0 : Nat → Nat) (g : Nat) (w : World) (st : BSt) : Prop :=
  ∃ K, Bu true w K g st ∧ Fr K0 K w0 w ∧ w.heap[c]? = some o ∧ K c = 0 ∧ Lim st

theorem Bx.lim {c : Nat} {o : Obj} {w0 w : World} {K0 : Nat → Nat} {g : Nat} {st : BSt} (h : Bx c o w0 K0 g w st) : Lim st := by
  obtain ⟨K, _, _, _, _, hl⟩ := h
  exact hl

theorem Bx.box {c : Nat} {o : Obj} {w0 w : World} {K0 : Nat → Nat} {g : Nat} {st : BSt} (h : Bx c o w0 K0 g w st) : w.heap[c]? = some o := by
  obtain ⟨K, _, _, hb, _, _⟩ := h
  exact hb

theorem Bx.fr {c : Nat} {o : Obj} {w0 w : World} {K0 : Nat → Nat} {g : Nat} {st : BSt} (h : Bx c o w0 K0 g w st) : ∃ K, Bu true w K g st ∧ Fr K0 K w0 w := by
  obtain ⟨K, h1, h2, _⟩ := h
  exact ⟨K, h1, h2⟩

theorem Bx.step {c : Nat} {o : Obj} {w0 w : World} {K0 : Nat → Nat} {g : Nat} {st : BSt} (h : Bx c o w0 K0 g w st) :
    ∃ K u, BuV true w K g u st ∧ ∀ w' st', (∃ K', Bu true w' K' g st' ∧ Fr K K' w w') → Lim st' → Bx c o w0 K0 g w' st' := by
  obtain ⟨K, ⟨u, hu⟩, hf, hb, hk, hl⟩ := h
  refine ⟨K, u, hu, fun w' st' ⟨K', h1, h2⟩ hl' => ?_⟩
  have hc : c < w.heap.size := (Array.getElem?_eq_some_iff.1 hb).1
  exact ⟨K', h1, hf.trans h2, (h2.block c hc hk).trans hb, (h2.role c hc).trans hk, hl'⟩

/-- A buffer, and a new box. -/
theorem Bx.inner {w : World} {K : Nat → Nat} {g : Nat} {u : Value} {st : BSt} (h : BuV true w K g u st) (hl : Lim st) (o : Obj) : Bx w.heap.size o w K g (w.alloc o) st := by
  refine ⟨K, Bu.below ⟨u, h⟩ ((Below.refl _ _).alloc (Nat.le_refl _) _), Fr.of_below ((Below.refl _ _).alloc (Nat.le_refl _) _), heap_alloc_new w o, ?_, hl⟩
  by_cases e : K w.heap.size = 0
  · exact e
  · have := h.sup _ e; omega

theorem pu16_any {c : Nat} {o : Obj} {w0 w : World} {K0 : Nat → Nat} {g : Nat} {st : BSt} (h : Bx c o w0 K0 g w st) (v : Int) (hv : Ok64 v) :
    Calls Try.prog 47 #[.pointer (some ⟨g, 0, none⟩), .int .i64 v] w fun e w' => e = .returned (.tuple #[]) ∧ Bx c o w0 K0 g w' (numSt st v 2) := by
  obtain ⟨K, u, hb, hs⟩ := h.step
  have hl := h.lim
  refine (bu16_any hb v hv.1 hv.2 (by have := hl.2; omega)).mono ?_
  rintro e w' ⟨rfl, hf⟩
  exact ⟨rfl, hs _ _ hf (lim_num hl v 2)⟩

theorem pu32_any {c : Nat} {o : Obj} {w0 w : World} {K0 : Nat → Nat} {g : Nat} {st : BSt} (h : Bx c o w0 K0 g w st) (v : Int) (hv : Ok64 v) :
    Calls Try.prog 46 #[.pointer (some ⟨g, 0, none⟩), .int .i64 v] w fun e w' => e = .returned (.tuple #[]) ∧ Bx c o w0 K0 g w' (numSt st v 4) := by
  obtain ⟨K, u, hb, hs⟩ := h.step
  have hl := h.lim
  refine (bu32_any hb v hv.1 hv.2 (by have := hl.2; omega)).mono ?_
  rintro e w' ⟨rfl, hf⟩
  exact ⟨rfl, hs _ _ hf (lim_num hl v 4)⟩

theorem ptext_any {c : Nat} {o : Obj} {w0 w : World} {K0 : Nat → Nat} {g : Nat} {st : BSt} (h : Bx c o w0 K0 g w st) (s : ByteArray) :
    Calls Try.prog 49 #[.pointer (some ⟨g, 0, none⟩), .string s] w fun e w' => e = .returned (.tuple #[]) ∧ Bx c o w0 K0 g w' (textSt st s) := by
  obtain ⟨K, u, hb, hs⟩ := h.step
  have hl := h.lim
  refine (btext_any hb s (fun hr => by have := hl.1; omega)).mono ?_
  rintro e w' ⟨rfl, hf⟩
  exact ⟨rfl, hs _ _ hf (lim_text hl s)⟩

/-- The cells of a box. -/
theorem box_cells {w : World} {c : Nat} {cs : Array Value} {t : TypeId} {k : Nat × Nat} (h : w.heap[c]? = some (.cells cs t k)) (i : Nat) : w.cell? ⟨c, i, none⟩ = cs[i]? := by
  unfold World.cell?
  rw [h]
  rfl

theorem box10 {w : World} {c : Nat} {a0 a1 a2 a3 a4 a5 a6 a7 a8 a9 : Value} {t : TypeId} {k : Nat × Nat} (h : w.heap[c]? = some (.cells #[a0, a1, a2, a3, a4, a5, a6, a7, a8, a9] t k)) :
    w.cell? ⟨c, 0, none⟩ = some a0 ∧ w.cell? ⟨c, 1, none⟩ = some a1 ∧ w.cell? ⟨c, 2, none⟩ = some a2 ∧ w.cell? ⟨c, 3, none⟩ = some a3 ∧ w.cell? ⟨c, 4, none⟩ = some a4 ∧ w.cell? ⟨c, 5, none⟩ = some a5 ∧ w.cell? ⟨c, 6, none⟩ = some a6 ∧ w.cell? ⟨c, 7, none⟩ = some a7 ∧ w.cell? ⟨c, 8, none⟩ = some a8 ∧ w.cell? ⟨c, 9, none⟩ = some a9 :=
  ⟨box_cells h 0, box_cells h 1, box_cells h 2, box_cells h 3, box_cells h 4, box_cells h 5, box_cells h 6, box_cells h 7, box_cells h 8, box_cells h 9⟩
end Go.Proofs.Ytjmjjjpanioifaa

