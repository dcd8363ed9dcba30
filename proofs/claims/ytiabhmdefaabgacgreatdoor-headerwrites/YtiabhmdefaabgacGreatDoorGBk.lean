import Derived.Test.YtiabhmdefaabgacGreatDoorG5b
namespace Go.Proofs.YtiabhmdefaabgacGreatDoor
open Go.RowKit Go.Maps
set_option maxRecDepth 20000

theorem cloneI_any (v : Value) (l : List Int) (w : World) (h : SI w v l) (hr : l.length ≤ 288) :
    Calls Tryz.prog 84 #[v] w fun e w' => ∃ a c, e = .returned (.slice a l.length c) ∧ OI w' w.heap.size (.slice a l.length c) l ∧ Below w.heap.size w w' := by
  have HS := hide h
  obtain ⟨ao, cap, rfl, hlc, hcm⟩ := h.open
  have he := fun (w : World) (a : Option Addr) (n c : Nat) => Lib.run_eql_slice_nil (P := Tryz.prog) w 23 3 a n c 0 0 Tryz.underlying23
  cases ao with
  | none =>
    obtain ⟨ao', cap', e1, e2, e3, e4, _⟩ := h
    simp only [Value.slice.injEq] at e1
    obtain ⟨rfl, -, rfl⟩ := e1
    obtain rfl : cap = 0 := e4 rfl
    obtain rfl : l = [] := List.eq_nil_of_length_eq_zero (by omega)
    clear HS e2 e3 e4
    go_enter Tryz.func84, Tryz.ntmps84
    go_wp2
    go_ret
    exact ⟨_, _, rfl, World.ownsRow_nil _ _ _ _, Below.refl _ _⟩
  | some x =>
    clear h
    go_enter Tryz.func84, Tryz.ntmps84
    have O1 : Hid (OI (w.alloc (.cells #[] 3)) w.heap.size (.slice (some ⟨w.heap.size, 0, none⟩) 0 0) []) := World.ownsRow_made w #[] 0 (Nat.le_refl _) (Nat.zero_le _) rfl
    have HSR : Hid (Src Tryz.prog 1 23 (.slice (some x) l.length cap) l.length (l.map (Value.int .i64)) (w.alloc (.cells #[] 3))) := (HS.out.below ((Below.refl _ _).alloc (Nat.le_refl _) _)).src
    go_wp2_with (at_builtin; refine wpList_appI rfl _ _ 23 rfl w.heap.size _ _ [] l rfl O1.out rfl HSR.out (by simp; omega) (by simp) ?_)
    intro v' w1 hown hgrow
    have HF : Hid (OI w1 w.heap.size v' l) := hown
    have hb : Below w.heap.size w w1 := ((Below.refl _ _).alloc (Nat.le_refl _) _).grown hgrow.by (by simp) (fun k hk => by simp [Value.ownBlock] at hk; omega)
    have HB := hide hb
    clear hown hgrow hb
    go_wp2
    go_ret
    obtain ⟨a, c, hv⟩ := HF.out.shape
    rw [hv] at HF ⊢
    exact ⟨a, c, rfl, HF.out, HB.out⟩

def bkE (l : List Int) : Int := if chkE l ≠ 0 then chkE l else if shp l = 2 then 52 else if shp l = 3 then 51 else 0

theorem bkE_zero {l : List Int} (h : bkE l = 0) : Lens l ∧ shp l ≠ 2 ∧ shp l ≠ 3 := by
  unfold bkE at h
  by_cases h0 : chkE l = 0
  · rw [if_neg (by simp [h0])] at h
    by_cases h2 : shp l = 2
    · rw [if_pos h2] at h; omega
    · rw [if_neg h2] at h
      by_cases h3 : shp l = 3
      · rw [if_pos h3] at h; omega
      · exact ⟨(chkE_zero h0).1, h2, h3⟩
  · rw [if_pos h0] at h; exact absurd h h0

/-- A book, or none. -/
def BookOf (w w' : World) (l : List Int) (vl vw : Value) : Prop := (bkE l ≠ 0 ∧ vl = .slice none 0 0 ∧ vw = .slice none 0 0) ∨ (bkE l = 0 ∧ OI w' w.heap.size vl l ∧ OI w' w.heap.size vw (wds l))

theorem ret_book {fn : Func} {R : Ending → World → Prop} {a : Act} {w : World} {p q : Tmp} (hres : fn.results = #[.cell p 104, .tmp q]) (g : Nat) (vl vw : Value) (hp : a.tmps.getD p undef = .pointer (some ⟨g, 0, none⟩))
    (hg : w.heap[g]? = some (.cells #[vl, vw] 104 (0, 0))) (hd : a.defers = []) (hR : R (.returned (.tuple #[.agg #[vl, vw], a.tmps.getD q undef])) w) : bodyPost Tryz.prog fn R .ret a w := by
  refine bodyPost_ret (v := .tuple #[.agg #[vl, vw], a.tmps.getD q undef]) ?_ hd hR
  have hl := run_loadVar_row (P := Tryz.prog) w g 104 104 #[vl, vw] (0, 0) _ hg Tryz.underlying104 rfl (by kernel_rfl)
  have hp' : a.tmps[p]?.getD undef = .pointer (some ⟨g, 0, none⟩) := by simpa using hp
  simp [results, hres, hp', asAddr, hl]

theorem wpList_storeB {ops : Array Oper} {rest : List Oper} {a : Act} {w : World} {Q : Exit → Act → World → Prop} {dst : Option Tmp} {x y : Operand} {ty : TypeId} {pos : String} {after : Array Edge} (g : Nat) (vl vw x0 x1 : Value)
    (hx : a.eval x = .pointer (some ⟨g, 0, none⟩)) (hy : a.eval y = .agg #[vl, vw]) (hg : w.heap[g]? = some (.cells #[x0, x1] 104 (0, 0))) (h1 : vl.oneCell' = true) (h2 : vw.oneCell' = true) (h : wpList Tryz.prog ops Q rest (a.put dst undef) (w.setRow g #[vl, vw])) :
    wpList Tryz.prog ops Q ({ dst := dst, op := .store 104 x y, type := ty, pos := pos, after := after, guard := none } :: rest) a w :=
  wpList_store_row rfl 104 x y rfl g #[vl, vw] hx hy 104 #[x0, x1] hg (by kernel_rfl) rfl (by simp [h1, h2]) h

theorem below_setRow {w w' : World} {B g : Nat} {cs : Array Value} (h : Below B w w') (hg : B ≤ g) : Below B w (w'.setRow g cs) :=
  ⟨h.os, h.tape, h.output, by rw [size_setRow]; exact h.size, fun k hk => (setRow_other w' g k cs (by omega)).trans (h.block k hk)⟩

def Made (w : World) (l : List Int) (e : Ending) (w' : World) : Prop := ∃ vl vw, e = .returned (.tuple #[.agg #[vl, vw], .int .i64 (bkE l)]) ∧ BookOf w w' l vl vw ∧ Below w.heap.size w w'

theorem newBook_any (v : Value) (l : List Int) (w : World) (h : SI w v l) :
    Calls Tryz.prog 63 #[v] w fun e w' => Made w l e w' := by
  have HS := hide h
  obtain ⟨ao, cap, rfl, hlc, hcm⟩ := h.open
  clear h
  have HA : Hid ((w.alloc (.cells #[.slice none 0 0, .slice none 0 0] 104)).heap[w.heap.size]? = some (.cells #[.slice none 0 0, .slice none 0 0] 104 (0, 0))) := heap_alloc_new w _
  have hBA : Below w.heap.size w (w.alloc (.cells #[.slice none 0 0, .slice none 0 0] 104)) := (Below.refl _ _).alloc (Nat.le_refl _) _
  have HBA := hide hBA
  have HSA := hide (HS.out.below hBA)
  clear hBA
  go_enter Tryz.func63, Tryz.ntmps63
  go_wp2_with fail
  refine (check_any _ l _ HSA.out).mono ?_
  rintro e w1 ⟨rfl, hb1⟩
  have HA1 : Hid (w1.heap[w.heap.size]? = some (.cells #[.slice none 0 0, .slice none 0 0] 104 (0, 0))) := (hb1.block _ (by simp)).trans HA.out
  have HB1 : Hid (Below w.heap.size w w1) := HBA.out.trans (hb1.mono (by simp))
  have HS1 := hide (HSA.out.below hb1)
  have hw1 : w.heap.size < w1.heap.size := by have := hb1.size; simp at this; omega
  clear hb1
  have HEND : Hid (w1.heap[w.heap.size]? = some (.cells #[.slice none 0 0, .slice none 0 0] 104 (0, 0)) → (w1.setRow w.heap.size #[.slice none 0 0, .slice none 0 0]).heap[w.heap.size]? = some (.cells #[.slice none 0 0, .slice none 0 0] 104 (0, 0))) := fun h => setRow_heap w1 _ _ _ _ _ h
  by_cases h0 : chkE l = 0
  case neg =>
    have h1 : (chkE l == 0) = false := by simpa using h0
    have HE : Hid (bkE l = chkE l) := if_pos h0
    have HNE : Hid (bkE l ≠ 0) := by show _ ≠ _; rw [HE.out]; exact h0
    obtain ⟨q, HQ⟩ : ∃ q, Hid (q = chkE l) := ⟨_, rfl⟩
    obtain ⟨r, HR⟩ : ∃ q, Hid (q = chkS l) := ⟨_, rfl⟩
    rw [← HQ.out] at h0 h1 HE
    rw [← HQ.out, ← HR.out]
    go_wp2_with ((with_reducible refine wpList_storeB w.heap.size (.slice none 0 0) (.slice none 0 0) _ _ ?hx ?hy HA1.out ?h1 ?h2 ?_); (case hx => rfl); (case hy => rfl); (case h1 => rfl); (case h2 => rfl))
    (try simp only [Exit.inBlock, Exit.then])
    refine ret_book (p := 2) (q := 3) ?r1 w.heap.size (.slice none 0 0) (.slice none 0 0) ?r2 (HEND.out HA1.out) ?r3 ?_
    case r1 => rfl
    case r2 => rfl
    case r3 => rfl
    exact ⟨_, _, by rw [HE.out]; rfl, .inl ⟨HNE.out, rfl, rfl⟩, below_setRow HB1.out (Nat.le_refl _)⟩
  obtain ⟨hl, hs⟩ := chkE_zero h0
  have HL := hide hl
  have h288 := hl.1
  have HR := hide hs
  have HQ := hide h0
  rw [HQ.out, HR.out]
  clear hl hs h0
  by_cases h2 : shp l = 2
  · have HE : Hid (bkE l = 52) := by show _ = _; unfold bkE; rw [if_neg (by have := HQ.out; simp [this]), if_pos h2]
    have HNE : Hid (bkE l ≠ 0) := by show _ ≠ _; rw [HE.out]; decide
    rw [h2]
    go_wp2_with ((with_reducible refine wpList_storeB w.heap.size (.slice none 0 0) (.slice none 0 0) _ _ ?hx ?hy HA1.out ?h1 ?h2 ?_); (case hx => rfl); (case hy => rfl); (case h1 => rfl); (case h2 => rfl))
    (try simp only [Exit.inBlock, Exit.then])
    refine ret_book (p := 2) (q := 3) ?r1 w.heap.size (.slice none 0 0) (.slice none 0 0) ?r2 (HEND.out HA1.out) ?r3 ?_
    case r1 => rfl
    case r2 => rfl
    case r3 => rfl
    exact ⟨_, _, by rw [HE.out]; rfl, .inl ⟨HNE.out, rfl, rfl⟩, below_setRow HB1.out (Nat.le_refl _)⟩
  by_cases h3 : shp l = 3
  · have HE : Hid (bkE l = 51) := by show _ = _; unfold bkE; rw [if_neg (by have := HQ.out; simp [this]), if_neg h2, if_pos h3]
    have HNE : Hid (bkE l ≠ 0) := by show _ ≠ _; rw [HE.out]; decide
    rw [h3]
    clear h2
    go_wp2_with ((with_reducible refine wpList_storeB w.heap.size (.slice none 0 0) (.slice none 0 0) _ _ ?hx ?hy HA1.out ?h1 ?h2 ?_); (case hx => rfl); (case hy => rfl); (case h1 => rfl); (case h2 => rfl))
    (try simp only [Exit.inBlock, Exit.then])
    refine ret_book (p := 2) (q := 3) ?r1 w.heap.size (.slice none 0 0) (.slice none 0 0) ?r2 (HEND.out HA1.out) ?r3 ?_
    case r1 => rfl
    case r2 => rfl
    case r3 => rfl
    exact ⟨_, _, by rw [HE.out]; rfl, .inl ⟨HNE.out, rfl, rfl⟩, below_setRow HB1.out (Nat.le_refl _)⟩
  have HE : Hid (bkE l = 0) := by show _ = _; unfold bkE; rw [if_neg (by have := HQ.out; simp [this]), if_neg h2, if_neg h3]
  obtain ⟨r, HR2⟩ : ∃ q, Hid (q = shp l) := ⟨_, rfl⟩
  rw [← HR2.out] at h2 h3 ⊢
  have h2' : (r == 2) = false := by simpa using h2
  have h3' : (r == 3) = false := by simpa using h3
  clear HEND
  go_wp2_with fail
  refine (cloneI_any _ l _ HS1.out h288).mono ?_
  rintro e w2 ⟨a2, c2, rfl, ho2, hb2⟩
  have HA2 : Hid (w2.heap[w.heap.size]? = some (.cells #[.slice none 0 0, .slice none 0 0] 104 (0, 0))) := (hb2.block _ hw1).trans HA1.out
  have HB2 : Hid (Below w.heap.size w w2) := HB1.out.trans (hb2.mono (by omega))
  have HS2 := hide (HS1.out.below hb2)
  have HO2 : Hid (OI w2 (w.heap.size + 1) (.slice a2 l.length c2) l) := ho2.base (by omega)
  have hw2 : w.heap.size < w2.heap.size := by have := hb2.size; omega
  clear ho2 hb2
  go_wp2_with fail
  refine (count_any _ l _ HS2.out HL.out).mono ?_
  rintro e w3 ⟨rfl, hb3⟩
  have HA3 : Hid (w3.heap[w.heap.size]? = some (.cells #[.slice none 0 0, .slice none 0 0] 104 (0, 0))) := (hb3.block _ hw2).trans HA2.out
  have HB3 : Hid (Below w.heap.size w w3) := HB2.out.trans (hb3.mono (by omega))
  have HS3 := hide (HS2.out.below hb3)
  have HO3 := hide (HO2.out.below hb3 (Nat.le_refl _))
  have hw3 : w.heap.size < w3.heap.size := by have := hb3.size; omega
  clear hb3
  go_wp2_with fail
  refine (firsts_any l _ HL.out).mono ?_
  rintro e w4 ⟨rfl, hb4⟩
  have HA4 : Hid (w4.heap[w.heap.size]? = some (.cells #[.slice none 0 0, .slice none 0 0] 104 (0, 0))) := (hb4.block _ hw3).trans HA3.out
  have HB4 : Hid (Below w.heap.size w w4) := HB3.out.trans (hb4.mono (by omega))
  have HS4 := hide (HS3.out.below hb4)
  have HO4 := hide (HO3.out.below hb4 (Nat.le_refl _))
  have hw4 : w.heap.size < w4.heap.size := by have := hb4.size; omega
  clear hb4
  go_wp2_with fail
  refine (words_any _ l _ HS4.out HL.out).mono ?_
  rintro e w5 ⟨a5, c5, rfl, ho5, hb5⟩
  have HA5 : Hid (w5.heap[w.heap.size]? = some (.cells #[.slice none 0 0, .slice none 0 0] 104 (0, 0))) := (hb5.block _ hw4).trans HA4.out
  have HB5 : Hid (Below w.heap.size w w5) := HB4.out.trans (hb5.mono (by omega))
  have HO5 := hide (HO4.out.below hb5 (Nat.le_refl _))
  have HP5 : Hid (OI w5 (w.heap.size + 1) (.slice a5 l.length c5) (wds l)) := ho5.base (by omega)
  clear ho5 hb5
  have HEND : Hid ((w5.setRow w.heap.size #[.slice a2 l.length c2, .slice a5 l.length c5]).heap[w.heap.size]? = some (.cells #[.slice a2 l.length c2, .slice a5 l.length c5] 104 (0, 0))) := setRow_heap w5 _ _ _ _ _ HA5.out
  go_wp2_with ((with_reducible refine wpList_storeB w.heap.size (.slice a2 l.length c2) (.slice a5 l.length c5) _ _ ?hx ?hy HA5.out ?h1 ?h2 ?_); (case hx => rfl); (case hy => rfl); (case h1 => rfl); (case h2 => rfl))
  (try simp only [Exit.inBlock, Exit.then])
  refine ret_book (p := 2) (q := 3) ?r1 w.heap.size (.slice a2 l.length c2) (.slice a5 l.length c5) ?r2 HEND.out ?r3 ?_
  case r1 => rfl
  case r2 => rfl
  case r3 => rfl
  refine ⟨_, _, by rw [HE.out]; rfl, .inr ⟨HE.out, ?_, ?_⟩, below_setRow HB5.out (Nat.le_refl _)⟩
  · refine (HO5.out.move fun k hk => setRow_other w5 _ k _ ?_).base (by omega)
    have := (HO5.out.lt k hk).1; omega
  · refine (HP5.out.move fun k hk => setRow_other w5 _ k _ ?_).base (by omega)
    have := (HP5.out.lt k hk).1; omega
end Go.Proofs.YtiabhmdefaabgacGreatDoor

namespace Go.Proofs.YtiabhmdefaabgacGreatDoor
open Go.RowKit Go.Maps
set_option maxRecDepth 20000

/-- A decoder's cells. -/
def dv (vl vw vs : Value) (f g : Nat → Int) : Array Value := #[vl, vw, vs] ++ av f ++ av g

theorem dv_size (vl vw vs : Value) (f g : Nat → Int) : (dv vl vw vs f g).size = 35 := by simp [dv, av_size]

theorem dv_0 (vl vw vs : Value) (f g : Nat → Int) : (dv vl vw vs f g)[0]? = some vl := by simp [dv, Array.getElem?_append]
theorem dv_1 (vl vw vs : Value) (f g : Nat → Int) : (dv vl vw vs f g)[1]? = some vw := by simp [dv, Array.getElem?_append]
theorem dv_2 (vl vw vs : Value) (f g : Nat → Int) : (dv vl vw vs f g)[2]? = some vs := by simp [dv, Array.getElem?_append]

theorem dv_f (vl vw vs : Value) (f g : Nat → Int) {n : Nat} (h : n < 16) : (dv vl vw vs f g)[3 + n]? = some (.int .i64 (f n)) := by
  simp only [dv, Array.getElem?_append, Array.size_append, av_size]
  rw [if_pos (by simp; omega), if_neg (by simp)]
  simp only [List.size_toArray, List.length_cons, List.length_nil]
  rw [show 3 + n - (0 + 1 + 1 + 1) = n by omega, av_get f h]

theorem dv_g (vl vw vs : Value) (f g : Nat → Int) {n : Nat} (h : n < 16) : (dv vl vw vs f g)[19 + n]? = some (.int .i64 (g n)) := by
  simp only [dv, Array.getElem?_append, Array.size_append, av_size]
  rw [if_neg (by simp)]
  simp only [List.size_toArray, List.length_cons, List.length_nil]
  rw [show 19 + n - (0 + 1 + 1 + 1 + 16) = n by omega, av_get g h]

theorem dv_ext {A : Array Value} {vl vw vs : Value} {f g : Nat → Int} (hs : A.size = 35) (h0 : A[0]? = some vl) (h1 : A[1]? = some vw) (h2 : A[2]? = some vs) (hf : ∀ n, n < 16 → A[3 + n]? = some (.int .i64 (f n))) (hg : ∀ n, n < 16 → A[19 + n]? = some (.int .i64 (g n))) : A = dv vl vw vs f g := by
  apply Array.ext_getElem?
  intro i
  by_cases c0 : i = 0
  · subst c0; rw [h0, dv_0]
  by_cases c1 : i = 1
  · subst c1; rw [h1, dv_1]
  by_cases c2 : i = 2
  · subst c2; rw [h2, dv_2]
  by_cases c3 : i < 19
  · obtain ⟨n, rfl⟩ : ∃ n, i = 3 + n := ⟨i - 3, by omega⟩
    rw [hf n (by omega), dv_f _ _ _ _ _ (by omega)]
  by_cases c4 : i < 35
  · obtain ⟨n, rfl⟩ : ∃ n, i = 19 + n := ⟨i - 19, by omega⟩
    rw [hg n (by omega), dv_g _ _ _ _ _ (by omega)]
  · rw [Array.getElem?_eq_none (by omega), Array.getElem?_eq_none (by rw [dv_size]; omega)]

theorem dv_setf (vl vw vs : Value) (f g : Nat → Int) {n : Nat} (h : n < 16) (x : Int) : (dv vl vw vs f g).setIfInBounds (3 + n) (.int .i64 x) = dv vl vw vs (upf f n x) g := by
  refine dv_ext (by simp [dv_size]) ?_ ?_ ?_ (fun k hk => ?_) (fun k hk => ?_)
  · rw [Array.getElem?_setIfInBounds, if_neg (by omega), dv_0]
  · rw [Array.getElem?_setIfInBounds, if_neg (by omega), dv_1]
  · rw [Array.getElem?_setIfInBounds, if_neg (by omega), dv_2]
  · rw [Array.getElem?_setIfInBounds]
    unfold upf
    by_cases e : n = k
    · subst e; rw [if_pos rfl, if_pos (by rw [dv_size]; omega), if_pos rfl]
    · rw [if_neg (by omega), dv_f _ _ _ _ _ hk, if_neg (fun x => e x.symm)]
  · rw [Array.getElem?_setIfInBounds, if_neg (by omega), dv_g _ _ _ _ _ hk]

theorem dv_setg (vl vw vs : Value) (f g : Nat → Int) {n : Nat} (h : n < 16) (x : Int) : (dv vl vw vs f g).setIfInBounds (19 + n) (.int .i64 x) = dv vl vw vs f (upf g n x) := by
  refine dv_ext (by simp [dv_size]) ?_ ?_ ?_ (fun k hk => ?_) (fun k hk => ?_)
  · rw [Array.getElem?_setIfInBounds, if_neg (by omega), dv_0]
  · rw [Array.getElem?_setIfInBounds, if_neg (by omega), dv_1]
  · rw [Array.getElem?_setIfInBounds, if_neg (by omega), dv_2]
  · rw [Array.getElem?_setIfInBounds, if_neg (by omega), dv_f _ _ _ _ _ hk]
  · rw [Array.getElem?_setIfInBounds]
    unfold upf
    by_cases e : n = k
    · subst e; rw [if_pos rfl, if_pos (by rw [dv_size]; omega), if_pos rfl]
    · rw [if_neg (by omega), dv_g _ _ _ _ _ hk, if_neg (fun x => e x.symm)]

theorem dv_sets (vl vw vs : Value) (f g : Nat → Int) (x : Value) : (dv vl vw vs f g).setIfInBounds 2 x = dv vl vw x f g := by
  refine dv_ext (by simp [dv_size]) ?_ ?_ ?_ (fun k hk => ?_) (fun k hk => ?_)
  · rw [Array.getElem?_setIfInBounds, if_neg (by omega), dv_0]
  · rw [Array.getElem?_setIfInBounds, if_neg (by omega), dv_1]
  · rw [Array.getElem?_setIfInBounds, if_pos rfl, if_pos (by rw [dv_size]; omega)]
  · rw [Array.getElem?_setIfInBounds, if_neg (by omega), dv_f _ _ _ _ _ hk]
  · rw [Array.getElem?_setIfInBounds, if_neg (by omega), dv_g _ _ _ _ _ hk]

def shf (l : List Int) (n : Nat) : Int := (sh l n : Int) - fi l n
def en (l : List Int) (n : Nat) : Int := (fi l n : Int) + cn l n
def upTo (f : Nat → Int) (k n : Nat) : Int := if n < k then f n else 0

theorem upTo_succ (f : Nat → Int) (k : Nat) (x : Int) (hx : x = f k) : upf (upTo f k) k x = upTo f (k + 1) := by
  funext n
  unfold upf upTo
  by_cases e : n = k
  · subst e; rw [if_pos rfl, if_pos (by omega), hx]
  · rw [if_neg e]
    by_cases h : n < k
    · rw [if_pos h, if_pos (by omega)]
    · rw [if_neg h, if_neg (by omega)]

theorem grownBy_drewN {w w' : World} {r : Option Nat} (h : w.grownBy w' r) (n : Nat) : w.grownBy (w'.drewN n) r := ⟨h.os, h.tape, h.output, h.size, h.block⟩

theorem grownBy_at {w w' : World} {g o : Nat} {u : Value} (h : w.grownBy w' (some g)) : w.grownBy (w'.setCell ⟨g, o, none⟩ u) (some g) :=
  ⟨h.os, h.tape, h.output, by rw [size_setCell]; exact h.size, fun k hk hr => (setCell_others w' g o u k (fun e => hr (by rw [e]))).trans (h.block k hk hr)⟩

def SymOk (l sy : List Int) : Prop := sy.length = sh l 16 ∧ ∀ s, Has l s → sy.getD (ix l s) 0 = (s : Int)

theorem OI.still {w wr : World} {g : Nat} {v : Value} {L : List Int} (h : OI w 0 v L) (hg : w.grownBy wr (some g)) (hn : v.ownBlock ≠ some g) : OI wr 0 v L :=
  h.move fun k hk => hg.block k (h.lt k hk).2 (fun e => hn (by rw [hk, e]))

theorem ix_eq {l : List Int} {k : Nat} (hh : Has l k) : shf l (ln l k) + (wd l k : Int) = (ix l k : Int) := by
  rw [hh.wd]
  unfold shf ix
  push_cast
  omega

end Go.Proofs.YtiabhmdefaabgacGreatDoor

