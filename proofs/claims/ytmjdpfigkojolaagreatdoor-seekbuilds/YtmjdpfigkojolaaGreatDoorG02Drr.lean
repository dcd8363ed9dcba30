import Derived.Test.YtmjdpfigkojolaaGreatDoorG01Mk2
import Derived.Test.YtmjdpfigkojolaaGreatDoorG00Oix
namespace Go.Proofs.YtmjdpfigkojolaaGreatDoor
open Go.RowKit Go.Maps
set_option maxRecDepth 20000
set_option linter.unusedVariables false

def wrn (c : List Int) : Nat → Nat
  | 0 => 0
  | n + 1 => if 4 < n + 1 ∧ c.getD (zor.getD n 0).toNat 0 = 0 then wrn c n else n + 1
def wrt (c : List Int) : Nat := wrn c 19

def rsz (C : List Int) : List Rn → Int
  | [] => 0
  | r :: R => C.getD r.1.toNat 0 + (frt r.1 : Nat) + rsz C R
def hsz (C : List Int) (R : List Rn) : Int := 14 + 3 * (wrt C : Int) + rsz C R

theorem frt_le (s : Int) : frt s ≤ 7 := by unfold frt; split; omega; split; omega; split <;> omega

end Go.Proofs.YtmjdpfigkojolaaGreatDoor

namespace Go.Proofs.YtmjdpfigkojolaaGreatDoor
open Go.RowKit Go.Maps
set_option linter.unusedVariables false

end Go.Proofs.YtmjdpfigkojolaaGreatDoor

namespace Go.Proofs.YtmjdpfigkojolaaGreatDoor
open Go.RowKit Go.Maps
set_option maxRecDepth 20000

theorem cloneI_any (v : Value) (l : List Int) (w : World) (h : SI w v l) (hr : l.length ≤ 288) :
    Calls Tryz.prog 91 #[v] w fun e w' => ∃ a c, e = .returned (.slice a l.length c) ∧ OI w' w.heap.size (.slice a l.length c) l ∧ Below w.heap.size w w' := by
  have HS := hide h
  obtain ⟨ao, cap, rfl, hlc, hcm⟩ := h.open
  have he := fun (w : World) (a : Option Addr) (n c : Nat) => Lib.run_eql_slice_nil (P := Tryz.prog) w 113 3 a n c 0 0 Tryz.underlying113
  cases ao with
  | none =>
    obtain ⟨ao', cap', e1, e2, e3, e4, _⟩ := h
    simp only [Value.slice.injEq] at e1
    obtain ⟨rfl, -, rfl⟩ := e1
    obtain rfl : cap = 0 := e4 rfl
    obtain rfl : l = [] := List.eq_nil_of_length_eq_zero (by omega)
    clear HS e2 e3 e4
    go_enter Tryz.func91, Tryz.ntmps91
    go_wp2
    go_ret
    exact ⟨_, _, rfl, World.ownsRow_nil _ _ _ _, Below.refl _ _⟩
  | some x =>
    clear h
    go_enter Tryz.func91, Tryz.ntmps91
    have O1 : Hid (OI (w.alloc (.cells #[] 3)) w.heap.size (.slice (some ⟨w.heap.size, 0, none⟩) 0 0) []) := World.ownsRow_made w #[] 0 (Nat.le_refl _) (Nat.zero_le _) rfl
    have HSR : Hid (Src Tryz.prog 1 113 (.slice (some x) l.length cap) l.length (l.map (Value.int .i64)) (w.alloc (.cells #[] 3))) := (HS.out.below ((Below.refl _ _).alloc (Nat.le_refl _) _)).src
    go_wp2_with (at_builtin; refine wpList_appI rfl _ _ 113 rfl w.heap.size _ _ [] l rfl O1.out rfl HSR.out (by simp; omega) (by simp) ?_)
    intro v' w1 hown hgrow
    have HF : Hid (OI w1 w.heap.size v' l) := hown
    have hb : Below w.heap.size w w1 := ((Below.refl _ _).alloc (Nat.le_refl _) _).grown hgrow.by (by simp) (fun k hk => by simp [Value.ownBlock] at hk; omega)
    have HB := hide hb
    clear hown hgrow hb
    go_wp2
    go_ret
    obtain ⟨a, c, hv⟩ := HF.out.shape
    rw [hv] at HF ⊢
    exact ⟨a, c, rfl, HF.out, HB.out⟩

def bkE (l : List Int) : Int := if chkE l ≠ 0 then chkE l else if shp l = 2 then 52 else if shp l = 3 then 51 else 0

theorem bkE_zero {l : List Int} (h : bkE l = 0) : Lens l ∧ shp l ≠ 2 ∧ shp l ≠ 3 := by
  unfold bkE at h
  by_cases h0 : chkE l = 0
  · rw [if_neg (by simp [h0])] at h
    by_cases h2 : shp l = 2
    · rw [if_pos h2] at h; omega
    · rw [if_neg h2] at h
      by_cases h3 : shp l = 3
      · rw [if_pos h3] at h; omega
      · exact ⟨(chkE_zero h0).1, h2, h3⟩
  · rw [if_pos h0] at h; exact absurd h h0

def BookOf (w w' : World) (l : List Int) (vl vw : Value) : Prop := (bkE l ≠ 0 ∧ vl = .slice none 0 0 ∧ vw = .slice none 0 0) ∨ (bkE l = 0 ∧ OI w' w.heap.size vl l ∧ OI w' w.heap.size vw (wds l))

theorem ret_book {fn : Func} {R : Ending → World → Prop} {a : Act} {w : World} {p q : Tmp} (hres : fn.results = #[.cell p 159, .tmp q]) (g : Nat) (vl vw : Value) (hp : a.tmps.getD p undef = .pointer (some ⟨g, 0, none⟩))
    (hg : w.heap[g]? = some (.cells #[vl, vw] 159 (0, 0))) (hd : a.defers = []) (hR : R (.returned (.tuple #[.agg #[vl, vw], a.tmps.getD q undef])) w) : bodyPost Tryz.prog fn R .ret a w := by
  refine bodyPost_ret (v := .tuple #[.agg #[vl, vw], a.tmps.getD q undef]) ?_ hd hR
  have hl := run_loadVar_row (P := Tryz.prog) w g 159 159 #[vl, vw] (0, 0) _ hg Tryz.underlying159 rfl (by kernel_rfl)
  have hp' : a.tmps[p]?.getD undef = .pointer (some ⟨g, 0, none⟩) := by simpa using hp
  simp [results, hres, hp', asAddr, hl]

theorem wpList_storeB {ops : Array Oper} {rest : List Oper} {a : Act} {w : World} {Q : Exit → Act → World → Prop} {dst : Option Tmp} {x y : Operand} {ty : TypeId} {pos : String} {after : Array Edge} (g : Nat) (vl vw x0 x1 : Value)
    (hx : a.eval x = .pointer (some ⟨g, 0, none⟩)) (hy : a.eval y = .agg #[vl, vw]) (hg : w.heap[g]? = some (.cells #[x0, x1] 159 (0, 0))) (h1 : vl.oneCell' = true) (h2 : vw.oneCell' = true) (h : wpList Tryz.prog ops Q rest (a.put dst undef) (w.setRow g #[vl, vw])) :
    wpList Tryz.prog ops Q ({ dst := dst, op := .store 159 x y, type := ty, pos := pos, after := after, guard := none } :: rest) a w :=
  wpList_store_row rfl 159 x y rfl g #[vl, vw] hx hy 159 #[x0, x1] hg (by kernel_rfl) rfl (by simp [h1, h2]) h

theorem below_setRow {w w' : World} {B g : Nat} {cs : Array Value} (h : Below B w w') (hg : B ≤ g) : Below B w (w'.setRow g cs) :=
  ⟨h.os, h.tape, h.output, by rw [size_setRow]; exact h.size, fun k hk => (setRow_other w' g k cs (by omega)).trans (h.block k hk)⟩

def Made (w : World) (l : List Int) (e : Ending) (w' : World) : Prop := ∃ vl vw, e = .returned (.tuple #[.agg #[vl, vw], .int .i64 (bkE l)]) ∧ BookOf w w' l vl vw ∧ Below w.heap.size w w'

theorem newBook_any (v : Value) (l : List Int) (w : World) (h : SI w v l) :
    Calls Tryz.prog 107 #[v] w fun e w' => Made w l e w' := by
  have HS := hide h
  obtain ⟨ao, cap, rfl, hlc, hcm⟩ := h.open
  clear h
  have HA : Hid ((w.alloc (.cells #[.slice none 0 0, .slice none 0 0] 159)).heap[w.heap.size]? = some (.cells #[.slice none 0 0, .slice none 0 0] 159 (0, 0))) := heap_alloc_new w _
  have hBA : Below w.heap.size w (w.alloc (.cells #[.slice none 0 0, .slice none 0 0] 159)) := (Below.refl _ _).alloc (Nat.le_refl _) _
  have HBA := hide hBA
  have HSA := hide (HS.out.below hBA)
  clear hBA
  go_enter Tryz.func107, Tryz.ntmps107
  go_wp2_with fail
  refine (check_any _ l _ HSA.out).mono ?_
  rintro e w1 ⟨rfl, hb1⟩
  have HA1 : Hid (w1.heap[w.heap.size]? = some (.cells #[.slice none 0 0, .slice none 0 0] 159 (0, 0))) := (hb1.block _ (by simp)).trans HA.out
  have HB1 : Hid (Below w.heap.size w w1) := HBA.out.trans (hb1.mono (by simp))
  have HS1 := hide (HSA.out.below hb1)
  have hw1 : w.heap.size < w1.heap.size := by have := hb1.size; simp at this; omega
  clear hb1
  have HEND : Hid (w1.heap[w.heap.size]? = some (.cells #[.slice none 0 0, .slice none 0 0] 159 (0, 0)) → (w1.setRow w.heap.size #[.slice none 0 0, .slice none 0 0]).heap[w.heap.size]? = some (.cells #[.slice none 0 0, .slice none 0 0] 159 (0, 0))) := fun h => setRow_heap w1 _ _ _ _ _ h
  by_cases h0 : chkE l = 0
  case neg =>
    have h1 : (chkE l == 0) = false := by simpa using h0
    have HE : Hid (bkE l = chkE l) := if_pos h0
    have HNE : Hid (bkE l ≠ 0) := by show _ ≠ _; rw [HE.out]; exact h0
    obtain ⟨q, HQ⟩ : ∃ q, Hid (q = chkE l) := ⟨_, rfl⟩
    obtain ⟨r, HR⟩ : ∃ q, Hid (q = chkS l) := ⟨_, rfl⟩
    rw [← HQ.out] at h0 h1 HE
    rw [← HQ.out, ← HR.out]
    go_wp2_with ((with_reducible refine wpList_storeB w.heap.size (.slice none 0 0) (.slice none 0 0) _ _ ?hx ?hy HA1.out ?h1 ?h2 ?_); (case hx => rfl); (case hy => rfl); (case h1 => rfl); (case h2 => rfl))
    (try simp only [Exit.inBlock, Exit.then])
    refine ret_book (p := 2) (q := 3) ?r1 w.heap.size (.slice none 0 0) (.slice none 0 0) ?r2 (HEND.out HA1.out) ?r3 ?_
    case r1 => rfl
    case r2 => rfl
    case r3 => rfl
    exact ⟨_, _, by rw [HE.out]; rfl, .inl ⟨HNE.out, rfl, rfl⟩, below_setRow HB1.out (Nat.le_refl _)⟩
  obtain ⟨hl, hs⟩ := chkE_zero h0
  have HL := hide hl
  have h288 := hl.1
  have HR := hide hs
  have HQ := hide h0
  rw [HQ.out, HR.out]
  clear hl hs h0
  by_cases h2 : shp l = 2
  · have HE : Hid (bkE l = 52) := by show _ = _; unfold bkE; rw [if_neg (by have := HQ.out; simp [this]), if_pos h2]
    have HNE : Hid (bkE l ≠ 0) := by show _ ≠ _; rw [HE.out]; decide
    rw [h2]
    go_wp2_with ((with_reducible refine wpList_storeB w.heap.size (.slice none 0 0) (.slice none 0 0) _ _ ?hx ?hy HA1.out ?h1 ?h2 ?_); (case hx => rfl); (case hy => rfl); (case h1 => rfl); (case h2 => rfl))
    (try simp only [Exit.inBlock, Exit.then])
    refine ret_book (p := 2) (q := 3) ?r1 w.heap.size (.slice none 0 0) (.slice none 0 0) ?r2 (HEND.out HA1.out) ?r3 ?_
    case r1 => rfl
    case r2 => rfl
    case r3 => rfl
    exact ⟨_, _, by rw [HE.out]; rfl, .inl ⟨HNE.out, rfl, rfl⟩, below_setRow HB1.out (Nat.le_refl _)⟩
  by_cases h3 : shp l = 3
  · have HE : Hid (bkE l = 51) := by show _ = _; unfold bkE; rw [if_neg (by have := HQ.out; simp [this]), if_neg h2, if_pos h3]
    have HNE : Hid (bkE l ≠ 0) := by show _ ≠ _; rw [HE.out]; decide
    rw [h3]
    clear h2
    go_wp2_with ((with_reducible refine wpList_storeB w.heap.size (.slice none 0 0) (.slice none 0 0) _ _ ?hx ?hy HA1.out ?h1 ?h2 ?_); (case hx => rfl); (case hy => rfl); (case h1 => rfl); (case h2 => rfl))
    (try simp only [Exit.inBlock, Exit.then])
    refine ret_book (p := 2) (q := 3) ?r1 w.heap.size (.slice none 0 0) (.slice none 0 0) ?r2 (HEND.out HA1.out) ?r3 ?_
    case r1 => rfl
    case r2 => rfl
    case r3 => rfl
    exact ⟨_, _, by rw [HE.out]; rfl, .inl ⟨HNE.out, rfl, rfl⟩, below_setRow HB1.out (Nat.le_refl _)⟩
  have HE : Hid (bkE l = 0) := by show _ = _; unfold bkE; rw [if_neg (by have := HQ.out; simp [this]), if_neg h2, if_neg h3]
  obtain ⟨r, HR2⟩ : ∃ q, Hid (q = shp l) := ⟨_, rfl⟩
  rw [← HR2.out] at h2 h3 ⊢
  have h2' : (r == 2) = false := by simpa using h2
  have h3' : (r == 3) = false := by simpa using h3
  clear HEND
  go_wp2_with fail
  refine (cloneI_any _ l _ HS1.out h288).mono ?_
  rintro e w2 ⟨a2, c2, rfl, ho2, hb2⟩
  have HA2 : Hid (w2.heap[w.heap.size]? = some (.cells #[.slice none 0 0, .slice none 0 0] 159 (0, 0))) := (hb2.block _ hw1).trans HA1.out
  have HB2 : Hid (Below w.heap.size w w2) := HB1.out.trans (hb2.mono (by omega))
  have HS2 := hide (HS1.out.below hb2)
  have HO2 : Hid (OI w2 (w.heap.size + 1) (.slice a2 l.length c2) l) := ho2.base (by omega)
  have hw2 : w.heap.size < w2.heap.size := by have := hb2.size; omega
  clear ho2 hb2
  go_wp2_with fail
  refine (count_any _ l _ HS2.out HL.out).mono ?_
  rintro e w3 ⟨rfl, hb3⟩
  have HA3 : Hid (w3.heap[w.heap.size]? = some (.cells #[.slice none 0 0, .slice none 0 0] 159 (0, 0))) := (hb3.block _ hw2).trans HA2.out
  have HB3 : Hid (Below w.heap.size w w3) := HB2.out.trans (hb3.mono (by omega))
  have HS3 := hide (HS2.out.below hb3)
  have HO3 := hide (HO2.out.below hb3 (Nat.le_refl _))
  have hw3 : w.heap.size < w3.heap.size := by have := hb3.size; omega
  clear hb3
  go_wp2_with fail
  refine (firsts_any l _ HL.out).mono ?_
  rintro e w4 ⟨rfl, hb4⟩
  have HA4 : Hid (w4.heap[w.heap.size]? = some (.cells #[.slice none 0 0, .slice none 0 0] 159 (0, 0))) := (hb4.block _ hw3).trans HA3.out
  have HB4 : Hid (Below w.heap.size w w4) := HB3.out.trans (hb4.mono (by omega))
  have HS4 := hide (HS3.out.below hb4)
  have HO4 := hide (HO3.out.below hb4 (Nat.le_refl _))
  have hw4 : w.heap.size < w4.heap.size := by have := hb4.size; omega
  clear hb4
  go_wp2_with fail
  refine (words_any _ l _ HS4.out HL.out).mono ?_
  rintro e w5 ⟨a5, c5, rfl, ho5, hb5⟩
  have HA5 : Hid (w5.heap[w.heap.size]? = some (.cells #[.slice none 0 0, .slice none 0 0] 159 (0, 0))) := (hb5.block _ hw4).trans HA4.out
  have HB5 : Hid (Below w.heap.size w w5) := HB4.out.trans (hb5.mono (by omega))
  have HO5 := hide (HO4.out.below hb5 (Nat.le_refl _))
  have HP5 : Hid (OI w5 (w.heap.size + 1) (.slice a5 l.length c5) (wds l)) := ho5.base (by omega)
  clear ho5 hb5
  have HEND : Hid ((w5.setRow w.heap.size #[.slice a2 l.length c2, .slice a5 l.length c5]).heap[w.heap.size]? = some (.cells #[.slice a2 l.length c2, .slice a5 l.length c5] 159 (0, 0))) := setRow_heap w5 _ _ _ _ _ HA5.out
  go_wp2_with ((with_reducible refine wpList_storeB w.heap.size (.slice a2 l.length c2) (.slice a5 l.length c5) _ _ ?hx ?hy HA5.out ?h1 ?h2 ?_); (case hx => rfl); (case hy => rfl); (case h1 => rfl); (case h2 => rfl))
  (try simp only [Exit.inBlock, Exit.then])
  refine ret_book (p := 2) (q := 3) ?r1 w.heap.size (.slice a2 l.length c2) (.slice a5 l.length c5) ?r2 HEND.out ?r3 ?_
  case r1 => rfl
  case r2 => rfl
  case r3 => rfl
  refine ⟨_, _, by rw [HE.out]; rfl, .inr ⟨HE.out, ?_, ?_⟩, below_setRow HB5.out (Nat.le_refl _)⟩
  · refine (HO5.out.move fun k hk => setRow_other w5 _ k _ ?_).base (by omega)
    have := (HO5.out.lt k hk).1; omega
  · refine (HP5.out.move fun k hk => setRow_other w5 _ k _ ?_).base (by omega)
    have := (HP5.out.lt k hk).1; omega
end Go.Proofs.YtmjdpfigkojolaaGreatDoor

namespace Go.Proofs.YtmjdpfigkojolaaGreatDoor
open Go.RowKit Go.Maps
set_option maxRecDepth 20000

def dv (vl vw vs : Value) (f g : Nat → Int) : Array Value := #[vl, vw, vs] ++ av f ++ av g

theorem dv_size (vl vw vs : Value) (f g : Nat → Int) : (dv vl vw vs f g).size = 35 := by simp [dv, av_size]

theorem dv_0 (vl vw vs : Value) (f g : Nat → Int) : (dv vl vw vs f g)[0]? = some vl := by simp [dv, Array.getElem?_append]
theorem dv_1 (vl vw vs : Value) (f g : Nat → Int) : (dv vl vw vs f g)[1]? = some vw := by simp [dv, Array.getElem?_append]
theorem dv_2 (vl vw vs : Value) (f g : Nat → Int) : (dv vl vw vs f g)[2]? = some vs := by simp [dv, Array.getElem?_append]

theorem dv_f (vl vw vs : Value) (f g : Nat → Int) {n : Nat} (h : n < 16) : (dv vl vw vs f g)[3 + n]? = some (.int .i64 (f n)) := by
  simp only [dv, Array.getElem?_append, Array.size_append, av_size]
  rw [if_pos (by simp; omega), if_neg (by simp)]
  simp only [List.size_toArray, List.length_cons, List.length_nil]
  rw [show 3 + n - (0 + 1 + 1 + 1) = n by omega, av_get f h]

theorem dv_g (vl vw vs : Value) (f g : Nat → Int) {n : Nat} (h : n < 16) : (dv vl vw vs f g)[19 + n]? = some (.int .i64 (g n)) := by
  simp only [dv, Array.getElem?_append, Array.size_append, av_size]
  rw [if_neg (by simp)]
  simp only [List.size_toArray, List.length_cons, List.length_nil]
  rw [show 19 + n - (0 + 1 + 1 + 1 + 16) = n by omega, av_get g h]

theorem dv_ext {A : Array Value} {vl vw vs : Value} {f g : Nat → Int} (hs : A.size = 35) (h0 : A[0]? = some vl) (h1 : A[1]? = some vw) (h2 : A[2]? = some vs) (hf : ∀ n, n < 16 → A[3 + n]? = some (.int .i64 (f n))) (hg : ∀ n, n < 16 → A[19 + n]? = some (.int .i64 (g n))) : A = dv vl vw vs f g := by
  apply Array.ext_getElem?
  intro i
  by_cases c0 : i = 0
  · subst c0; rw [h0, dv_0]
  by_cases c1 : i = 1
  · subst c1; rw [h1, dv_1]
  by_cases c2 : i = 2
  · subst c2; rw [h2, dv_2]
  by_cases c3 : i < 19
  · obtain ⟨n, rfl⟩ : ∃ n, i = 3 + n := ⟨i - 3, by omega⟩
    rw [hf n (by omega), dv_f _ _ _ _ _ (by omega)]
  by_cases c4 : i < 35
  · obtain ⟨n, rfl⟩ : ∃ n, i = 19 + n := ⟨i - 19, by omega⟩
    rw [hg n (by omega), dv_g _ _ _ _ _ (by omega)]
  · rw [Array.getElem?_eq_none (by omega), Array.getElem?_eq_none (by rw [dv_size]; omega)]

theorem dv_setf (vl vw vs : Value) (f g : Nat → Int) {n : Nat} (h : n < 16) (x : Int) : (dv vl vw vs f g).setIfInBounds (3 + n) (.int .i64 x) = dv vl vw vs (upf f n x) g := by
  refine dv_ext (by simp [dv_size]) ?_ ?_ ?_ (fun k hk => ?_) (fun k hk => ?_)
  · rw [Array.getElem?_setIfInBounds, if_neg (by omega), dv_0]
  · rw [Array.getElem?_setIfInBounds, if_neg (by omega), dv_1]
  · rw [Array.getElem?_setIfInBounds, if_neg (by omega), dv_2]
  · rw [Array.getElem?_setIfInBounds]
    unfold upf
    by_cases e : n = k
    · subst e; rw [if_pos rfl, if_pos (by rw [dv_size]; omega), if_pos rfl]
    · rw [if_neg (by omega), dv_f _ _ _ _ _ hk, if_neg (fun x => e x.symm)]
  · rw [Array.getElem?_setIfInBounds, if_neg (by omega), dv_g _ _ _ _ _ hk]

theorem dv_setg (vl vw vs : Value) (f g : Nat → Int) {n : Nat} (h : n < 16) (x : Int) : (dv vl vw vs f g).setIfInBounds (19 + n) (.int .i64 x) = dv vl vw vs f (upf g n x) := by
  refine dv_ext (by simp [dv_size]) ?_ ?_ ?_ (fun k hk => ?_) (fun k hk => ?_)
  · rw [Array.getElem?_setIfInBounds, if_neg (by omega), dv_0]
  · rw [Array.getElem?_setIfInBounds, if_neg (by omega), dv_1]
  · rw [Array.getElem?_setIfInBounds, if_neg (by omega), dv_2]
  · rw [Array.getElem?_setIfInBounds, if_neg (by omega), dv_f _ _ _ _ _ hk]
  · rw [Array.getElem?_setIfInBounds]
    unfold upf
    by_cases e : n = k
    · subst e; rw [if_pos rfl, if_pos (by rw [dv_size]; omega), if_pos rfl]
    · rw [if_neg (by omega), dv_g _ _ _ _ _ hk, if_neg (fun x => e x.symm)]

theorem dv_sets (vl vw vs : Value) (f g : Nat → Int) (x : Value) : (dv vl vw vs f g).setIfInBounds 2 x = dv vl vw x f g := by
  refine dv_ext (by simp [dv_size]) ?_ ?_ ?_ (fun k hk => ?_) (fun k hk => ?_)
  · rw [Array.getElem?_setIfInBounds, if_neg (by omega), dv_0]
  · rw [Array.getElem?_setIfInBounds, if_neg (by omega), dv_1]
  · rw [Array.getElem?_setIfInBounds, if_pos rfl, if_pos (by rw [dv_size]; omega)]
  · rw [Array.getElem?_setIfInBounds, if_neg (by omega), dv_f _ _ _ _ _ hk]
  · rw [Array.getElem?_setIfInBounds, if_neg (by omega), dv_g _ _ _ _ _ hk]

def shf (l : List Int) (n : Nat) : Int := (sh l n : Int) - fi l n
def en (l : List Int) (n : Nat) : Int := (fi l n : Int) + cn l n
def upTo (f : Nat → Int) (k n : Nat) : Int := if n < k then f n else 0

theorem upTo_succ (f : Nat → Int) (k : Nat) (x : Int) (hx : x = f k) : upf (upTo f k) k x = upTo f (k + 1) := by
  funext n
  unfold upf upTo
  by_cases e : n = k
  · subst e; rw [if_pos rfl, if_pos (by omega), hx]
  · rw [if_neg e]
    by_cases h : n < k
    · rw [if_pos h, if_pos (by omega)]
    · rw [if_neg h, if_neg (by omega)]

theorem grownBy_drewN {w w' : World} {r : Option Nat} (h : w.grownBy w' r) (n : Nat) : w.grownBy (w'.drewN n) r := ⟨h.os, h.tape, h.output, h.size, h.block⟩

theorem grownBy_at {w w' : World} {g o : Nat} {u : Value} (h : w.grownBy w' (some g)) : w.grownBy (w'.setCell ⟨g, o, none⟩ u) (some g) :=
  ⟨h.os, h.tape, h.output, by rw [size_setCell]; exact h.size, fun k hk hr => (setCell_others w' g o u k (fun e => hr (by rw [e]))).trans (h.block k hk hr)⟩

structure Ar (w : World) (g : Nat) (vl vw : Value) (l : List Int) (a b : Nat) (wr : World) : Prop where
  d : wr.heap[g]? = some (.cells (dv vl vw (.slice none 0 0) (upTo (shf l) a) (upTo (en l) b)) 163 (0, 0))
  f : wr.heap[w.heap.size + 1]? = some (.cells (av fun n => (fi l n : Int)) 161 (0, 0))
  g : w.grownBy wr (some g)

theorem Ar.drewN {w : World} {g : Nat} {vl vw : Value} {l : List Int} {a b : Nat} {wr : World} (h : Ar w g vl vw l a b wr) (n : Nat) : Ar w g vl vw l a b (wr.drewN n) := ⟨h.d, h.f, grownBy_drewN h.g n⟩

theorem Ar.setf {w : World} {g : Nat} {vl vw : Value} {l : List Int} {a b : Nat} {wr : World} (h : Ar w g vl vw l a b wr) (hg : g < w.heap.size) (ha : a < 16) (x : Int) (hx : x = shf l a) : Ar w g vl vw l (a + 1) b (wr.setCell ⟨g, 3 + a, none⟩ (.int .i64 x)) := by
  refine ⟨?_, (setCell_others wr g _ _ _ (by omega)).trans h.f, grownBy_at h.g⟩
  rw [heap_setCell_same _ _ _ _ _ _ h.d, dv_setf _ _ _ _ _ ha, upTo_succ _ _ _ hx]

theorem Ar.setg {w : World} {g : Nat} {vl vw : Value} {l : List Int} {a b : Nat} {wr : World} (h : Ar w g vl vw l a b wr) (hg : g < w.heap.size) (ha : b < 16) (x : Int) (hx : x = en l b) : Ar w g vl vw l a (b + 1) (wr.setCell ⟨g, 19 + b, none⟩ (.int .i64 x)) := by
  refine ⟨?_, (setCell_others wr g _ _ _ (by omega)).trans h.f, grownBy_at h.g⟩
  rw [heap_setCell_same _ _ _ _ _ _ h.d, dv_setg _ _ _ _ _ ha, upTo_succ _ _ _ hx]

theorem Ar.cf {w : World} {g : Nat} {vl vw : Value} {l : List Int} {a b : Nat} {wr : World} (h : Ar w g vl vw l a b wr) {n : Nat} (hn : n < 16) : wr.cell? ⟨w.heap.size + 1, n, none⟩ = some (.int .i64 (fi l n)) := by
  rw [cell_of_row _ _ _ _ _ _ h.f, av_get _ hn]

theorem Ar.c3 {w : World} {g : Nat} {vl vw : Value} {l : List Int} {a b : Nat} {wr : World} (h : Ar w g vl vw l a b wr) {n : Nat} (hn : n < 16) : wr.cell? ⟨g, 3 + n, none⟩ = some (.int .i64 (upTo (shf l) a n)) := by
  rw [cell_of_row _ _ _ _ _ _ h.d, dv_f _ _ _ _ _ hn]

theorem Ar.c19 {w : World} {g : Nat} {vl vw : Value} {l : List Int} {a b : Nat} {wr : World} (h : Ar w g vl vw l a b wr) {n : Nat} (hn : n < 16) : wr.cell? ⟨g, 19 + n, none⟩ = some (.int .i64 (upTo (en l) b n)) := by
  rw [cell_of_row _ _ _ _ _ _ h.d, dv_g _ _ _ _ _ hn]

theorem Ar.fz {w : World} {g : Nat} {vl vw : Value} {l : List Int} {a b : Nat} {wr : World} (h : Ar w g vl vw l a b wr) (n : Nat) : wr.frozen? ⟨g, n, none⟩ = false := frozen_of_row _ _ _ _ _ h.d

def SymOk (l sy : List Int) : Prop := sy.length = sh l 16 ∧ ∀ s, Has l s → sy.getD (ix l s) 0 = (s : Int)

structure As (w : World) (g : Nat) (vl vw : Value) (l : List Int) (gS z k : Nat) (wr : World) : Prop where
  d : wr.heap[g]? = some (.cells (dv vl vw (.slice (some ⟨gS, 0, none⟩) z z) (shf l) (en l)) 163 (0, 0))
  s : ∃ sy : List Int, wr.heap[gS]? = some (.cells (sy.map (Value.int .i64)).toArray 3 (0, 0)) ∧ sy.length = z ∧ ∀ s, s < k → Has l s → sy.getD (ix l s) 0 = (s : Int)
  g : w.grownBy wr (some g)

theorem As.drewN {w : World} {g : Nat} {vl vw : Value} {l : List Int} {gS z k : Nat} {wr : World} (h : As w g vl vw l gS z k wr) (n : Nat) : As w g vl vw l gS z k (wr.drewN n) := ⟨h.d, h.s, grownBy_drewN h.g n⟩

theorem As.skip {w : World} {g : Nat} {vl vw : Value} {l : List Int} {gS z k : Nat} {wr : World} (h : As w g vl vw l gS z k wr) (h0 : ¬ Has l k) : As w g vl vw l gS z (k + 1) wr := by
  obtain ⟨sy, h1, h2, h3⟩ := h.s
  refine ⟨h.d, ⟨sy, h1, h2, fun s hs hh => ?_⟩, h.g⟩
  by_cases e : s = k
  · subst e; exact absurd hh h0
  · exact h3 s (by omega) hh

theorem As.put {w : World} {g : Nat} {vl vw : Value} {l : List Int} {gS z k : Nat} {wr : World} (h : As w g vl vw l gS z k wr) (hl : Lens l) (hh : Has l k) (hne : gS ≠ g) (hge : w.heap.size ≤ gS) (hj : ix l k < z) : As w g vl vw l gS z (k + 1) (wr.setCell ⟨gS, ix l k, none⟩ (.int .i64 k)) := by
  obtain ⟨sy, h1, h2, h3⟩ := h.s
  refine ⟨(setCell_others wr gS _ _ _ (fun e => hne e.symm)).trans h.d, ⟨sy.set (ix l k) k, ?_, by simp [h2], fun s hs hs2 => ?_⟩, grownBy_new h.g hge⟩
  · rw [heap_setCell_same _ _ _ _ _ _ h1, map_set]
  · by_cases e : s = k
    · subst e
      simp [List.getD, h2, hj]
    · have hi : ix l k ≠ ix l s := fun e2 => e (ix_inj hl hs2 hh e2.symm)
      rw [← h3 s (by omega) hs2]
      simp [List.getD, hi]

theorem As.c {w : World} {g : Nat} {vl vw : Value} {l : List Int} {gS z k : Nat} {wr : World} (h : As w g vl vw l gS z k wr) : wr.cell? ⟨g, 0, none⟩ = some vl ∧ wr.cell? ⟨g, 1, none⟩ = some vw ∧ wr.cell? ⟨g, 2, none⟩ = some (.slice (some ⟨gS, 0, none⟩) z z) ∧ (∀ n, n < 16 → wr.cell? ⟨g, 3 + n, none⟩ = some (.int .i64 (shf l n))) ∧ (∀ j, j < z → ∃ u, wr.cell? ⟨gS, j, none⟩ = some u) ∧ ∀ j, wr.frozen? ⟨gS, j, none⟩ = false := by
  obtain ⟨sy, h1, h2, _⟩ := h.s
  refine ⟨by rw [cell_of_row _ _ _ _ _ _ h.d, dv_0], by rw [cell_of_row _ _ _ _ _ _ h.d, dv_1], by rw [cell_of_row _ _ _ _ _ _ h.d, dv_2], fun n hn => by rw [cell_of_row _ _ _ _ _ _ h.d, dv_f _ _ _ _ _ hn], fun j hj => ?_, fun j => frozen_of_row _ _ _ _ _ h1⟩
  rw [cell_of_row _ _ _ _ _ _ h1]
  have : j < sy.length := by omega
  exact ⟨_, by simp [this]; rfl⟩

theorem OI.still {w wr : World} {g : Nat} {v : Value} {L : List Int} (h : OI w 0 v L) (hg : w.grownBy wr (some g)) (hn : v.ownBlock ≠ some g) : OI wr 0 v L :=
  h.move fun k hk => hg.block k (h.lt k hk).2 (fun e => hn (by rw [hk, e]))

theorem ix_eq {l : List Int} {k : Nat} (hh : Has l k) : shf l (ln l k) + (wd l k : Int) = (ix l k : Int) := by
  rw [hh.wd]
  unfold shf ix
  push_cast
  omega

def Arranged (w : World) (g : Nat) (vl vw : Value) (l : List Int) (w' : World) : Prop := ∃ vs sy, w'.heap[g]? = some (.cells (dv vl vw vs (shf l) (en l)) 163 (0, 0)) ∧ OI w' w.heap.size vs sy ∧ SymOk l sy ∧ w.grownBy w' (some g)

set_option maxHeartbeats 1000000 in
theorem arrange_any (g : Nat) (vl vw : Value) (l : List Int) (w : World) (hd : w.heap[g]? = some (.cells (dv vl vw (.slice none 0 0) (fun _ => 0) (fun _ => 0)) 163 (0, 0))) (hgl : g < w.heap.size) (hl : Lens l) (h1 : OI w 0 vl l) (h2 : OI w 0 vw (wds l)) (n1 : vl.ownBlock ≠ some g) (n2 : vw.ownBlock ≠ some g) :
    Calls Tryz.prog 110 #[.pointer (some ⟨g, 0, none⟩), .agg (av fun n => (cn l n : Int)), .agg (av fun n => (fi l n : Int))] w fun e w' => e = .returned (.tuple #[]) ∧ Arranged w g vl vw l w' := by
  have HD := hide hd
  have HL := hide hl
  have H1 := hide h1
  have H2 := hide h2
  have N1 := hide n1
  have N2 := hide n2
  clear hd hl h1 h2 n1 n2
  obtain ⟨C, HC⟩ : ∃ C, Hid (C = av fun n => (cn l n : Int)) := ⟨_, rfl⟩
  obtain ⟨F, HF⟩ : ∃ F, Hid (F = av fun n => (fi l n : Int)) := ⟨_, rfl⟩
  rw [← HC.out, ← HF.out]
  obtain ⟨W, HW⟩ : ∃ W, Hid (W = (w.alloc (.cells C 161)).alloc (.cells F 161)) := ⟨_, rfl⟩
  have HG : Hid (((w.alloc (.cells C 161)).alloc (.cells F 161)).heap[w.heap.size]? = some (.cells (av fun n => (cn l n : Int)) 161 (0, 0))) := by rw [← HC.out]; exact (heap_two w _ _).2
  have HA : Hid (Ar w g vl vw l 0 0 W) := by
    rw [HW.out]
    refine ⟨?_, by rw [← HF.out]; exact (heap_two w _ _).1, ?_⟩
    · rw [Below.heap_alloc _ _ _ (by simp; omega), Below.heap_alloc _ _ _ hgl, HD.out]
      rfl
    · refine ⟨rfl, rfl, rfl, by simp; omega, fun k hk _ => ?_⟩
      rw [Below.heap_alloc _ _ _ (by simp; omega), Below.heap_alloc _ _ _ hk]
  go_enter Tryz.func110, Tryz.ntmps110
  go_wp2_with ((with_reducible refine wpList_loadP w.heap.size _ ?hx HG.out ?_); (case hx => rfl))
  rw [← HW.out]
  clear HG
  go_loopw [6, 12] (fun u i wr => ∃ k : Nat, k ≤ 16 ∧ i = .int .i64 k ∧ u = .int .i64 (sh l k) ∧ Hid (Ar w g vl vw l k k wr)) (fun _ i _ => 16 - (intOf i).toNat)
  case atStart => exact ⟨0, Nat.zero_le _, rfl, rfl, HA⟩
  case round =>
    clear HA
    obtain ⟨k, hk, rfl, rfl, HT⟩ := hrel
    have bs : sh l k ≤ 288 := Nat.le_trans (sh_le l k) HL.out.1
    by_cases hlt : k < 16
    · have hlt' : (k : Int) < 16 := by omega
      have hg := fun W => run_index (fun n => (cn l n : Int)) hlt W
      have b1 := fi_top HL.out (n := k) (by omega)
      have b2 : cn l k ≤ 288 := by have := cn_le l k; have := HL.out.1; omega
      have c1 := HT.out.cf hlt
      have c2 := HT.out.c3 hlt
      have f2 := HT.out.fz (3 + k)
      obtain ⟨x, HX⟩ : ∃ x : Nat, Hid (x = fi l k) := ⟨_, rfl⟩
      obtain ⟨y, HY⟩ : ∃ y : Nat, Hid (y = cn l k) := ⟨_, rfl⟩
      obtain ⟨z, HZ⟩ : ∃ z : Nat, Hid (z = sh l k) := ⟨_, rfl⟩
      rw [← HX.out] at c1 b1
      rw [← HY.out] at b2 hg
      rw [← HZ.out] at bs ⊢
      obtain ⟨W1, HW1⟩ : ∃ W1, Hid (W1 = (wr.setCell ⟨g, 3 + k, none⟩ (.int .i64 ((z : Int) - x))).drew) := ⟨_, rfl⟩
      have HA1 : Hid (Ar w g vl vw l (k + 1) k W1) := by rw [HW1.out]; exact (HT.out.setf hgl hlt _ (by rw [HZ.out, HX.out]; rfl)).drewN 1
      clear HT
      go_wp2
      go_region
      rw [← HW1.out]
      have d1 := HA1.out.cf hlt
      have d2 := HA1.out.c19 hlt
      have d3 := HA1.out.fz (19 + k)
      rw [← HX.out] at d1
      have HN : Hid (Ar w g vl vw l (k + 1) (k + 1) ((W1.setCell ⟨g, 19 + k, none⟩ (.int .i64 ((x : Int) + y))).drew)) := (HA1.out.setg hgl hlt _ (by rw [HX.out, HY.out]; rfl)).drewN 1
      have HSS : Hid (sh l (k + 1) = z + y) := by show _ = _; rw [HZ.out, HY.out]; rfl
      clear HA1 c1 c2 f2 HW1
      go_wp2
      go_region
      go_wp2
      go_roundw
      case rel => exact ⟨k + 1, by omega, by go_num, by rw [HSS.out]; push_cast; rfl, HN⟩
      case measure => simp [intOf]; omega
    · obtain rfl : k = 16 := by omega
      have hlt' : ¬ ((16 : Nat) : Int) < 16 := by omega
      have HDD : Hid (wr.heap[g]? = some (.cells (dv vl vw (.slice none 0 0) (shf l) (en l)) 163 (0, 0))) := by
        have := HT.out.d
        have e : ∀ f : Nat → Int, av (upTo f 16) = av f := fun f => av_congr fun i hi => if_pos hi
        unfold dv at this
        rw [e, e] at this
        exact this
      have HGR := hide HT.out.g
      clear HT
      obtain ⟨z, HZ⟩ : ∃ z : Nat, Hid (z = sh l 16) := ⟨_, rfl⟩
      rw [← HZ.out] at bs ⊢
      go_wp2_with (at_make; refine wpList_mkI rfl _ _ rfl _ _ _ _ z z rfl rfl rfl rfl (Nat.le_refl _) (by omega) ?_)
      intro w2 hg2 hb2
      obtain ⟨gS, hgS⟩ : ∃ gS, gS = wr.heap.size := ⟨_, rfl⟩
      rw [← hgS] at hg2 hb2 ⊢
      have HGS := hide hgS
      clear hgS
      have hgw : g < gS := by rw [HGS.out]; have := HGR.out.size; omega
      have hge : w.heap.size ≤ gS := by rw [HGS.out]; exact HGR.out.size
      have HD2 : Hid (w2.heap[g]? = some (.cells (dv vl vw (.slice none 0 0) (shf l) (en l)) 163 (0, 0))) := (hb2.block _ hgw).trans HDD.out
      have c2 : w2.cell? ⟨g, 2, none⟩ = some (.slice none 0 0) := by rw [cell_of_row _ _ _ _ _ _ HD2.out, dv_2]
      have f2 : w2.frozen? ⟨g, 2, none⟩ = false := frozen_of_row _ _ _ _ _ HD2.out
      obtain ⟨W2, HW2⟩ : ∃ W2, Hid (W2 = w2.setCell ⟨g, 2, none⟩ (.slice (some ⟨gS, 0, none⟩) z z)) := ⟨_, rfl⟩
      have HS2 : Hid (As w g vl vw l gS z 0 W2) := by
        rw [HW2.out]
        refine ⟨by rw [heap_setCell_same _ _ _ _ _ _ HD2.out, dv_sets], ⟨List.replicate z 0, ?_, by simp, fun s hs => by omega⟩, ?_⟩
        · rw [setCell_others w2 g _ _ _ (by omega), hg2]; simp
        · refine grownBy_at ⟨hb2.os.trans HGR.out.os, hb2.tape.trans HGR.out.tape, hb2.output.trans HGR.out.output, Nat.le_trans HGR.out.size hb2.size, fun k hk hr => (hb2.block k (by omega)).trans (HGR.out.block k hk hr)⟩
      have k0 : w2.cell? ⟨g, 0, none⟩ = some vl := by rw [cell_of_row _ _ _ _ _ _ HD2.out, dv_0]
      obtain ⟨al, cl, hvl⟩ := H1.out.shape
      obtain ⟨aw, cw, hvw⟩ := H2.out.shape
      rw [wds_len] at hvw
      subst hvl hvw
      clear hg2 hb2 HDD HGR
      have hcl : l.length ≤ cl ∧ cl ≤ 9223372036854775807 := by
        obtain ⟨ao', cap', e1, e2, e3, _⟩ := H1.out.sb
        simp only [Value.slice.injEq] at e1
        obtain ⟨-, -, rfl⟩ := e1
        unfold maxLen at e3
        exact ⟨e2, by omega⟩
      obtain ⟨hcl1, hcl2⟩ := hcl
      go_wp2
      rw [← HW2.out]
      clear HD2 c2 f2 HW2 k0
      go_loopw [51] (fun i wr2 => ∃ k : Nat, k ≤ l.length ∧ i = .int .i64 k ∧ Hid (As w g (.slice al l.length cl) (.slice aw l.length cw) l gS z k wr2)) (fun i _ => l.length - (intOf i).toNat)
      case atStart => exact ⟨0, Nat.zero_le _, rfl, HS2⟩
      case round =>
        clear HS2
        obtain ⟨k, hk, rfl, HT⟩ := hrel
        by_cases hkl : k < l.length
        · have hkl' : (k : Int) < (l.length : Int) := by omega
          obtain ⟨n, HN⟩ : ∃ n, Hid (ln l k = n) := ⟨_, rfl⟩
          have hn15 : n < 16 := by rw [← HN.out]; have := (HL.out.ln k).2; omega
          obtain ⟨bl, _, hal, _⟩ := H1.out.form (by omega)
          simp only [Value.slice.injEq] at hal
          obtain ⟨rfl, -, rfl⟩ := hal
          have hc := (H1.out.still HT.out.g N1.out).get (b := bl) rfl hkl
          rw [(HL.out.ln k).1, HN.out] at hc
          by_cases h0 : n = 0
          · have HX := hide (HT.out.skip (fun hh => by have := hh.2; rw [HN.out] at this; omega))
            subst h0
            clear HT
            go_wp2
            go_roundw
            case rel => exact ⟨k + 1, by omega, by go_num, HX⟩
            case measure => simp [intOf]; omega
          · have h0' : (0 : Int) < n := by omega
            have hh : Has l k := ⟨hkl, by rw [HN.out]; omega⟩
            obtain ⟨bw, _, haw, _⟩ := H2.out.form (by rw [wds_len]; omega)
            simp only [Value.slice.injEq] at haw
            obtain ⟨rfl, -, rfl⟩ := haw
            have hcw := (H2.out.still HT.out.g N2.out).get (b := bw) rfl (i := k) (by rw [wds_len]; exact hkl)
            rw [wds_get hkl] at hcw
            have hj : ix l k < z := by rw [HZ.out]; exact ix_lt HL.out hh
            have hix := ix_eq hh
            obtain ⟨_, q1, q2, q3, q4, q5⟩ := HT.out.c
            have q3' := q3 n hn15
            obtain ⟨u, q4'⟩ := q4 _ hj
            have q5' := q5 (ix l k)
            have HX := hide ((HT.out.put HL.out hh (by omega) hge hj).drewN 1)
            have bw1 : wd l k ≤ 100000000 := by
              have h1 := hh.rk_lt HL.out
              have h2 := cn_le l (ln l k)
              have h3 := HL.out.1
              have h4 := fi_top HL.out (n := ln l k) (HL.out.ln k).2
              rw [hh.wd]; omega
            have bx : shf l n = (ix l k : Int) - wd l k := by rw [← HN.out]; omega
            obtain ⟨y, HY⟩ : ∃ y : Nat, Hid (y = wd l k) := ⟨_, rfl⟩
            obtain ⟨j, HJ⟩ : ∃ j : Nat, Hid (j = ix l k) := ⟨_, rfl⟩
            rw [← HY.out] at hcw bw1 bx
            rw [← HJ.out] at hj q4' q5' HX bx
            rw [bx] at q3'
            have e1 : (j : Int) - y + y = j := by omega
            clear HT hix q3 q4 q5 bx hh
            go_wp2
            go_region
            go_wp2
            go_roundw
            case rel => exact ⟨k + 1, by omega, by go_num, HX⟩
            case measure => simp [intOf]; omega
        · obtain rfl : k = l.length := by omega
          have hkl' : ¬ (l.length : Int) < (l.length : Int) := by omega
          go_wp2
          (try simp only [Exit.inBlock, Exit.then]); refine bodyPost_end (results_none rfl _ _ _) rfl ?_
          obtain ⟨sy, s1, s2, s3⟩ := HT.out.s
          refine ⟨rfl, _, sy, HT.out.d, ?_, ⟨by rw [s2, HZ.out], fun s hs => s3 s hs.1 hs⟩, HT.out.g⟩
          have := OI.of_full (base := w.heap.size) s1 hge (by rw [s2]; unfold maxLen; omega)
          rwa [s2] at this
end Go.Proofs.YtmjdpfigkojolaaGreatDoor

