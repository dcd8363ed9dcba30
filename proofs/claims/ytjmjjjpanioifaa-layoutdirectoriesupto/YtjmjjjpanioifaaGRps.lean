import Derived.Test.YtjmjjjpanioifaaGRec
import Derived.Handy
namespace Go.Proofs.Ytjmjjjpanioifaa
open Go.RowKit Go.Maps
set_option maxRecDepth 20000
set_option linter.unusedVariables false

theorem ok_u32 {s : Int} (h0 : 0 ≤ s) (h1 : s < 4294967296) : Ok64 s := by unfold Ok64; omega

set_option maxHeartbeats 1000000 in
theorem putSizes_any (l : Loc) (ok : l.Ok) {c : Nat} {o : Obj} {w0 w : World} {K0 : Nat → Nat} {g : Nat} {st : BSt} (h : Bx c o w0 K0 g w st) :
    Calls Try.prog 69 #[.pointer (some ⟨g, 0, none⟩), l.v] w fun e w' => e = .returned (.tuple #[]) ∧ Bx c o w0 K0 g w' (runI st [.num l.sum 4, .num l.packed 4, .num l.size 4]) := by
  obtain ⟨K, u, hb, hs⟩ := h.step
  have hl := h.lim
  have HI := hide (Bx.inner hb hl (.cells l.cs 26))
  have HS := hide hs
  have HL := hide hl
  obtain ⟨x0, x1, x2, x3, x4, s0, s1, x6, x7, x8, x9⟩ := ok
  obtain ⟨a0, a1, a2, a3, a4, a5, a6, a7, a8, a9⟩ := l
  simp only at s0 s1 x6 x7
  simp only [Loc.cs] at HI
  simp only [Loc.v, Loc.cs]
  have HO5 := hide (ok_u32 s0 s1)
  have HO6 := hide x6
  have HO7 := hide x7
  have g5 : IntKind.i64.wrap a5 = a5 := by rw [IntKind.wrap_i64]; omega
  obtain ⟨wb, hwb⟩ : ∃ wb, w.alloc (.cells #[.int .i64 a0, .int .i64 a1, .int .i64 a2, .int .i64 a3, .int .i64 a4, .int .u32 a5, .int .i64 a6, .int .i64 a7, .string a8, .string a9] 26) = wb := ⟨_, rfl⟩
  rw [hwb] at HI
  obtain ⟨c0, c1, c2, c3, c4, c5, c6, c7, c8, c9⟩ := box10 HI.out.box
  clear h hb hs hl x0 x1 x2 x3 x4 x6 x7 x8 x9 s0 s1 c0 c1 c2 c3 c4 c6 c7 c8 c9
  go_enter Try.func69, Try.ntmps69
  go_wp2_with fail
  refine (pu32_any HI.out a5 HO5.out).mono ?_
  rintro e w1 ⟨rfl, hx⟩
  have HX := hide hx
  obtain ⟨c0, c1, c2, c3, c4, c5, c6, c7, c8, c9⟩ := box10 hx.box
  clear hx c0 c1 c2 c3 c4 c5 c7 c8 c9
  go_wp2_with fail
  refine (pu32_any HX.out a6 HO6.out).mono ?_
  rintro e w2 ⟨rfl, hx⟩
  clear HX
  have HX := hide hx
  obtain ⟨c0, c1, c2, c3, c4, c5, c6, c7, c8, c9⟩ := box10 hx.box
  clear hx c0 c1 c2 c3 c4 c5 c6 c8 c9
  go_wp2_with fail
  refine (pu32_any HX.out a7 HO7.out).mono ?_
  rintro e w3 ⟨rfl, hx⟩
  clear HX
  have HX := hide hx
  clear hx
  go_wp2
  (try simp only [Exit.inBlock, Exit.then]); refine bodyPost_end (results_none rfl _ _ _) rfl ?_
  exact ⟨rfl, HS.out _ _ HX.out.fr HX.out.lim⟩

/-- The answer of what was put: the bytes, or the one error. -/
def tkE (st : BSt) : Int := if st.e = 0 then 0 else 124
def tkL (st : BSt) : List Int := if st.e = 0 then st.l else []

theorem taken_any {w : World} {K : Nat → Nat} {g : Nat} {u : Value} {st : BSt} (h : BuV true w K g u st) (hl : st.l.length ≤ 200000) :
    Calls Try.prog 50 #[.pointer (some ⟨g, 0, none⟩)] w fun e w' => ∃ a c, e = .returned (.tuple #[.slice a (tkL st).length c, .int .i64 (tkE st)]) ∧ OB w' w.heap.size (.slice a (tkL st).length c) (tkL st) ∧ Below w.heap.size w w' := by
  have H := hide h
  have hl' : st.l.length ≤ 140737488351232 := by omega
  by_cases he : st.e = 0
  · have HE := hide he
    have h1 : tkE st = 0 := if_pos he
    have h2 : tkL st = st.l := if_pos he
    have h3 : st.l = if st.e = 0 then st.l else [] := by rw [if_pos he]
    rw [h1, h2]
    have H3 := hide h3
    have HL := hide hl'
    clear h h1 h2 h3 he hl hl'
    go_enter Try.func50, Try.ntmps50
    go_wp2_with fail
    refine (berr_any H.out).mono ?_
    rintro e w ⟨rfl, rfl⟩
    rw [HE.out]
    go_wp2_with fail
    refine (btake_any H.out HL.out st.l H3.out).mono ?_
    rintro e w1 ⟨a, c, rfl, ho, hb⟩
    have HO := hide ho
    have HB := hide hb
    clear ho hb
    go_wp2
    go_ret2
    exact ⟨a, c, rfl, HO.out, HB.out⟩
  · have h1 : tkE st = 124 := if_neg he
    have h2 : tkL st = [] := if_neg he
    have he' : (st.e != 0) = true := by simpa using he
    rw [h1, h2]
    clear h h1 h2 hl hl'
    go_enter Try.func50, Try.ntmps50
    go_wp2_with fail
    refine (berr_any H.out).mono ?_
    rintro e w ⟨rfl, rfl⟩
    go_wp2
    go_ret2
    exact ⟨none, 0, rfl, World.ownsRow_nil _ _ _ _, Below.refl _ _⟩

/-- The answer that a row of items gets: P12.5. -/
def puE (its : List Itm) : Int := if fitI its then 0 else 124
def puL (its : List Itm) : List Int := if fitI its then rowI its else []

theorem pu_of (its : List Itm) (m : Int) (hm : fitI its → ((rowI its).length : Int) ≤ m) : tkE (runI ⟨[], m, 0⟩ its) = puE its ∧ tkL (runI ⟨[], m, 0⟩ its) = puL its := by
  unfold tkE tkL puE puL
  by_cases hf : fitI its
  · rw [runI_ok its ⟨[], m, 0⟩ rfl hf (by have := hm hf; simp; omega), if_pos hf, if_pos hf]
    simp
  · have := runI_wide its ⟨[], m, 0⟩ hf
    rw [if_neg this, if_neg this, if_neg hf, if_neg hf]
    exact ⟨rfl, rfl⟩

/-- A new buffer beside a box. -/
theorem newBx {c : Nat} {o : Obj} (w0 w : World) (m : Int) (hm0 : 0 ≤ m) (hm : m ≤ 200000) (hc : w.heap[c]? = some o) (hw : Below w0.heap.size w0 w) :
    Calls Try.prog 45 #[.int .i64 m] w fun e w' => ∃ g, e = .returned (.pointer (some ⟨g, 0, none⟩)) ∧ Bx c o w0 (fun _ => 0) g w' ⟨[], m, 0⟩ := by
  refine (newBuffer_any m (by omega) w).mono ?_
  rintro e w' ⟨g, K, rfl, hb, hk, hbl⟩
  have hcl : c < w.heap.size := (Array.getElem?_eq_some_iff.1 hc).1
  have hz : ∀ k, k < w.heap.size → K k = 0 := fun k hk' => by
    by_cases e : K k = 0
    · exact e
    · have := hk k e; omega
  refine ⟨g, rfl, K, ?_, ?_, (hbl.block c hcl).trans hc, hz c hcl, hm, by simp⟩
  · rw [newSt, if_neg (by omega)] at hb; exact hb
  · have hh : Below w0.heap.size w0 w' := hw.trans (hbl.mono hw.size)
    exact ⟨hh.os, hh.tape, hh.output, hh.size, fun k hk' _ => hh.block k hk', fun k hk' => hz k (Nat.lt_of_lt_of_le hk' hw.size)⟩

theorem Bx.below0 {c : Nat} {o : Obj} {w0 w : World} {g : Nat} {st : BSt} (h : Bx c o w0 (fun _ => 0) g w st) : Below w0.heap.size w0 w := by
  obtain ⟨K, h1, h2⟩ := h.fr
  exact h2.below (fun k hk => absurd rfl hk) (Nat.le_refl _)

theorem ptaken_any {c : Nat} {o : Obj} {w0 w : World} {g : Nat} {st : BSt} (h : Bx c o w0 (fun _ => 0) g w st) :
    Calls Try.prog 50 #[.pointer (some ⟨g, 0, none⟩)] w fun e w' => ∃ a c, e = .returned (.tuple #[.slice a (tkL st).length c, .int .i64 (tkE st)]) ∧ OB w' w0.heap.size (.slice a (tkL st).length c) (tkL st) ∧ Below w0.heap.size w0 w' := by
  have hl := h.lim
  have hb := h.below0
  obtain ⟨K, ⟨u, hu⟩, _⟩ := h.fr
  refine (taken_any hu hl.2).mono ?_
  rintro e w' ⟨a, c, rfl, ho, hb'⟩
  exact ⟨a, c, rfl, ho.base hb.size, hb.trans (hb'.mono hb.size)⟩
end Go.Proofs.Ytjmjjjpanioifaa

