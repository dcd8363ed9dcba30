import Derived.Test.YtjjepgkcgbbmhacGGce
import Derived.Test.YtjjepgkcgbbmhacGVgc
import Derived.Test.YtjjepgkcgbbmhacGPce
import Derived.Test.YtjjepgkcgbbmhacGVce
import Derived.Test.YtjjepgkcgbbmhacGCleq
import Derived.Deep.WholeRow
namespace Go.Proofs.Ytjjepgkcgbbmhac
open Go.RowKit Go.Maps
set_option maxRecDepth 20000
set_option linter.unusedVariables false
set_option linter.unusedSimpArgs false

theorem cs16 (l : Cen) : l.cs.size = 16 := rfl

theorem cs_one (l : Cen) : l.cs.all (·.oneCell') = true := by simp [Cen.cs, Value.oneCell']

theorem sizeCen : (Try.prog.info? 26).map (·.size) = some 16 := by kernel_rfl

theorem wpList_loadC {ops : Array Oper} {rest : List Oper} {a : Act} {w : World} {Q : Exit → Act → World → Prop} {dst : Option Tmp} {x : Operand} {ty : TypeId} {pos : String} {after : Array Edge} (g : Nat) (A : Array Value) (hs : A.size = 16)
    (hx : a.eval x = .pointer (some ⟨g, 0, none⟩)) (hg : w.heap[g]? = some (.cells A 26 (0, 0))) (h : wpList Try.prog ops Q rest (a.put dst (.agg A)) w) :
    wpList Try.prog ops Q ({ dst := dst, op := .load 26 x, type := ty, pos := pos, after := after, guard := none } :: rest) a w :=
  wpList_load_row rfl 26 x rfl g hx 26 A (0, 0) _ hg Try.underlying26 rfl (by rw [hs]; exact sizeCen) h

theorem wpList_storeC {ops : Array Oper} {rest : List Oper} {a : Act} {w : World} {Q : Exit → Act → World → Prop} {dst : Option Tmp} {x y : Operand} {ty : TypeId} {pos : String} {after : Array Edge} (g : Nat) (A B : Array Value) (hs : A.size = 16) (hb : B.size = 16) (h1 : A.all (·.oneCell') = true)
    (hx : a.eval x = .pointer (some ⟨g, 0, none⟩)) (hy : a.eval y = .agg A) (hg : w.heap[g]? = some (.cells B 26 (0, 0))) (h : wpList Try.prog ops Q rest (a.put dst undef) (w.setRow g A)) :
    wpList Try.prog ops Q ({ dst := dst, op := .store 26 x y, type := ty, pos := pos, after := after, guard := none } :: rest) a w :=
  wpList_store_row rfl 26 x y rfl g A hx hy 26 B hg (by rw [hs]; exact sizeCen) (by rw [hs, hb]) h1 h

theorem cen_eqA (l : Cen) (W : World) : (Op.equalIn 10000 26 (.agg l.cs) (.agg l.cs)).run Try.prog W = .ok true W := cen_eq _ _ _ _ _ _ _ _ _ _ _ _ _ _ _ _ W

set_option maxHeartbeats 16000000 in
theorem centrals_walk (l : Cen) (ok : l.Ok) (v : Value) (d : List Int) (at' : Int) (w : World) (h : SB w v d) (hB : Byt d) (h64 : Ok64 at') (hd : d.length ≤ 140737488351232) :
    Calls Try.prog 3 #[l.v, v, .int .i64 at'] w fun e w' => e = .returned (.bool true) ∧ Below w.heap.size w w' := by
  obtain ⟨ao, cap, rfl, q1, q2, q3⟩ := h.open11
  have HS := hide h
  have HBy := hide hB
  have H64 := hide h64
  have HDl := hide hd
  have HDl2 : Hid (d.length ≤ 140737488355328) := Nat.le_trans hd (by omega)
  have HKL := hide ok
  obtain ⟨A, hA⟩ : ∃ A, A = l.cs := ⟨_, rfl⟩
  have HV : Hid (l.v = .agg A) := by show _ = _; rw [hA]; rfl
  have HSA : Hid (A.size = 16) := by rw [hA]; exact cs16 l
  rw [HV.out]
  obtain ⟨wb, hwb⟩ : ∃ wb, w.alloc (.cells A 26) = wb := ⟨_, rfl⟩
  have HB : Hid (Below w.heap.size w wb) := by rw [← hwb]; exact (Below.refl _ _).alloc (Nat.le_refl _) _
  have HN : Hid (wb.heap[w.heap.size]? = some (.cells A 26 (0, 0))) := by rw [← hwb]; exact heap_alloc_new w _
  clear ok h hB h64 hd q3 hA
  go_enter Try.func3, Try.ntmps3
  go_wp2_with ((with_reducible refine wpList_loadC w.heap.size A HSA.out ?hx HN.out ?_); (case hx => rfl))
  rw [← HV.out]
  refine (putCentral_any l HKL.out _).mono ?_
  rintro e w1 ⟨x1, y1, rfl, ho1, hb1⟩
  obtain ⟨R, HR⟩ : ∃ R, Hid (R = puL (ceI l)) := ⟨_, rfl⟩
  obtain ⟨E, HE⟩ : ∃ E, Hid (E = puE (ceI l)) := ⟨_, rfl⟩
  rw [← HR.out] at ho1
  rw [← HR.out, ← HE.out]
  have HN1 : Hid (w1.heap[w.heap.size]? = some (.cells A 26 (0, 0))) := (hb1.block _ (Array.getElem?_eq_some_iff.1 HN.out).1).trans HN.out
  have HO1 := hide ho1
  have HB1 : Hid (Below w.heap.size w w1) := HB.out.trans (hb1.mono HB.out.size)
  clear ho1 hb1 hwb HN
  go_wp2_with ((with_reducible refine wpList_loadC w.heap.size A HSA.out ?hx HN1.out ?_); (case hx => rfl))
  rw [← HV.out]
  refine (vputCentral_any l HKL.out _).mono ?_
  rintro e w2 ⟨x2, y2, rfl, ho2, hb2⟩
  rw [← HR.out] at ho2
  rw [← HR.out, ← HE.out]
  have HSM : Hid (Calls Try.prog 6 #[.slice x1 R.length y1, .slice x2 R.length y2] w2 fun e w' => e = .returned (.bool true) ∧ ∃ n, w' = w2.drewN n) := by
    have := same_any _ _ R R w2 (HO1.out.sb.below hb2) ho2.sb
    rw [show eqB R R = true by simp [eqB]] at this
    exact this
  have HB2 : Hid (Below w.heap.size w w2) := HB1.out.trans (hb2.mono HB1.out.size)
  clear ho2 hb2 HN1 HO1 HB1
  go_wp2_with fail
  refine HSM.out.mono ?_
  rintro e w3 ⟨rfl, n3, rfl⟩
  go_wp2_with fail
  refine (num_any E _).mono ?_
  rintro e w4 ⟨rfl, rfl⟩
  have HB3 : Hid (Below w.heap.size w (w2.drewN n3)) := below_drewN HB2.out n3
  go_wp2_with fail
  refine (lent_any _ d _ (SB.below HS.out HB3.out) HDl.out).mono ?_
  rintro e w5 ⟨u5, rfl, hl5, hb5⟩
  have HB5 : Hid (Below w.heap.size w w5) := HB3.out.trans (hb5.mono HB3.out.size)
  have HL5 := hide hl5
  obtain ⟨pb, pc, hu5⟩ : ∃ a c, u5 = .slice a d.length c := hl5.sb.len
  subst hu5
  clear hl5 hb5 HB2 HB3 HSM
  obtain ⟨P, HP⟩ : ∃ P, Hid (P = ceP d at') := ⟨_, rfl⟩
  obtain ⟨GE, HGE⟩ : ∃ G, Hid (G = ceE d at') := ⟨_, rfl⟩
  have heq0 := fun W => cen_eqA (ceA d at') W
  obtain ⟨B, hBB⟩ : ∃ B, B = (ceA d at').cs := ⟨_, rfl⟩
  rw [← hBB] at heq0
  have HEQ := hide heq0
  have HAV : Hid ((ceA d at').v = .agg B) := by show _ = _; rw [hBB]; rfl
  have HSB : Hid (B.size = 16) := by rw [hBB]; exact cs16 _
  have HOB : Hid (B.all (·.oneCell') = true) := by rw [hBB]; exact cs_one _
  clear hBB heq0
  go_wp2_with fail
  refine (getCentral_any _ d at' w5 HL5.out.sb HBy.out H64.out HDl2.out).mono ?_
  rintro e w6 ⟨rfl, hb6⟩
  rw [HAV.out, ← HP.out, ← HGE.out]
  have HB6 : Hid (Below w.heap.size w w6) := HB5.out.trans (hb6.mono HB5.out.size)
  have HL6 : Hid (Lent w6 0 (.slice pb d.length pc) d) := HL5.out.below12 hb6
  have HZ6 : Hid ((w6.alloc (.cells #[.int .i64 0, .int .i64 0, .int .i64 0, .int .i64 0, .int .i64 0, .int .u32 0, .int .i64 0, .int .i64 0, .string ⟨#[]⟩, .string ⟨#[]⟩, .int .i64 0, .int .i64 0, .int .i64 0, .int .i64 0, .int .i64 0, .string ⟨#[]⟩] 26)).heap[w6.heap.size]? = some (.cells #[.int .i64 0, .int .i64 0, .int .i64 0, .int .i64 0, .int .i64 0, .int .u32 0, .int .i64 0, .int .i64 0, .string ⟨#[]⟩, .string ⟨#[]⟩, .int .i64 0, .int .i64 0, .int .i64 0, .int .i64 0, .int .i64 0, .string ⟨#[]⟩] 26 (0, 0))) := heap_alloc_new _ _
  clear hb6 HL5 HB5
  go_wp2_with ((with_reducible refine wpList_storeC w6.heap.size B #[.int .i64 0, .int .i64 0, .int .i64 0, .int .i64 0, .int .i64 0, .int .u32 0, .int .i64 0, .int .i64 0, .string ⟨#[]⟩, .string ⟨#[]⟩, .int .i64 0, .int .i64 0, .int .i64 0, .int .i64 0, .int .i64 0, .string ⟨#[]⟩] HSB.out rfl HOB.out ?hx ?hy HZ6.out ?_); (case hx => rfl); (case hy => rfl))
  rw [World.setRow_alloc_new]
  obtain ⟨w7, hw7⟩ : ∃ x, w6.alloc (.cells B 26) = x := ⟨_, rfl⟩
  have HB7 : Hid (Below w.heap.size w w7) := by rw [← hw7]; exact HB6.out.alloc HB6.out.size _
  have HM7 : Hid (w7.heap[w6.heap.size]? = some (.cells B 26 (0, 0))) := by rw [← hw7]; exact heap_alloc_new _ _
  have HL7 : Hid (Lent w7 0 (.slice pb d.length pc) d) := by rw [← hw7]; exact HL6.out.below12 ((Below.refl _ _).alloc (Nat.le_refl _) _)
  rw [hw7]
  clear hw7 HB6 HL6 HZ6
  refine (vgetCentral_any _ d at' w7 (SB.below HS.out HB7.out) HBy.out H64.out HDl2.out).mono ?_
  rintro e w8 ⟨rfl, hb8⟩
  rw [HAV.out, ← HP.out, ← HGE.out]
  have HB8 : Hid (Below w.heap.size w w8) := HB7.out.trans (hb8.mono HB7.out.size)
  have HM8 : Hid (w8.heap[w6.heap.size]? = some (.cells B 26 (0, 0))) := (hb8.block _ (Array.getElem?_eq_some_iff.1 HM7.out).1).trans HM7.out
  have HL8 : Hid (Lent w8 0 (.slice pb d.length pc) d) := HL7.out.below12 hb8
  have HZ8 : Hid ((w8.alloc (.cells #[.int .i64 0, .int .i64 0, .int .i64 0, .int .i64 0, .int .i64 0, .int .u32 0, .int .i64 0, .int .i64 0, .string ⟨#[]⟩, .string ⟨#[]⟩, .int .i64 0, .int .i64 0, .int .i64 0, .int .i64 0, .int .i64 0, .string ⟨#[]⟩] 26)).heap[w8.heap.size]? = some (.cells #[.int .i64 0, .int .i64 0, .int .i64 0, .int .i64 0, .int .i64 0, .int .u32 0, .int .i64 0, .int .i64 0, .string ⟨#[]⟩, .string ⟨#[]⟩, .int .i64 0, .int .i64 0, .int .i64 0, .int .i64 0, .int .i64 0, .string ⟨#[]⟩] 26 (0, 0))) := heap_alloc_new _ _
  obtain ⟨w9, hw9⟩ : ∃ x, w8.alloc (.cells B 26) = x := ⟨_, rfl⟩
  have HB9 : Hid (Below w.heap.size w w9) := by rw [← hw9]; exact HB8.out.alloc HB8.out.size _
  have HM9 : Hid (w9.heap[w6.heap.size]? = some (.cells B 26 (0, 0))) := by rw [← hw9]; exact (Below.heap_alloc _ _ _ (Array.getElem?_eq_some_iff.1 HM8.out).1).trans HM8.out
  have HQ9 : Hid (w9.heap[w8.heap.size]? = some (.cells B 26 (0, 0))) := by rw [← hw9]; exact heap_alloc_new _ _
  have HL9 : Hid (Lent w9 0 (.slice pb d.length pc) d) := by rw [← hw9]; exact HL8.out.below12 ((Below.refl _ _).alloc (Nat.le_refl _) _)
  have HW9 : Hid ((w8.alloc (.cells #[.int .i64 0, .int .i64 0, .int .i64 0, .int .i64 0, .int .i64 0, .int .u32 0, .int .i64 0, .int .i64 0, .string ⟨#[]⟩, .string ⟨#[]⟩, .int .i64 0, .int .i64 0, .int .i64 0, .int .i64 0, .int .i64 0, .string ⟨#[]⟩] 26)).setRow w8.heap.size B = w9) := by show _ = _; rw [World.setRow_alloc_new]; exact hw9
  clear hb8 HB7 HM7 HL7 HB8 HM8 HL8 hw9
  have heq := HEQ.out
  go_wp2_with (first
    | ((with_reducible refine wpList_storeC w8.heap.size B #[.int .i64 0, .int .i64 0, .int .i64 0, .int .i64 0, .int .i64 0, .int .u32 0, .int .i64 0, .int .i64 0, .string ⟨#[]⟩, .string ⟨#[]⟩, .int .i64 0, .int .i64 0, .int .i64 0, .int .i64 0, .int .i64 0, .string ⟨#[]⟩] HSB.out rfl HOB.out ?hx ?hy HZ8.out ?_); (case hx => rfl); (case hy => rfl); rw [HW9.out])
    | ((with_reducible refine wpList_loadC w6.heap.size B HSB.out ?hx HM9.out ?_); (case hx => rfl))
    | ((with_reducible refine wpList_loadC w8.heap.size B HSB.out ?hx HQ9.out ?_); (case hx => rfl)))
  clear heq
  refine (num_any GE _).mono ?_
  rintro e w10 ⟨rfl, rfl⟩
  go_wp2_with fail
  refine (still_any _ _ d _ 0 HL9.out (SB.below HS.out HB9.out) HDl.out).mono ?_
  rintro e w11 ⟨rfl, n9, rfl⟩
  go_wp2
  go_ret
  exact ⟨rfl, below_drewN HB9.out n9⟩
end Go.Proofs.Ytjjepgkcgbbmhac

