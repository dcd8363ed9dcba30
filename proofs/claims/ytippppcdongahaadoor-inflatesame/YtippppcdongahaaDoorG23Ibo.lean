import Derived.Test.YtippppcdongahaaDoorG21Ibl
import Derived.Test.YtippppcdongahaaDoorG22Icb
namespace Go.Proofs.YtippppcdongahaaDoor
open Go.RowKit Go.Maps Go.Shelf
attribute [local go_sem] Oper.semAt_some
set_option maxRecDepth 20000
set_option linter.unusedVariables false

abbrev bops : Array Oper := #[{ dst := some 19, op := Op.move (Operand.tmp 0), type := 54, pos := "inflate.go:68", after := #[], guard := none },
  { dst := some 20, op := Op.load 36 (Operand.tmp 5), type := 36, pos := "inflate.go:68", after := #[], guard := none },
  { dst := some 21, op := Op.load 44 (Operand.tmp 4), type := 44, pos := "inflate.go:68", after := #[], guard := none },
  { dst := some 22, op := Op.nilCheck (Operand.tmp 21), type := 0, pos := "inflate.go:68", after := #[{ on := 2, ground := Ground.data }], guard := none },
  { dst := some 23, op := Op.fieldAddr 51 (Operand.tmp 22) 1, type := 0, pos := "inflate.go:68", after := #[{ on := 3, ground := Ground.data }], guard := none },
  { dst := some 24, op := Op.load 22 (Operand.tmp 23), type := 22, pos := "inflate.go:68", after := #[{ on := 4, ground := Ground.data }], guard := none },
  { dst := some 25, op := Op.fieldAddr 36 (Operand.tmp 5) 4, type := 0, pos := "inflate.go:68", after := #[], guard := none },
  { dst := some 26, op := Op.load 3 (Operand.tmp 25), type := 3, pos := "inflate.go:68", after := #[{ on := 6, ground := Ground.data }], guard := none },
  { dst := some 27, op := Op.fieldAddr 36 (Operand.tmp 5) 5, type := 0, pos := "inflate.go:68", after := #[], guard := none },
  { dst := some 28, op := Op.load 3 (Operand.tmp 27), type := 3, pos := "inflate.go:68", after := #[{ on := 8, ground := Ground.data }], guard := none },
  { dst := some 29, op := Op.slice 22 (Operand.tmp 24) (some (Operand.tmp 26)) (some (Operand.tmp 28)) none, type := 22, pos := "inflate.go:68", after := #[{ on := 5, ground := Ground.data }, { on := 7, ground := Ground.data }, { on := 9, ground := Ground.data }], guard := none },
  { dst := some 30, op := Op.call { callee := Callee.value (Operand.func 22), args := #[Operand.tmp 29], argTypes := #[22] }, type := 22, pos := "inflate.go:68", after := #[{ on := 10, ground := Ground.data }], guard := none },
  { dst := some 31, op := Op.call { callee := Callee.value (Operand.tmp 19), args := #[Operand.tmp 20, Operand.tmp 30], argTypes := #[36, 22] }, type := 4, pos := "inflate.go:68", after := #[{ on := 0, ground := Ground.data }, { on := 1, ground := Ground.data }, { on := 11, ground := Ground.data }, { on := 11, ground := Ground.chain }], guard := none },
  { dst := some 32, op := Op.unOp UnOp.not 4 (Operand.tmp 31), type := 4, pos := "inflate.go:68", after := #[{ on := 12, ground := Ground.data }], guard := none }]

set_option maxHeartbeats 8000000 in
theorem reg5 {Q : Exit → Act → World → Prop} {w2 : World} {l tB pB g N M D p q cc sc : Nat} {kk : Int} {f : Bool} {ao sp : Option Addr} {s1 s2 s3 s6 s7 s8 s9 s10 s11 s12 s13 s14 s15 s16 s17 s18 s19 s20 s21 s22 s23 s24 s25 s26 s27 s28 s29 s30 s31 s32 : Value} {Y : Bool → World → Prop} {X : Value → World → Prop}
    (x0 : w2.cell? ⟨pB, 0, none⟩ = some (.int .i64 kk)) (x1 : w2.cell? ⟨pB, 1, none⟩ = some (.bool f)) (x2 : w2.cell? ⟨pB, 2, none⟩ = some (.int .i64 p)) (x3 : w2.cell? ⟨pB, 3, none⟩ = some (.int .i64 q)) (x4 : w2.cell? ⟨pB, 4, none⟩ = some (.int .i64 N)) (x5 : w2.cell? ⟨pB, 5, none⟩ = some (.int .i64 M))
    (x6 : w2.cell? ⟨tB, 0, none⟩ = some (.pointer (some ⟨g, 0, none⟩))) (x7 : w2.cell? ⟨g, 1, none⟩ = some (.slice ao M cc))
    (hsl : ∀ wx : World, (Instr.slice 22 (.slice ao M cc) (some (.int .i64 (N : Int))) (some (.int .i64 (M : Int))) none).run Tryd.prog wx = .ok (.slice sp D sc) wx)
    (hcl : Calls Tryd.prog 22 #[.slice sp D sc] w2.drew fun e w' => ∃ u, e = .returned u ∧ X u w')
    (hX : ∀ u w3, X u w3 → Below w2.heap.size w2 w3) (hpz : pB < w2.heap.size)
    (hy : ∀ u w3, X u w3 → YieldAt Fence.wide 1 Tryd.prog l #[.agg #[.int .i64 kk, .bool f, .int .i64 p, .int .i64 q, .int .i64 N, .int .i64 M], u] w3 fun e w4 => ∃ c, e = .returned (.bool c) ∧ Y c w4 ∧ ∃ u', u' = u ∧ X u w3)
    (hP : ∀ (c : List PanicEntry) (a : Act) (d : Option Tmp) (v : Value) (w : World), Q (.panic c) (a.put d v) w → Q (.panic c) a w)
    (hQ : ∀ u w3 c w4, X u w3 → Y c w4 → Q .normal ({ tmps := #[.func (.yield l) #[] #[], s1, s2, s3, .pointer (some ⟨tB, 0, none⟩), .pointer (some ⟨pB, 0, none⟩), s6, s7, s8, s9, s10, s11, s12, s13, s14, s15, s16, s17, s18, .func (.yield l) #[] #[], .agg #[.int .i64 kk, .bool f, .int .i64 p, .int .i64 q, .int .i64 N, .int .i64 M], .pointer (some ⟨g, 0, none⟩), .pointer (some ⟨g, 0, none⟩), .pointer (some ⟨g, 1, none⟩), .slice ao M cc, .pointer (some ⟨pB, 4, none⟩), .int .i64 N, .pointer (some ⟨pB, 5, none⟩), .int .i64 M, .slice sp D sc, u, .bool c, .bool (!c)], defers := [] }) w4) :
    (Code.region 5 bops true).wpIn Fence.wide 2 Tryd.prog Q ({ tmps := #[.func (.yield l) #[] #[], s1, s2, s3, .pointer (some ⟨tB, 0, none⟩), .pointer (some ⟨pB, 0, none⟩), s6, s7, s8, s9, s10, s11, s12, s13, s14, s15, s16, s17, s18, s19, s20, s21, s22, s23, s24, s25, s26, s27, s28, s29, s30, s31, s32], defers := [] }) w2 := by
  obtain ⟨W, HW⟩ : ∃ W, Hid (W = w2.drew) := ⟨_, rfl⟩
  have k0 : W.cell? ⟨pB, 0, none⟩ = some (.int .i64 kk) := by rw [HW.out]; exact x0
  have k1 : W.cell? ⟨pB, 1, none⟩ = some (.bool f) := by rw [HW.out]; exact x1
  have k2 : W.cell? ⟨pB, 2, none⟩ = some (.int .i64 p) := by rw [HW.out]; exact x2
  have k3 : W.cell? ⟨pB, 3, none⟩ = some (.int .i64 q) := by rw [HW.out]; exact x3
  have k4 : W.cell? ⟨pB, 4, none⟩ = some (.int .i64 N) := by rw [HW.out]; exact x4
  have k5 : W.cell? ⟨pB, 5, none⟩ = some (.int .i64 M) := by rw [HW.out]; exact x5
  have k6 : W.cell? ⟨tB, 0, none⟩ = some (.pointer (some ⟨g, 0, none⟩)) := by rw [HW.out]; exact x6
  have k7 : W.cell? ⟨g, 1, none⟩ = some (.slice ao M cc) := by rw [HW.out]; exact x7
  rw [← HW.out] at hcl
  have z0 : ∀ u w3, X u w3 → w3.cell? ⟨pB, 0, none⟩ = some (.int .i64 kk) := fun u w3 h => ((hX u w3 h).cell hpz).trans x0
  have z1 : ∀ u w3, X u w3 → w3.cell? ⟨pB, 1, none⟩ = some (.bool f) := fun u w3 h => ((hX u w3 h).cell hpz).trans x1
  have z2 : ∀ u w3, X u w3 → w3.cell? ⟨pB, 2, none⟩ = some (.int .i64 p) := fun u w3 h => ((hX u w3 h).cell hpz).trans x2
  have z3 : ∀ u w3, X u w3 → w3.cell? ⟨pB, 3, none⟩ = some (.int .i64 q) := fun u w3 h => ((hX u w3 h).cell hpz).trans x3
  have z4 : ∀ u w3, X u w3 → w3.cell? ⟨pB, 4, none⟩ = some (.int .i64 N) := fun u w3 h => ((hX u w3 h).cell hpz).trans x4
  have z5 : ∀ u w3, X u w3 → w3.cell? ⟨pB, 5, none⟩ = some (.int .i64 M) := fun u w3 h => ((hX u w3 h).cell hpz).trans x5
  have HCL := hide hcl
  have HYY := hide hy
  have HQQ := hide hQ
  clear x0 x1 x2 x3 x4 x5 x6 x7 hcl hy hQ hX hpz
  have y_all : ∀ u w3, X u w3 → ∀ li : Array Bool, li = #[true, true, true, true, true, true, true, true, true, true, true, true, false, false] → wpAnyIn Fence.wide 2 Tryd.prog .any bops Q 2 li ({ tmps := #[.func (.yield l) #[] #[], s1, s2, s3, .pointer (some ⟨tB, 0, none⟩), .pointer (some ⟨pB, 0, none⟩), s6, s7, s8, s9, s10, s11, s12, s13, s14, s15, s16, s17, s18, .func (.yield l) #[] #[], .agg #[.int .i64 kk, .bool f, .int .i64 p, .int .i64 q, .int .i64 N, .int .i64 M], .pointer (some ⟨g, 0, none⟩), .pointer (some ⟨g, 0, none⟩), .pointer (some ⟨g, 1, none⟩), .slice ao M cc, .pointer (some ⟨pB, 4, none⟩), .int .i64 N, .pointer (some ⟨pB, 5, none⟩), .int .i64 M, .slice sp D sc, u, s31, s32], defers := [] }) w3 := by
    intro u w3 hx li hli
    subst hli
    refine wpAnyIn_ready (rs := [12]) (by kernel_rfl) (by simp) ?_
    refine AllReadyIn.cons rfl (fun K hK => ?_) ?_
    · obtain ⟨fn, tmps, assign, body, hyy, hRd⟩ := HYY.out u w3 hx
      have HRD := hide hRd
      clear hRd
      go_simp
      gi_wp2_with fail
      refine HRD.out.mono ?_
      rintro e w4 ⟨c, rfl, hY, u', -, hx'⟩
      have HY4 := hide hY
      clear hY
      go_simp
      refine hK _ _ ?_
      refine wpAnyIn_ready (rs := [13]) (by kernel_rfl) (by simp) ?_
      refine AllReadyIn.cons rfl (fun K hK => ?_) AllReadyIn.nil
      go_simp
      refine hK _ _ ?_
      refine wpAnyIn_done (by kernel_rfl) ?_ _
      exact HQQ.out u w3 c w4 hx HY4.out
    exact AllReadyIn.nil
  have y_p : ∀ u w3, X u w3 → ∀ li : Array Bool, li = #[true, false, true, true, true, true, true, true, true, true, true, true, false, false] → wpAnyIn Fence.wide 2 Tryd.prog .any bops Q 3 li ({ tmps := #[.func (.yield l) #[] #[], s1, s2, s3, .pointer (some ⟨tB, 0, none⟩), .pointer (some ⟨pB, 0, none⟩), s6, s7, s8, s9, s10, s11, s12, s13, s14, s15, s16, s17, s18, .func (.yield l) #[] #[], s20, .pointer (some ⟨g, 0, none⟩), .pointer (some ⟨g, 0, none⟩), .pointer (some ⟨g, 1, none⟩), .slice ao M cc, .pointer (some ⟨pB, 4, none⟩), .int .i64 N, .pointer (some ⟨pB, 5, none⟩), .int .i64 M, .slice sp D sc, u, s31, s32], defers := [] }) w3 := by
    intro u w3 hx li hli
    subst hli
    refine wpAnyIn_ready (rs := [1]) (by kernel_rfl) (by simp) ?_
    refine AllReadyIn.cons rfl (fun K hK => ?_) ?_
    · have a0 := z0 u w3 hx
      have a1 := z1 u w3 hx
      have a2 := z2 u w3 hx
      have a3 := z3 u w3 hx
      have a4 := z4 u w3 hx
      have a5 := z5 u w3 hx
      clear z0 z1 z2 z3 z4 z5
      go_simp
      refine hK _ _ ?_
      exact y_all u w3 hx _ (by kernel_rfl)
    exact AllReadyIn.nil
  clear HYY HQQ
  have t_1 : ∀ li : Array Bool, li = #[true, true, true, true, true, true, true, true, true, true, true, false, false, false] → wpAnyIn Fence.wide 2 Tryd.prog .any bops Q 3 li ({ tmps := #[.func (.yield l) #[] #[], s1, s2, s3, .pointer (some ⟨tB, 0, none⟩), .pointer (some ⟨pB, 0, none⟩), s6, s7, s8, s9, s10, s11, s12, s13, s14, s15, s16, s17, s18, .func (.yield l) #[] #[], .agg #[.int .i64 kk, .bool f, .int .i64 p, .int .i64 q, .int .i64 N, .int .i64 M], .pointer (some ⟨g, 0, none⟩), .pointer (some ⟨g, 0, none⟩), .pointer (some ⟨g, 1, none⟩), .slice ao M cc, .pointer (some ⟨pB, 4, none⟩), .int .i64 N, .pointer (some ⟨pB, 5, none⟩), .int .i64 M, .slice sp D sc, s30, s31, s32], defers := [] }) W := by
    intro li hli
    subst hli
    refine wpAnyIn_ready (rs := [11]) (by kernel_rfl) (by simp) ?_
    refine AllReadyIn.cons rfl (fun K hK => ?_) ?_
    · go_simp
      refine ⟨trivial, (callsIn_wide.2 HCL.out).mono ?_⟩
      rintro e w3 ⟨u, rfl, hx⟩
      go_simp
      refine hK _ _ ?_
      exact y_all u w3 hx _ (by kernel_rfl)
    exact AllReadyIn.nil
  have t_0 : ∀ li : Array Bool, li = #[true, false, true, true, true, true, true, true, true, true, true, false, false, false] → wpAnyIn Fence.wide 2 Tryd.prog .any bops Q 4 li ({ tmps := #[.func (.yield l) #[] #[], s1, s2, s3, .pointer (some ⟨tB, 0, none⟩), .pointer (some ⟨pB, 0, none⟩), s6, s7, s8, s9, s10, s11, s12, s13, s14, s15, s16, s17, s18, .func (.yield l) #[] #[], s20, .pointer (some ⟨g, 0, none⟩), .pointer (some ⟨g, 0, none⟩), .pointer (some ⟨g, 1, none⟩), .slice ao M cc, .pointer (some ⟨pB, 4, none⟩), .int .i64 N, .pointer (some ⟨pB, 5, none⟩), .int .i64 M, .slice sp D sc, s30, s31, s32], defers := [] }) W := by
    intro li hli
    subst hli
    refine wpAnyIn_ready (rs := [1, 11]) (by kernel_rfl) (by simp) ?_
    refine AllReadyIn.cons rfl (fun K hK => ?_) ?_
    · go_simp
      refine hK _ _ ?_
      exact t_1 _ (by kernel_rfl)
    refine AllReadyIn.cons rfl (fun K hK => ?_) ?_
    · go_simp
      refine ⟨trivial, (callsIn_wide.2 HCL.out).mono ?_⟩
      rintro e w3 ⟨u, rfl, hx⟩
      go_simp
      refine hK _ _ ?_
      exact y_p u w3 hx _ (by kernel_rfl)
    exact AllReadyIn.nil
  clear HCL y_all y_p z0 z1 z2 z3 z4 z5
  have s_1111 : ∀ li : Array Bool, li = #[true, true, true, true, true, false, true, true, true, true, false, false, false, false] → wpAnyIn Fence.wide 2 Tryd.prog .any bops Q 5 li ({ tmps := #[.func (.yield l) #[] #[], s1, s2, s3, .pointer (some ⟨tB, 0, none⟩), .pointer (some ⟨pB, 0, none⟩), s6, s7, s8, s9, s10, s11, s12, s13, s14, s15, s16, s17, s18, .func (.yield l) #[] #[], .agg #[.int .i64 kk, .bool f, .int .i64 p, .int .i64 q, .int .i64 N, .int .i64 M], .pointer (some ⟨g, 0, none⟩), .pointer (some ⟨g, 0, none⟩), .pointer (some ⟨g, 1, none⟩), s24, .pointer (some ⟨pB, 4, none⟩), .int .i64 N, .pointer (some ⟨pB, 5, none⟩), .int .i64 M, s29, s30, s31, s32], defers := [] }) W := by
    intro li hli
    subst hli
    refine wpAnyIn_ready (rs := [5]) (by kernel_rfl) (by simp) ?_
    refine AllReadyIn.cons rfl (fun K hK => ?_) ?_
    · go_simp
      refine hK _ _ ?_
      refine wpAnyIn_take (i := 10) (v := .slice sp D sc) rfl rfl (by kernel_rfl) (by kernel_rfl) (by kernel_rfl) (fun _ _ _ h => hP _ _ _ _ _ h) ⟨Or.inl ⟨by rfl, fun w => by go_simp⟩, fun _ => rfl⟩ ?_
      exact t_1 _ (by kernel_rfl)
    exact AllReadyIn.nil
  have s_1201 : ∀ li : Array Bool, li = #[true, true, true, true, true, true, true, false, true, true, false, false, false, false] → wpAnyIn Fence.wide 2 Tryd.prog .any bops Q 5 li ({ tmps := #[.func (.yield l) #[] #[], s1, s2, s3, .pointer (some ⟨tB, 0, none⟩), .pointer (some ⟨pB, 0, none⟩), s6, s7, s8, s9, s10, s11, s12, s13, s14, s15, s16, s17, s18, .func (.yield l) #[] #[], .agg #[.int .i64 kk, .bool f, .int .i64 p, .int .i64 q, .int .i64 N, .int .i64 M], .pointer (some ⟨g, 0, none⟩), .pointer (some ⟨g, 0, none⟩), .pointer (some ⟨g, 1, none⟩), .slice ao M cc, .pointer (some ⟨pB, 4, none⟩), s26, .pointer (some ⟨pB, 5, none⟩), .int .i64 M, s29, s30, s31, s32], defers := [] }) W := by
    intro li hli
    subst hli
    refine wpAnyIn_ready (rs := [7]) (by kernel_rfl) (by simp) ?_
    refine AllReadyIn.cons rfl (fun K hK => ?_) ?_
    · go_simp
      refine hK _ _ ?_
      refine wpAnyIn_take (i := 10) (v := .slice sp D sc) rfl rfl (by kernel_rfl) (by kernel_rfl) (by kernel_rfl) (fun _ _ _ h => hP _ _ _ _ _ h) ⟨Or.inl ⟨by rfl, fun w => by go_simp⟩, fun _ => rfl⟩ ?_
      exact t_1 _ (by kernel_rfl)
    exact AllReadyIn.nil
  have s_1210 : ∀ li : Array Bool, li = #[true, true, true, true, true, true, true, true, true, false, false, false, false, false] → wpAnyIn Fence.wide 2 Tryd.prog .any bops Q 5 li ({ tmps := #[.func (.yield l) #[] #[], s1, s2, s3, .pointer (some ⟨tB, 0, none⟩), .pointer (some ⟨pB, 0, none⟩), s6, s7, s8, s9, s10, s11, s12, s13, s14, s15, s16, s17, s18, .func (.yield l) #[] #[], .agg #[.int .i64 kk, .bool f, .int .i64 p, .int .i64 q, .int .i64 N, .int .i64 M], .pointer (some ⟨g, 0, none⟩), .pointer (some ⟨g, 0, none⟩), .pointer (some ⟨g, 1, none⟩), .slice ao M cc, .pointer (some ⟨pB, 4, none⟩), .int .i64 N, .pointer (some ⟨pB, 5, none⟩), s28, s29, s30, s31, s32], defers := [] }) W := by
    intro li hli
    subst hli
    refine wpAnyIn_ready (rs := [9]) (by kernel_rfl) (by simp) ?_
    refine AllReadyIn.cons rfl (fun K hK => ?_) ?_
    · go_simp
      refine hK _ _ ?_
      refine wpAnyIn_take (i := 10) (v := .slice sp D sc) rfl rfl (by kernel_rfl) (by kernel_rfl) (by kernel_rfl) (fun _ _ _ h => hP _ _ _ _ _ h) ⟨Or.inl ⟨by rfl, fun w => by go_simp⟩, fun _ => rfl⟩ ?_
      exact t_1 _ (by kernel_rfl)
    exact AllReadyIn.nil
  have s_0111 : ∀ li : Array Bool, li = #[true, false, true, true, true, false, true, true, true, true, false, false, false, false] → wpAnyIn Fence.wide 2 Tryd.prog .any bops Q 6 li ({ tmps := #[.func (.yield l) #[] #[], s1, s2, s3, .pointer (some ⟨tB, 0, none⟩), .pointer (some ⟨pB, 0, none⟩), s6, s7, s8, s9, s10, s11, s12, s13, s14, s15, s16, s17, s18, .func (.yield l) #[] #[], s20, .pointer (some ⟨g, 0, none⟩), .pointer (some ⟨g, 0, none⟩), .pointer (some ⟨g, 1, none⟩), s24, .pointer (some ⟨pB, 4, none⟩), .int .i64 N, .pointer (some ⟨pB, 5, none⟩), .int .i64 M, s29, s30, s31, s32], defers := [] }) W := by
    intro li hli
    subst hli
    refine wpAnyIn_ready (rs := [1, 5]) (by kernel_rfl) (by simp) ?_
    refine AllReadyIn.cons rfl (fun K hK => ?_) ?_
    · go_simp
      refine hK _ _ ?_
      exact s_1111 _ (by kernel_rfl)
    refine AllReadyIn.cons rfl (fun K hK => ?_) ?_
    · go_simp
      refine hK _ _ ?_
      refine wpAnyIn_take (i := 10) (v := .slice sp D sc) rfl rfl (by kernel_rfl) (by kernel_rfl) (by kernel_rfl) (fun _ _ _ h => hP _ _ _ _ _ h) ⟨Or.inl ⟨by rfl, fun w => by go_simp⟩, fun _ => rfl⟩ ?_
      exact t_0 _ (by kernel_rfl)
    exact AllReadyIn.nil
  have s_0201 : ∀ li : Array Bool, li = #[true, false, true, true, true, true, true, false, true, true, false, false, false, false] → wpAnyIn Fence.wide 2 Tryd.prog .any bops Q 6 li ({ tmps := #[.func (.yield l) #[] #[], s1, s2, s3, .pointer (some ⟨tB, 0, none⟩), .pointer (some ⟨pB, 0, none⟩), s6, s7, s8, s9, s10, s11, s12, s13, s14, s15, s16, s17, s18, .func (.yield l) #[] #[], s20, .pointer (some ⟨g, 0, none⟩), .pointer (some ⟨g, 0, none⟩), .pointer (some ⟨g, 1, none⟩), .slice ao M cc, .pointer (some ⟨pB, 4, none⟩), s26, .pointer (some ⟨pB, 5, none⟩), .int .i64 M, s29, s30, s31, s32], defers := [] }) W := by
    intro li hli
    subst hli
    refine wpAnyIn_ready (rs := [1, 7]) (by kernel_rfl) (by simp) ?_
    refine AllReadyIn.cons rfl (fun K hK => ?_) ?_
    · go_simp
      refine hK _ _ ?_
      exact s_1201 _ (by kernel_rfl)
    refine AllReadyIn.cons rfl (fun K hK => ?_) ?_
    · go_simp
      refine hK _ _ ?_
      refine wpAnyIn_take (i := 10) (v := .slice sp D sc) rfl rfl (by kernel_rfl) (by kernel_rfl) (by kernel_rfl) (fun _ _ _ h => hP _ _ _ _ _ h) ⟨Or.inl ⟨by rfl, fun w => by go_simp⟩, fun _ => rfl⟩ ?_
      exact t_0 _ (by kernel_rfl)
    exact AllReadyIn.nil
  have s_0210 : ∀ li : Array Bool, li = #[true, false, true, true, true, true, true, true, true, false, false, false, false, false] → wpAnyIn Fence.wide 2 Tryd.prog .any bops Q 6 li ({ tmps := #[.func (.yield l) #[] #[], s1, s2, s3, .pointer (some ⟨tB, 0, none⟩), .pointer (some ⟨pB, 0, none⟩), s6, s7, s8, s9, s10, s11, s12, s13, s14, s15, s16, s17, s18, .func (.yield l) #[] #[], s20, .pointer (some ⟨g, 0, none⟩), .pointer (some ⟨g, 0, none⟩), .pointer (some ⟨g, 1, none⟩), .slice ao M cc, .pointer (some ⟨pB, 4, none⟩), .int .i64 N, .pointer (some ⟨pB, 5, none⟩), s28, s29, s30, s31, s32], defers := [] }) W := by
    intro li hli
    subst hli
    refine wpAnyIn_ready (rs := [1, 9]) (by kernel_rfl) (by simp) ?_
    refine AllReadyIn.cons rfl (fun K hK => ?_) ?_
    · go_simp
      refine hK _ _ ?_
      exact s_1210 _ (by kernel_rfl)
    refine AllReadyIn.cons rfl (fun K hK => ?_) ?_
    · go_simp
      refine hK _ _ ?_
      refine wpAnyIn_take (i := 10) (v := .slice sp D sc) rfl rfl (by kernel_rfl) (by kernel_rfl) (by kernel_rfl) (fun _ _ _ h => hP _ _ _ _ _ h) ⟨Or.inl ⟨by rfl, fun w => by go_simp⟩, fun _ => rfl⟩ ?_
      exact t_0 _ (by kernel_rfl)
    exact AllReadyIn.nil
  have s_1011 : ∀ li : Array Bool, li = #[true, true, false, false, false, false, true, true, true, true, false, false, false, false] → wpAnyIn Fence.wide 2 Tryd.prog .any bops Q 8 li ({ tmps := #[.func (.yield l) #[] #[], s1, s2, s3, .pointer (some ⟨tB, 0, none⟩), .pointer (some ⟨pB, 0, none⟩), s6, s7, s8, s9, s10, s11, s12, s13, s14, s15, s16, s17, s18, .func (.yield l) #[] #[], .agg #[.int .i64 kk, .bool f, .int .i64 p, .int .i64 q, .int .i64 N, .int .i64 M], s21, s22, s23, s24, .pointer (some ⟨pB, 4, none⟩), .int .i64 N, .pointer (some ⟨pB, 5, none⟩), .int .i64 M, s29, s30, s31, s32], defers := [] }) W := by
    intro li hli
    subst hli
    refine wpAnyIn_ready (rs := [2]) (by kernel_rfl) (by simp) ?_
    refine AllReadyIn.cons rfl (fun K hK => ?_) ?_
    · go_simp
      refine hK _ _ ?_
      refine wpAnyIn_take (i := 3) (v := .pointer (some ⟨g, 0, none⟩)) rfl rfl (by kernel_rfl) (by kernel_rfl) (by kernel_rfl) (fun _ _ _ h => hP _ _ _ _ _ h) ⟨Or.inl ⟨by rfl, fun w => by go_simp⟩, fun _ => rfl⟩ ?_
      refine wpAnyIn_take (i := 4) (v := .pointer (some ⟨g, 1, none⟩)) rfl rfl (by kernel_rfl) (by kernel_rfl) (by kernel_rfl) (fun _ _ _ h => hP _ _ _ _ _ h) ⟨Or.inl ⟨by rfl, fun w => by go_simp⟩, fun _ => rfl⟩ ?_
      exact s_1111 _ (by kernel_rfl)
    exact AllReadyIn.nil
  have s_1101 : ∀ li : Array Bool, li = #[true, true, true, true, true, false, true, false, true, true, false, false, false, false] → wpAnyIn Fence.wide 2 Tryd.prog .any bops Q 6 li ({ tmps := #[.func (.yield l) #[] #[], s1, s2, s3, .pointer (some ⟨tB, 0, none⟩), .pointer (some ⟨pB, 0, none⟩), s6, s7, s8, s9, s10, s11, s12, s13, s14, s15, s16, s17, s18, .func (.yield l) #[] #[], .agg #[.int .i64 kk, .bool f, .int .i64 p, .int .i64 q, .int .i64 N, .int .i64 M], .pointer (some ⟨g, 0, none⟩), .pointer (some ⟨g, 0, none⟩), .pointer (some ⟨g, 1, none⟩), s24, .pointer (some ⟨pB, 4, none⟩), s26, .pointer (some ⟨pB, 5, none⟩), .int .i64 M, s29, s30, s31, s32], defers := [] }) W := by
    intro li hli
    subst hli
    refine wpAnyIn_ready (rs := [5, 7]) (by kernel_rfl) (by simp) ?_
    refine AllReadyIn.cons rfl (fun K hK => ?_) ?_
    · go_simp
      refine hK _ _ ?_
      exact s_1201 _ (by kernel_rfl)
    refine AllReadyIn.cons rfl (fun K hK => ?_) ?_
    · go_simp
      refine hK _ _ ?_
      exact s_1111 _ (by kernel_rfl)
    exact AllReadyIn.nil
  have s_1110 : ∀ li : Array Bool, li = #[true, true, true, true, true, false, true, true, true, false, false, false, false, false] → wpAnyIn Fence.wide 2 Tryd.prog .any bops Q 6 li ({ tmps := #[.func (.yield l) #[] #[], s1, s2, s3, .pointer (some ⟨tB, 0, none⟩), .pointer (some ⟨pB, 0, none⟩), s6, s7, s8, s9, s10, s11, s12, s13, s14, s15, s16, s17, s18, .func (.yield l) #[] #[], .agg #[.int .i64 kk, .bool f, .int .i64 p, .int .i64 q, .int .i64 N, .int .i64 M], .pointer (some ⟨g, 0, none⟩), .pointer (some ⟨g, 0, none⟩), .pointer (some ⟨g, 1, none⟩), s24, .pointer (some ⟨pB, 4, none⟩), .int .i64 N, .pointer (some ⟨pB, 5, none⟩), s28, s29, s30, s31, s32], defers := [] }) W := by
    intro li hli
    subst hli
    refine wpAnyIn_ready (rs := [5, 9]) (by kernel_rfl) (by simp) ?_
    refine AllReadyIn.cons rfl (fun K hK => ?_) ?_
    · go_simp
      refine hK _ _ ?_
      exact s_1210 _ (by kernel_rfl)
    refine AllReadyIn.cons rfl (fun K hK => ?_) ?_
    · go_simp
      refine hK _ _ ?_
      exact s_1111 _ (by kernel_rfl)
    exact AllReadyIn.nil
  have s_1200 : ∀ li : Array Bool, li = #[true, true, true, true, true, true, true, false, true, false, false, false, false, false] → wpAnyIn Fence.wide 2 Tryd.prog .any bops Q 6 li ({ tmps := #[.func (.yield l) #[] #[], s1, s2, s3, .pointer (some ⟨tB, 0, none⟩), .pointer (some ⟨pB, 0, none⟩), s6, s7, s8, s9, s10, s11, s12, s13, s14, s15, s16, s17, s18, .func (.yield l) #[] #[], .agg #[.int .i64 kk, .bool f, .int .i64 p, .int .i64 q, .int .i64 N, .int .i64 M], .pointer (some ⟨g, 0, none⟩), .pointer (some ⟨g, 0, none⟩), .pointer (some ⟨g, 1, none⟩), .slice ao M cc, .pointer (some ⟨pB, 4, none⟩), s26, .pointer (some ⟨pB, 5, none⟩), s28, s29, s30, s31, s32], defers := [] }) W := by
    intro li hli
    subst hli
    refine wpAnyIn_ready (rs := [7, 9]) (by kernel_rfl) (by simp) ?_
    refine AllReadyIn.cons rfl (fun K hK => ?_) ?_
    · go_simp
      refine hK _ _ ?_
      exact s_1210 _ (by kernel_rfl)
    refine AllReadyIn.cons rfl (fun K hK => ?_) ?_
    · go_simp
      refine hK _ _ ?_
      exact s_1201 _ (by kernel_rfl)
    exact AllReadyIn.nil
  have s_0011 : ∀ li : Array Bool, li = #[true, false, false, false, false, false, true, true, true, true, false, false, false, false] → wpAnyIn Fence.wide 2 Tryd.prog .any bops Q 9 li ({ tmps := #[.func (.yield l) #[] #[], s1, s2, s3, .pointer (some ⟨tB, 0, none⟩), .pointer (some ⟨pB, 0, none⟩), s6, s7, s8, s9, s10, s11, s12, s13, s14, s15, s16, s17, s18, .func (.yield l) #[] #[], s20, s21, s22, s23, s24, .pointer (some ⟨pB, 4, none⟩), .int .i64 N, .pointer (some ⟨pB, 5, none⟩), .int .i64 M, s29, s30, s31, s32], defers := [] }) W := by
    intro li hli
    subst hli
    refine wpAnyIn_ready (rs := [1, 2]) (by kernel_rfl) (by simp) ?_
    refine AllReadyIn.cons rfl (fun K hK => ?_) ?_
    · go_simp
      refine hK _ _ ?_
      exact s_1011 _ (by kernel_rfl)
    refine AllReadyIn.cons rfl (fun K hK => ?_) ?_
    · go_simp
      refine hK _ _ ?_
      refine wpAnyIn_take (i := 3) (v := .pointer (some ⟨g, 0, none⟩)) rfl rfl (by kernel_rfl) (by kernel_rfl) (by kernel_rfl) (fun _ _ _ h => hP _ _ _ _ _ h) ⟨Or.inl ⟨by rfl, fun w => by go_simp⟩, fun _ => rfl⟩ ?_
      refine wpAnyIn_take (i := 4) (v := .pointer (some ⟨g, 1, none⟩)) rfl rfl (by kernel_rfl) (by kernel_rfl) (by kernel_rfl) (fun _ _ _ h => hP _ _ _ _ _ h) ⟨Or.inl ⟨by rfl, fun w => by go_simp⟩, fun _ => rfl⟩ ?_
      exact s_0111 _ (by kernel_rfl)
    exact AllReadyIn.nil
  have s_0101 : ∀ li : Array Bool, li = #[true, false, true, true, true, false, true, false, true, true, false, false, false, false] → wpAnyIn Fence.wide 2 Tryd.prog .any bops Q 7 li ({ tmps := #[.func (.yield l) #[] #[], s1, s2, s3, .pointer (some ⟨tB, 0, none⟩), .pointer (some ⟨pB, 0, none⟩), s6, s7, s8, s9, s10, s11, s12, s13, s14, s15, s16, s17, s18, .func (.yield l) #[] #[], s20, .pointer (some ⟨g, 0, none⟩), .pointer (some ⟨g, 0, none⟩), .pointer (some ⟨g, 1, none⟩), s24, .pointer (some ⟨pB, 4, none⟩), s26, .pointer (some ⟨pB, 5, none⟩), .int .i64 M, s29, s30, s31, s32], defers := [] }) W := by
    intro li hli
    subst hli
    refine wpAnyIn_ready (rs := [1, 5, 7]) (by kernel_rfl) (by simp) ?_
    refine AllReadyIn.cons rfl (fun K hK => ?_) ?_
    · go_simp
      refine hK _ _ ?_
      exact s_1101 _ (by kernel_rfl)
    refine AllReadyIn.cons rfl (fun K hK => ?_) ?_
    · go_simp
      refine hK _ _ ?_
      exact s_0201 _ (by kernel_rfl)
    refine AllReadyIn.cons rfl (fun K hK => ?_) ?_
    · go_simp
      refine hK _ _ ?_
      exact s_0111 _ (by kernel_rfl)
    exact AllReadyIn.nil
  have s_0110 : ∀ li : Array Bool, li = #[true, false, true, true, true, false, true, true, true, false, false, false, false, false] → wpAnyIn Fence.wide 2 Tryd.prog .any bops Q 7 li ({ tmps := #[.func (.yield l) #[] #[], s1, s2, s3, .pointer (some ⟨tB, 0, none⟩), .pointer (some ⟨pB, 0, none⟩), s6, s7, s8, s9, s10, s11, s12, s13, s14, s15, s16, s17, s18, .func (.yield l) #[] #[], s20, .pointer (some ⟨g, 0, none⟩), .pointer (some ⟨g, 0, none⟩), .pointer (some ⟨g, 1, none⟩), s24, .pointer (some ⟨pB, 4, none⟩), .int .i64 N, .pointer (some ⟨pB, 5, none⟩), s28, s29, s30, s31, s32], defers := [] }) W := by
    intro li hli
    subst hli
    refine wpAnyIn_ready (rs := [1, 5, 9]) (by kernel_rfl) (by simp) ?_
    refine AllReadyIn.cons rfl (fun K hK => ?_) ?_
    · go_simp
      refine hK _ _ ?_
      exact s_1110 _ (by kernel_rfl)
    refine AllReadyIn.cons rfl (fun K hK => ?_) ?_
    · go_simp
      refine hK _ _ ?_
      exact s_0210 _ (by kernel_rfl)
    refine AllReadyIn.cons rfl (fun K hK => ?_) ?_
    · go_simp
      refine hK _ _ ?_
      exact s_0111 _ (by kernel_rfl)
    exact AllReadyIn.nil
  have s_0200 : ∀ li : Array Bool, li = #[true, false, true, true, true, true, true, false, true, false, false, false, false, false] → wpAnyIn Fence.wide 2 Tryd.prog .any bops Q 7 li ({ tmps := #[.func (.yield l) #[] #[], s1, s2, s3, .pointer (some ⟨tB, 0, none⟩), .pointer (some ⟨pB, 0, none⟩), s6, s7, s8, s9, s10, s11, s12, s13, s14, s15, s16, s17, s18, .func (.yield l) #[] #[], s20, .pointer (some ⟨g, 0, none⟩), .pointer (some ⟨g, 0, none⟩), .pointer (some ⟨g, 1, none⟩), .slice ao M cc, .pointer (some ⟨pB, 4, none⟩), s26, .pointer (some ⟨pB, 5, none⟩), s28, s29, s30, s31, s32], defers := [] }) W := by
    intro li hli
    subst hli
    refine wpAnyIn_ready (rs := [1, 7, 9]) (by kernel_rfl) (by simp) ?_
    refine AllReadyIn.cons rfl (fun K hK => ?_) ?_
    · go_simp
      refine hK _ _ ?_
      exact s_1200 _ (by kernel_rfl)
    refine AllReadyIn.cons rfl (fun K hK => ?_) ?_
    · go_simp
      refine hK _ _ ?_
      exact s_0210 _ (by kernel_rfl)
    refine AllReadyIn.cons rfl (fun K hK => ?_) ?_
    · go_simp
      refine hK _ _ ?_
      exact s_0201 _ (by kernel_rfl)
    exact AllReadyIn.nil
  have s_1001 : ∀ li : Array Bool, li = #[true, true, false, false, false, false, true, false, true, true, false, false, false, false] → wpAnyIn Fence.wide 2 Tryd.prog .any bops Q 9 li ({ tmps := #[.func (.yield l) #[] #[], s1, s2, s3, .pointer (some ⟨tB, 0, none⟩), .pointer (some ⟨pB, 0, none⟩), s6, s7, s8, s9, s10, s11, s12, s13, s14, s15, s16, s17, s18, .func (.yield l) #[] #[], .agg #[.int .i64 kk, .bool f, .int .i64 p, .int .i64 q, .int .i64 N, .int .i64 M], s21, s22, s23, s24, .pointer (some ⟨pB, 4, none⟩), s26, .pointer (some ⟨pB, 5, none⟩), .int .i64 M, s29, s30, s31, s32], defers := [] }) W := by
    intro li hli
    subst hli
    refine wpAnyIn_ready (rs := [2, 7]) (by kernel_rfl) (by simp) ?_
    refine AllReadyIn.cons rfl (fun K hK => ?_) ?_
    · go_simp
      refine hK _ _ ?_
      refine wpAnyIn_take (i := 3) (v := .pointer (some ⟨g, 0, none⟩)) rfl rfl (by kernel_rfl) (by kernel_rfl) (by kernel_rfl) (fun _ _ _ h => hP _ _ _ _ _ h) ⟨Or.inl ⟨by rfl, fun w => by go_simp⟩, fun _ => rfl⟩ ?_
      refine wpAnyIn_take (i := 4) (v := .pointer (some ⟨g, 1, none⟩)) rfl rfl (by kernel_rfl) (by kernel_rfl) (by kernel_rfl) (fun _ _ _ h => hP _ _ _ _ _ h) ⟨Or.inl ⟨by rfl, fun w => by go_simp⟩, fun _ => rfl⟩ ?_
      exact s_1101 _ (by kernel_rfl)
    refine AllReadyIn.cons rfl (fun K hK => ?_) ?_
    · go_simp
      refine hK _ _ ?_
      exact s_1011 _ (by kernel_rfl)
    exact AllReadyIn.nil
  have s_1010 : ∀ li : Array Bool, li = #[true, true, false, false, false, false, true, true, true, false, false, false, false, false] → wpAnyIn Fence.wide 2 Tryd.prog .any bops Q 9 li ({ tmps := #[.func (.yield l) #[] #[], s1, s2, s3, .pointer (some ⟨tB, 0, none⟩), .pointer (some ⟨pB, 0, none⟩), s6, s7, s8, s9, s10, s11, s12, s13, s14, s15, s16, s17, s18, .func (.yield l) #[] #[], .agg #[.int .i64 kk, .bool f, .int .i64 p, .int .i64 q, .int .i64 N, .int .i64 M], s21, s22, s23, s24, .pointer (some ⟨pB, 4, none⟩), .int .i64 N, .pointer (some ⟨pB, 5, none⟩), s28, s29, s30, s31, s32], defers := [] }) W := by
    intro li hli
    subst hli
    refine wpAnyIn_ready (rs := [2, 9]) (by kernel_rfl) (by simp) ?_
    refine AllReadyIn.cons rfl (fun K hK => ?_) ?_
    · go_simp
      refine hK _ _ ?_
      refine wpAnyIn_take (i := 3) (v := .pointer (some ⟨g, 0, none⟩)) rfl rfl (by kernel_rfl) (by kernel_rfl) (by kernel_rfl) (fun _ _ _ h => hP _ _ _ _ _ h) ⟨Or.inl ⟨by rfl, fun w => by go_simp⟩, fun _ => rfl⟩ ?_
      refine wpAnyIn_take (i := 4) (v := .pointer (some ⟨g, 1, none⟩)) rfl rfl (by kernel_rfl) (by kernel_rfl) (by kernel_rfl) (fun _ _ _ h => hP _ _ _ _ _ h) ⟨Or.inl ⟨by rfl, fun w => by go_simp⟩, fun _ => rfl⟩ ?_
      exact s_1110 _ (by kernel_rfl)
    refine AllReadyIn.cons rfl (fun K hK => ?_) ?_
    · go_simp
      refine hK _ _ ?_
      exact s_1011 _ (by kernel_rfl)
    exact AllReadyIn.nil
  have s_1100 : ∀ li : Array Bool, li = #[true, true, true, true, true, false, true, false, true, false, false, false, false, false] → wpAnyIn Fence.wide 2 Tryd.prog .any bops Q 7 li ({ tmps := #[.func (.yield l) #[] #[], s1, s2, s3, .pointer (some ⟨tB, 0, none⟩), .pointer (some ⟨pB, 0, none⟩), s6, s7, s8, s9, s10, s11, s12, s13, s14, s15, s16, s17, s18, .func (.yield l) #[] #[], .agg #[.int .i64 kk, .bool f, .int .i64 p, .int .i64 q, .int .i64 N, .int .i64 M], .pointer (some ⟨g, 0, none⟩), .pointer (some ⟨g, 0, none⟩), .pointer (some ⟨g, 1, none⟩), s24, .pointer (some ⟨pB, 4, none⟩), s26, .pointer (some ⟨pB, 5, none⟩), s28, s29, s30, s31, s32], defers := [] }) W := by
    intro li hli
    subst hli
    refine wpAnyIn_ready (rs := [5, 7, 9]) (by kernel_rfl) (by simp) ?_
    refine AllReadyIn.cons rfl (fun K hK => ?_) ?_
    · go_simp
      refine hK _ _ ?_
      exact s_1200 _ (by kernel_rfl)
    refine AllReadyIn.cons rfl (fun K hK => ?_) ?_
    · go_simp
      refine hK _ _ ?_
      exact s_1110 _ (by kernel_rfl)
    refine AllReadyIn.cons rfl (fun K hK => ?_) ?_
    · go_simp
      refine hK _ _ ?_
      exact s_1101 _ (by kernel_rfl)
    exact AllReadyIn.nil
  have s_0001 : ∀ li : Array Bool, li = #[true, false, false, false, false, false, true, false, true, true, false, false, false, false] → wpAnyIn Fence.wide 2 Tryd.prog .any bops Q 10 li ({ tmps := #[.func (.yield l) #[] #[], s1, s2, s3, .pointer (some ⟨tB, 0, none⟩), .pointer (some ⟨pB, 0, none⟩), s6, s7, s8, s9, s10, s11, s12, s13, s14, s15, s16, s17, s18, .func (.yield l) #[] #[], s20, s21, s22, s23, s24, .pointer (some ⟨pB, 4, none⟩), s26, .pointer (some ⟨pB, 5, none⟩), .int .i64 M, s29, s30, s31, s32], defers := [] }) W := by
    intro li hli
    subst hli
    refine wpAnyIn_ready (rs := [1, 2, 7]) (by kernel_rfl) (by simp) ?_
    refine AllReadyIn.cons rfl (fun K hK => ?_) ?_
    · go_simp
      refine hK _ _ ?_
      exact s_1001 _ (by kernel_rfl)
    refine AllReadyIn.cons rfl (fun K hK => ?_) ?_
    · go_simp
      refine hK _ _ ?_
      refine wpAnyIn_take (i := 3) (v := .pointer (some ⟨g, 0, none⟩)) rfl rfl (by kernel_rfl) (by kernel_rfl) (by kernel_rfl) (fun _ _ _ h => hP _ _ _ _ _ h) ⟨Or.inl ⟨by rfl, fun w => by go_simp⟩, fun _ => rfl⟩ ?_
      refine wpAnyIn_take (i := 4) (v := .pointer (some ⟨g, 1, none⟩)) rfl rfl (by kernel_rfl) (by kernel_rfl) (by kernel_rfl) (fun _ _ _ h => hP _ _ _ _ _ h) ⟨Or.inl ⟨by rfl, fun w => by go_simp⟩, fun _ => rfl⟩ ?_
      exact s_0101 _ (by kernel_rfl)
    refine AllReadyIn.cons rfl (fun K hK => ?_) ?_
    · go_simp
      refine hK _ _ ?_
      exact s_0011 _ (by kernel_rfl)
    exact AllReadyIn.nil
  have s_0010 : ∀ li : Array Bool, li = #[true, false, false, false, false, false, true, true, true, false, false, false, false, false] → wpAnyIn Fence.wide 2 Tryd.prog .any bops Q 10 li ({ tmps := #[.func (.yield l) #[] #[], s1, s2, s3, .pointer (some ⟨tB, 0, none⟩), .pointer (some ⟨pB, 0, none⟩), s6, s7, s8, s9, s10, s11, s12, s13, s14, s15, s16, s17, s18, .func (.yield l) #[] #[], s20, s21, s22, s23, s24, .pointer (some ⟨pB, 4, none⟩), .int .i64 N, .pointer (some ⟨pB, 5, none⟩), s28, s29, s30, s31, s32], defers := [] }) W := by
    intro li hli
    subst hli
    refine wpAnyIn_ready (rs := [1, 2, 9]) (by kernel_rfl) (by simp) ?_
    refine AllReadyIn.cons rfl (fun K hK => ?_) ?_
    · go_simp
      refine hK _ _ ?_
      exact s_1010 _ (by kernel_rfl)
    refine AllReadyIn.cons rfl (fun K hK => ?_) ?_
    · go_simp
      refine hK _ _ ?_
      refine wpAnyIn_take (i := 3) (v := .pointer (some ⟨g, 0, none⟩)) rfl rfl (by kernel_rfl) (by kernel_rfl) (by kernel_rfl) (fun _ _ _ h => hP _ _ _ _ _ h) ⟨Or.inl ⟨by rfl, fun w => by go_simp⟩, fun _ => rfl⟩ ?_
      refine wpAnyIn_take (i := 4) (v := .pointer (some ⟨g, 1, none⟩)) rfl rfl (by kernel_rfl) (by kernel_rfl) (by kernel_rfl) (fun _ _ _ h => hP _ _ _ _ _ h) ⟨Or.inl ⟨by rfl, fun w => by go_simp⟩, fun _ => rfl⟩ ?_
      exact s_0110 _ (by kernel_rfl)
    refine AllReadyIn.cons rfl (fun K hK => ?_) ?_
    · go_simp
      refine hK _ _ ?_
      exact s_0011 _ (by kernel_rfl)
    exact AllReadyIn.nil
  have s_0100 : ∀ li : Array Bool, li = #[true, false, true, true, true, false, true, false, true, false, false, false, false, false] → wpAnyIn Fence.wide 2 Tryd.prog .any bops Q 8 li ({ tmps := #[.func (.yield l) #[] #[], s1, s2, s3, .pointer (some ⟨tB, 0, none⟩), .pointer (some ⟨pB, 0, none⟩), s6, s7, s8, s9, s10, s11, s12, s13, s14, s15, s16, s17, s18, .func (.yield l) #[] #[], s20, .pointer (some ⟨g, 0, none⟩), .pointer (some ⟨g, 0, none⟩), .pointer (some ⟨g, 1, none⟩), s24, .pointer (some ⟨pB, 4, none⟩), s26, .pointer (some ⟨pB, 5, none⟩), s28, s29, s30, s31, s32], defers := [] }) W := by
    intro li hli
    subst hli
    refine wpAnyIn_ready (rs := [1, 5, 7, 9]) (by kernel_rfl) (by simp) ?_
    refine AllReadyIn.cons rfl (fun K hK => ?_) ?_
    · go_simp
      refine hK _ _ ?_
      exact s_1100 _ (by kernel_rfl)
    refine AllReadyIn.cons rfl (fun K hK => ?_) ?_
    · go_simp
      refine hK _ _ ?_
      exact s_0200 _ (by kernel_rfl)
    refine AllReadyIn.cons rfl (fun K hK => ?_) ?_
    · go_simp
      refine hK _ _ ?_
      exact s_0110 _ (by kernel_rfl)
    refine AllReadyIn.cons rfl (fun K hK => ?_) ?_
    · go_simp
      refine hK _ _ ?_
      exact s_0101 _ (by kernel_rfl)
    exact AllReadyIn.nil
  have s_1000 : ∀ li : Array Bool, li = #[true, true, false, false, false, false, true, false, true, false, false, false, false, false] → wpAnyIn Fence.wide 2 Tryd.prog .any bops Q 10 li ({ tmps := #[.func (.yield l) #[] #[], s1, s2, s3, .pointer (some ⟨tB, 0, none⟩), .pointer (some ⟨pB, 0, none⟩), s6, s7, s8, s9, s10, s11, s12, s13, s14, s15, s16, s17, s18, .func (.yield l) #[] #[], .agg #[.int .i64 kk, .bool f, .int .i64 p, .int .i64 q, .int .i64 N, .int .i64 M], s21, s22, s23, s24, .pointer (some ⟨pB, 4, none⟩), s26, .pointer (some ⟨pB, 5, none⟩), s28, s29, s30, s31, s32], defers := [] }) W := by
    intro li hli
    subst hli
    refine wpAnyIn_ready (rs := [2, 7, 9]) (by kernel_rfl) (by simp) ?_
    refine AllReadyIn.cons rfl (fun K hK => ?_) ?_
    · go_simp
      refine hK _ _ ?_
      refine wpAnyIn_take (i := 3) (v := .pointer (some ⟨g, 0, none⟩)) rfl rfl (by kernel_rfl) (by kernel_rfl) (by kernel_rfl) (fun _ _ _ h => hP _ _ _ _ _ h) ⟨Or.inl ⟨by rfl, fun w => by go_simp⟩, fun _ => rfl⟩ ?_
      refine wpAnyIn_take (i := 4) (v := .pointer (some ⟨g, 1, none⟩)) rfl rfl (by kernel_rfl) (by kernel_rfl) (by kernel_rfl) (fun _ _ _ h => hP _ _ _ _ _ h) ⟨Or.inl ⟨by rfl, fun w => by go_simp⟩, fun _ => rfl⟩ ?_
      exact s_1100 _ (by kernel_rfl)
    refine AllReadyIn.cons rfl (fun K hK => ?_) ?_
    · go_simp
      refine hK _ _ ?_
      exact s_1010 _ (by kernel_rfl)
    refine AllReadyIn.cons rfl (fun K hK => ?_) ?_
    · go_simp
      refine hK _ _ ?_
      exact s_1001 _ (by kernel_rfl)
    exact AllReadyIn.nil
  have s_0000 : ∀ li : Array Bool, li = #[true, false, false, false, false, false, true, false, true, false, false, false, false, false] → wpAnyIn Fence.wide 2 Tryd.prog .any bops Q 11 li ({ tmps := #[.func (.yield l) #[] #[], s1, s2, s3, .pointer (some ⟨tB, 0, none⟩), .pointer (some ⟨pB, 0, none⟩), s6, s7, s8, s9, s10, s11, s12, s13, s14, s15, s16, s17, s18, .func (.yield l) #[] #[], s20, s21, s22, s23, s24, .pointer (some ⟨pB, 4, none⟩), s26, .pointer (some ⟨pB, 5, none⟩), s28, s29, s30, s31, s32], defers := [] }) W := by
    intro li hli
    subst hli
    refine wpAnyIn_ready (rs := [1, 2, 7, 9]) (by kernel_rfl) (by simp) ?_
    refine AllReadyIn.cons rfl (fun K hK => ?_) ?_
    · go_simp
      refine hK _ _ ?_
      exact s_1000 _ (by kernel_rfl)
    refine AllReadyIn.cons rfl (fun K hK => ?_) ?_
    · go_simp
      refine hK _ _ ?_
      refine wpAnyIn_take (i := 3) (v := .pointer (some ⟨g, 0, none⟩)) rfl rfl (by kernel_rfl) (by kernel_rfl) (by kernel_rfl) (fun _ _ _ h => hP _ _ _ _ _ h) ⟨Or.inl ⟨by rfl, fun w => by go_simp⟩, fun _ => rfl⟩ ?_
      refine wpAnyIn_take (i := 4) (v := .pointer (some ⟨g, 1, none⟩)) rfl rfl (by kernel_rfl) (by kernel_rfl) (by kernel_rfl) (fun _ _ _ h => hP _ _ _ _ _ h) ⟨Or.inl ⟨by rfl, fun w => by go_simp⟩, fun _ => rfl⟩ ?_
      exact s_0100 _ (by kernel_rfl)
    refine AllReadyIn.cons rfl (fun K hK => ?_) ?_
    · go_simp
      refine hK _ _ ?_
      exact s_0010 _ (by kernel_rfl)
    refine AllReadyIn.cons rfl (fun K hK => ?_) ?_
    · go_simp
      refine hK _ _ ?_
      exact s_0001 _ (by kernel_rfl)
    exact AllReadyIn.nil
  refine wpIn_region_any (by kernel_rfl) ?_
  change wpAnyIn _ _ _ _ _ _ _ _ _ (World.drew _)
  rw [← HW.out]
  refine wpAnyIn_take (i := 0) (v := .func (.yield l) #[] #[]) rfl rfl (by kernel_rfl) (by kernel_rfl) (by kernel_rfl) (fun _ _ _ h => hP _ _ _ _ _ h) ⟨Or.inl ⟨by rfl, fun w => by go_simp⟩, fun _ => rfl⟩ ?_
  refine wpAnyIn_take (i := 6) (v := .pointer (some ⟨pB, 4, none⟩)) rfl rfl (by kernel_rfl) (by kernel_rfl) (by kernel_rfl) (fun _ _ _ h => hP _ _ _ _ _ h) ⟨Or.inl ⟨by rfl, fun w => by go_simp⟩, fun _ => rfl⟩ ?_
  refine wpAnyIn_take (i := 8) (v := .pointer (some ⟨pB, 5, none⟩)) rfl rfl (by kernel_rfl) (by kernel_rfl) (by kernel_rfl) (fun _ _ _ h => hP _ _ _ _ _ h) ⟨Or.inl ⟨by rfl, fun w => by go_simp⟩, fun _ => rfl⟩ ?_
  exact s_0000 _ (by kernel_rfl)
end Go.Proofs.YtippppcdongahaaDoor

