import Derived.Test.YtjmjjjpanioifaaGFen
import Derived.Deep.WholeRow
import Derived.BigRegion
namespace Go.Proofs.Ytjmjjjpanioifaa
open Go.RowKit Go.Maps
set_option maxRecDepth 20000
set_option linter.unusedVariables false
set_option linter.unusedSimpArgs false

theorem rsE (l : Enr) : l.cs.size = 7 := rfl

theorem roE (l : Enr) : l.cs.all (·.oneCell') = true := by simp [Enr.cs, Value.oneCell']

theorem rzE : (Try.prog.info? 68).map (·.size) = some 7 := by kernel_rfl

theorem wpList_stE {ops : Array Oper} {rest : List Oper} {a : Act} {w : World} {Q : Exit → Act → World → Prop} {dst : Option Tmp} {x y : Operand} {ty : TypeId} {pos : String} {after : Array Edge} (g : Nat) (A B : Array Value) (hs : A.size = 7) (hb : B.size = 7) (h1 : A.all (·.oneCell') = true)
    (hx : a.eval x = .pointer (some ⟨g, 0, none⟩)) (hy : a.eval y = .agg A) (hg : w.heap[g]? = some (.cells B 68 (0, 0))) (h : wpList Try.prog ops Q rest (a.put dst undef) (w.setRow g A)) :
    wpList Try.prog ops Q ({ dst := dst, op := .store 68 x y, type := ty, pos := pos, after := after, guard := none } :: rest) a w :=
  wpList_store_row rfl 68 x y rfl g A hx hy 68 B hg (by rw [hs]; exact rzE) (by rw [hs, hb]) h1 h

set_option maxHeartbeats 4000000 in
theorem endsFile_any (v : Value) (d : List Int) (p : Nat) (w : World) (h : SB w v d) (hB : Byt d) (hd : d.length ≤ 16777216) (hp : p + 22 ≤ d.length) :
    Calls Try.prog 31 #[v, .int .i64 (p : Int)] w fun e w' => e = .returned (.bool (decide (okEnd d p))) ∧ Below w.heap.size w w' := by
  have HS := hide h
  obtain ⟨ao, cap, rfl, q1, q2, q3⟩ := h.open11
  obtain ⟨b, o, rfl⟩ := q3 (by omega)
  have HC0 : Hid (w.cell? ⟨b, o + (p + 20), none⟩ = some (.int .u8 (d.getD (p + 20) 0))) := by
    obtain ⟨b', o', he, hc⟩ := h.byte (Below.refl _ _) (show p + 20 < d.length by omega)
    cases he
    exact hc
  have HC1 : Hid (w.cell? ⟨b, o + (p + 21), none⟩ = some (.int .u8 (d.getD (p + 21) 0))) := by
    obtain ⟨b', o', he, hc⟩ := h.byte (Below.refl _ _) (show p + 21 < d.length by omega)
    cases he
    exact hc
  have b0 := hB (p + 20)
  have b1 := hB (p + 21)
  have HF : Hid (fld d (p + 20) 2 = d.getD (p + 20) 0 + 256 * d.getD (p + 21) 0) := fld_two (by omega)
  obtain ⟨x, hx⟩ : ∃ x, x = d.getD (p + 20) 0 := ⟨_, rfl⟩
  obtain ⟨y, hy⟩ : ∃ y, y = d.getD (p + 21) 0 := ⟨_, rfl⟩
  rw [← hx] at b0 HC0 HF
  rw [← hy] at b1 HC1 HF
  obtain ⟨i, hi⟩ : ∃ i, i = p + 20 := ⟨_, rfl⟩
  obtain ⟨j, hj⟩ : ∃ j, j = p + 21 := ⟨_, rfl⟩
  rw [← hi] at HC0
  rw [← hj] at HC1
  have c0 := HC0.out
  have c1 := HC1.out
  have ei : (p : Int) + 22 - 2 = (i : Int) := by omega
  have ej : (p : Int) + 22 - 1 = (j : Int) := by omega
  have ei2 : (p : Int) + 20 = (i : Int) := by omega
  have ej2 : (p : Int) + 21 = (j : Int) := by omega
  have il : (i : Int) < (d.length : Int) := by omega
  have jl : (j : Int) < (d.length : Int) := by omega
  have hor : bits .or .i64 x (y * 256) = x + 256 * y := by
    have := or_put (V := x) (c := y) 1 (by omega) (by omega) (by omega) (by omega) (by omega)
    rw [show (256 : Int) ^ 1 = 256 from rfl] at this
    rw [Int.mul_comm y 256]
    exact this
  obtain ⟨M, hM⟩ : ∃ M, M = x + 256 * y := ⟨_, rfl⟩
  rw [← hM] at HF hor
  have m0 : 0 ≤ M := by omega
  have m1 : M ≤ 65535 := by omega
  have HBy := hide hB
  have HP := hide hp
  clear h q3 hx hy hi hj HC0 HC1 hM hB
  by_cases hm : (p : Int) + 22 + M = (d.length : Int)
  case neg =>
    have hm' : ((p : Int) + 22 + M != (d.length : Int)) = true := by simpa using hm
    have HN : Hid (¬ okEnd d p) := fun hk => hm (by rw [← HF.out]; exact (okEnd_at hk).2.2.1)
    clear hm
    go_enter Try.func31, Try.ntmps31
    go_wp2
    go_region
    all_goals (
      go_wp2
      go_ret
      exact ⟨by rw [decide_eq_false HN.out]; rfl, (Below.refl _ _).drew⟩)
  case pos =>
    have hm' : ((p : Int) + 22 + M != (d.length : Int)) = false := by simpa using hm
    have HM := hide hm
    clear hm
    obtain ⟨GE, hGE⟩ : ∃ G, G = enE d p := ⟨_, rfl⟩
    have HGE := hide hGE
    obtain ⟨GP, hGP⟩ : ∃ G, G = enP d p := ⟨_, rfl⟩
    have HGP := hide hGP
    obtain ⟨A, hA⟩ : ∃ A, A = (enA d p).cs := ⟨_, rfl⟩
    have HAV : Hid ((enA d p).v = .agg A) := by show _ = _; rw [hA]; rfl
    have HSA : Hid (A.size = 7) := by rw [hA]; exact rsE _
    have HOA : Hid (A.all (·.oneCell') = true) := by rw [hA]; exact roE _
    have HR : Hid (decide (GE = 0) = decide (okEnd d p)) := by
      show _ = _
      by_cases hg : GE = 0
      · rw [decide_eq_true hg, decide_eq_true (okEnd_of (by rw [← HGE.out]; exact hg) (by rw [HF.out]; exact HM.out))]
      · rw [decide_eq_false hg, decide_eq_false (fun hk => hg (by rw [HGE.out]; exact hk.1))]
    clear hGE hGP hA
    go_enter Try.func31, Try.ntmps31
    go_wp2
    go_region
    all_goals (
      go_wp2_with fail
      refine (getEnd_any _ d (p : Int) _ (SB.below HS.out (Below.refl _ _).drew) HBy.out (by unfold Ok64; omega) (by omega)).mono ?_
      rintro e w1 ⟨rfl, hb⟩
      rw [HAV.out, ← HGE.out, ← HGP.out]
      have HB1 : Hid (Below w.heap.size w w1) := (Below.refl _ _).drew.trans hb
      have HZ : Hid ((w1.alloc (.cells #[.int .i64 0, .int .i64 0, .int .i64 0, .int .i64 0, .int .i64 0, .int .i64 0, .string ⟨#[]⟩] 68)).heap[w1.heap.size]? = some (.cells #[.int .i64 0, .int .i64 0, .int .i64 0, .int .i64 0, .int .i64 0, .int .i64 0, .string ⟨#[]⟩] 68 (0, 0))) := heap_alloc_new _ _
      clear hb
      go_wp2_with ((with_reducible refine wpList_stE w1.heap.size A #[.int .i64 0, .int .i64 0, .int .i64 0, .int .i64 0, .int .i64 0, .int .i64 0, .string ⟨#[]⟩] HSA.out rfl HOA.out ?hx ?hy HZ.out ?_); (case hx => rfl); (case hy => rfl); rw [World.setRow_alloc_new])
      go_ret
      exact ⟨by rw [← HR.out]; first | rfl | simp, HB1.out.alloc HB1.out.size _⟩)
end Go.Proofs.Ytjmjjjpanioifaa

