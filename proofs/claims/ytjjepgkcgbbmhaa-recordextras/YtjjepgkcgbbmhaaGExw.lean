import Derived.Test.YtjjepgkcgbbmhaaGSpq
import Derived.Test.YtjjepgkcgbbmhaaGSpv
import Derived.Test.YtjjepgkcgbbmhaaGJxq
import Derived.Test.YtjjepgkcgbbmhaaGJxv
import Derived.Test.YtjjepgkcgbbmhaaGAlk
namespace Go.Proofs.Ytjjepgkcgbbmhaa
open Go.RowKit Go.Maps
set_option maxRecDepth 20000
set_option linter.unusedVariables false
set_option linter.unusedSimpArgs false

/-- Two more fields. -/
theorem wpExt2 {w : World} {ops : Array Oper} {rest : List Oper} {o : Oper} {a : Act} {Q : Exit → Act → World → Prop} (hgd : o.guard = none) (s x : Operand)
    (ho : o.op = .call { callee := .builtin .append, args := #[s, x], argTypes := #[34, 34] }) (base : Nat) (v : Value) (R : List Xf) (p1 q1 : Int) (p2 q2 : ByteArray) (hs : a.eval s = v) (hown : OX w base v R)
    (c : Nat) (hx : a.eval x = .slice (some ⟨w.heap.size, 0, none⟩) 2 c) (hn : R.length ≤ 5864062014800) (hbase : base ≤ w.heap.size)
    (h : ∀ v' w', OX w' base v' (R ++ [(p1, p2), (q1, q2)]) → (w.alloc (.cells #[.int .i64 p1, .string p2, .int .i64 q1, .string q2] 36)).grownBy w' v.ownBlock → wpList Try.prog ops Q rest (a.put o.dst v') w') :
    wpList Try.prog ops Q (o :: rest) a (w.alloc (.cells #[.int .i64 p1, .string p2, .int .i64 q1, .string q2] 36)) := by
  obtain ⟨i0, hi0, hz0, hz1, hz2⟩ := info_parts infoX
  refine wpList_append_own_at _ hgd s x 34 ho base 36 i0 _ 2 24 Try.underlying34 hi0 hz0 hz1 hz2 rfl (by omega) v R.length (fx2 R) hs (hown.alloc _) ⟨w.heap.size, 0, none⟩ 2 c [.int .i64 p1, .string p2, .int .i64 q1, .string q2] hx rfl (World.news_of_block (cs := #[.int .i64 p1, .string p2, .int .i64 q1, .string q2]) (t := 36) (fr := (0, 0)) (heap_alloc_new w _))
    (fun u hu => by
      simp only [List.mem_cons, List.not_mem_nil, or_false] at hu
      rcases hu with rfl | rfl | rfl | rfl <;> rfl) (by unfold maxLen; omega) (by omega) (by simp; omega) fun v' w' h1 h2 _ _ => h v' w' ?_ h2
  show World.ownsRow _ _ _ _ _ _ _
  rw [List.length_append, fx2_app]
  exact h1

theorem sr_front {n : Nat} {w : World} {ao : Option Addr} {cap : Nat} {A B : List (Array Value)} (h : SR n w (.slice ao (A ++ B).length cap) (A ++ B)) : SR n w (.slice ao A.length cap) A := by
  obtain ⟨ao', cap', he, h1, h2, h3⟩ := h
  simp only [Value.slice.injEq] at he
  obtain ⟨rfl, -, rfl⟩ := he
  rw [List.length_append] at h1
  refine ⟨ao, cap, rfl, by omega, h2, fun hp => ?_⟩
  obtain ⟨b, o, rfl, hb, hr⟩ := h3 (by rw [List.length_append]; omega)
  refine ⟨b, o, rfl, hb, fun i hi => ?_⟩
  have := hr i (by rw [List.length_append]; omega)
  rwa [show (A ++ B).getD i #[] = A.getD i #[] by simp [List.getD, List.getElem?_append_left hi]] at this

theorem ext_snoc {R : List Xf} {k : Nat} (h : k < R.length) : R.take (k + 1) = R.take k ++ [R.getD k xf0] := by
  rw [List.take_succ_eq_append_getElem h]
  simp [List.getD, h]

set_option maxHeartbeats 8000000 in
theorem extras_walk (s : ByteArray) (v : Value) (R : List Xf) (w : World) (hs : s.size ≤ 140737488351232) (h : SR 2 w v (R.map csX)) (ho : ∀ r ∈ R, Ok64 r.1 ∧ r.2.size ≤ 9223372036854775807) (hn : R.length ≤ 5864062014700) :
    Calls Try.prog 6 #[.string s, v] w fun e w' => e = .returned (.bool true) ∧ Below w.heap.size w w' := by
  have HL := hide h
  have HO := hide ho
  have HS := hide hs
  obtain ⟨ca, ccap, rfl, c1, c2⟩ := h.open
  have elc : (R.map csX).length = R.length := List.length_map ..
  rw [elc] at HL c1 ⊢
  obtain ⟨SL, hSL⟩ : ∃ x, x = (spA (strL s)).1 := ⟨_, rfl⟩
  obtain ⟨SE, hSE⟩ : ∃ x, x = (spA (strL s)).2 := ⟨_, rfl⟩
  have HS1 := hide (fun W => splitExtra_any s W HS.out)
  have HS2 := hide (fun W => vsplitExtra_any s W HS.out)
  rw [← hSL, ← hSE] at HS1 HS2
  clear h ho hs elc hSL hSE
  go_enter Try.func6, Try.ntmps6
  go_wp2_with fail
  refine (HS1.out w).mono ?_
  rintro e w1 ⟨a1, p1, rfl, ho1, hb1⟩
  have HO1 := hide ho1
  have HB1 := hide hb1
  clear ho1 hb1
  go_wp2_with fail
  refine (HS2.out w1).mono ?_
  rintro e w2 ⟨a2, p2, rfl, ho2, hb2⟩
  have HB2 := hide (HB1.out.trans (hb2.mono HB1.out.size))
  have HAL := hide (alike_same _ _ SL w2 (HO1.out.sr.low hb2) ho2.sr)
  clear ho2 hb2 HO1 HB1
  go_wp2_with fail
  refine HAL.out.mono ?_
  rintro e w3 ⟨rfl, hb3⟩
  have HB3 := hide (HB2.out.trans (hb3.mono HB2.out.size))
  clear hb3 HAL HB2
  go_wp2_with fail
  refine (num_any SE _).mono ?_
  rintro e w4 ⟨rfl, hw4⟩
  subst hw4
  obtain ⟨wk, hwk⟩ : ∃ x, x = w4 := ⟨_, rfl⟩
  subst hwk
  have HN0 := hide (OX.nil wk wk.heap.size)
  go_wp2
  go_loopw [9, 10] (fun u i wr => ∃ (k : Nat) (ta : Option Addr) (tc L : Nat), k ≤ R.length ∧ i = .int .i64 (k : Int) ∧ u = .slice ta L tc ∧ Hid (L = (R.take k).length ∧ OX wr wk.heap.size (.slice ta L tc) (R.take k)) ∧ Hid (Below wk.heap.size wk wr)) (fun _ i _ => R.length - (intOf i).toNat)
  case atStart => exact ⟨0, none, 0, 0, Nat.zero_le _, rfl, rfl, ⟨by simp, by simpa using HN0.out⟩, Below.refl _ _⟩
  case round =>
    obtain ⟨k, ta, tc, L, hk, rfl, rfl, HOX, HBr⟩ := hrel
    have HBw := hide (HB3.out.trans (HBr.out.mono HB3.out.size))
    by_cases hlt : k < R.length
    · have hlt' : (k : Int) < (R.length : Int) := by omega
      obtain ⟨r, hr⟩ : ∃ r, r = R.getD k xf0 := ⟨_, rfl⟩
      have HT : Hid (R.take (k + 1) = R.take k ++ [r]) := by show _ = _; rw [hr]; exact ext_snoc hlt
      obtain ⟨b0, o0, hla, hrg⟩ := SR.row (HL.out.low HBw.out) (i := k) (by rw [List.length_map]; exact hlt)
      rw [csX_get hlt, ← hr] at hrg
      obtain ⟨tag, dat⟩ := r
      have g0 := hrg 0 (.int .i64 tag) rfl
      have g1 := hrg 1 (.string dat) rfl
      rw [Nat.add_zero] at g0
      subst hla
      obtain ⟨T, hT⟩ : ∃ T, T = R.take k := ⟨_, rfl⟩
      have hTl : T.length ≤ 5864062014800 := by rw [hT, List.length_take]; omega
      have HTT := hide hT
      have HOT : Hid (OX wr wk.heap.size (.slice ta L tc) T) := by rw [hT]; exact HOX.out.2
      have HSz := hide HBr.out.size
      clear hr hrg hT
      go_wp2_with (at_builtin; refine wpExt rfl _ _ rfl wk.heap.size (.slice ta L tc) T tag dat rfl HOT.out _ rfl hTl HSz.out ?_)
      intro v3 w5 ho3 hg3
      have HB5 := hide (grow_ext HBr.out (Nat.le_refl _) HOT.out hg3)
      have ho4 : OX w5 wk.heap.size v3 (R.take (k + 1)) := by rw [HT.out, ← HTT.out]; exact ho3
      obtain ⟨a3, c3, hv3, j3, j4⟩ := ho4.shape
      obtain ⟨M, hM⟩ : ∃ M, M = (R.take (k + 1)).length := ⟨_, rfl⟩
      rw [← hM] at hv3
      subst hv3
      have HO5 : Hid (M = (R.take (k + 1)).length ∧ OX w5 wk.heap.size (.slice a3 M c3) (R.take (k + 1))) := ⟨hM, ho4⟩
      clear ho3 hg3 ho4 hM j3 j4
      go_wp2
      go_roundw
      case rel => exact ⟨k + 1, a3, c3, M, by omega, by go_num, rfl, HO5.out, HB5.out⟩
      case measure => simp [intOf]; omega
    · obtain rfl : k = R.length := by omega
      have HOR : Hid (OX wr wk.heap.size (.slice ta L tc) R) := by have := HOX.out.2; rwa [List.take_length] at this
      have HSz := hide HBr.out.size
      clear HOX hlt hk
      go_wp2_with (at_builtin; refine wpExt2 rfl _ _ rfl wk.heap.size (.slice ta L tc) R 7001 7002 ⟨#[]⟩ ⟨#[]⟩ rfl HOR.out _ rfl (by omega) HSz.out ?_)
      intro v3 w5 ho3 hg3
      have HB5 := hide (grow_ext HBr.out (Nat.le_refl _) HOR.out hg3)
      obtain ⟨F, hF⟩ : ∃ F, F = R ++ [(7001, (⟨#[]⟩ : ByteArray)), (7002, (⟨#[]⟩ : ByteArray))] := ⟨_, rfl⟩
      rw [← hF] at ho3
      have hFl : F.length = R.length + 2 := by rw [hF]; simp
      obtain ⟨a3, c3, hv3, j3, j4⟩ := ho3.shape
      subst hv3
      obtain ⟨G, Gc, hG⟩ : ∃ G c, (Value.slice a3 F.length c3) = .slice (some ⟨G, 0, none⟩) F.length c := by
        rcases ho3.2 with ⟨hx, h0⟩ | ⟨g, cap, cur, hx, _⟩
        · omega
        · exact ⟨g, cap, hx⟩
      simp only [Value.slice.injEq, true_and] at hG
      obtain ⟨rfl, rfl⟩ := hG
      have hsr := ho3.sr
      have HSR : Hid (SR 2 w5 (.slice (some ⟨G, 0, none⟩) R.length c3) (R.map csX)) := by
        have h1 := hsr
        rw [hF, List.map_append] at h1
        have h2 : F.length = (R.map csX ++ [(7001, (⟨#[]⟩ : ByteArray)), (7002, (⟨#[]⟩ : ByteArray))].map csX).length := by rw [hFl]; simp
        rw [← hF, h2] at h1
        have := sr_front h1
        rwa [List.length_map] at this
      obtain ⟨b1, o1, e1, r1⟩ := SR.row hsr (i := R.length) (by rw [List.length_map]; omega)
      obtain ⟨b2, o2, e2, r2⟩ := SR.row hsr (i := R.length + 1) (by rw [List.length_map]; omega)
      simp only [Option.some.injEq, Addr.mk.injEq] at e1 e2
      obtain ⟨rfl, rfl, -⟩ := e1
      obtain ⟨rfl, rfl, -⟩ := e2
      rw [csX_get (by omega)] at r1 r2
      have f1 : F.getD R.length xf0 = (7001, ⟨#[]⟩) := by rw [hF]; simp [List.getD]
      have f2 : F.getD (R.length + 1) xf0 = (7002, ⟨#[]⟩) := by rw [hF]; simp [List.getD]
      rw [f1] at r1
      rw [f2] at r2
      have HC1 : Hid (w5.cell? ⟨G, R.length * 2, none⟩ = some (.int .i64 7001)) := by have := r1 0 (.int .i64 7001) rfl; rwa [Nat.zero_add, Nat.add_zero] at this
      have HC2 : Hid (w5.cell? ⟨G, (R.length + 1) * 2, none⟩ = some (.int .i64 7002)) := by have := r2 0 (.int .i64 7002) rfl; rwa [Nat.zero_add, Nat.add_zero] at this
      have HBw5 := hide (HB3.out.trans (HB5.out.mono HB3.out.size))
      obtain ⟨N, hN⟩ : ∃ N, N = F.length := ⟨_, rfl⟩
      rw [← hN] at hFl j3 ⊢
      clear ho3 hg3 hF hsr r1 r2 f1 f2 hN
      obtain ⟨JS, hJS⟩ : ∃ x, x = jS R := ⟨_, rfl⟩
      obtain ⟨JE, hJE⟩ : ∃ x, x = jE R := ⟨_, rfl⟩
      have HJ1 := hide (joinExtra_any _ R w5 HSR.out HO.out)
      have HJ2 := hide (fun W (hW : Below w.heap.size w W) => vjoinExtra_any (.slice ca R.length ccap) R W (HL.out.low hW) HO.out)
      rw [← hJS, ← hJE] at HJ1 HJ2
      clear hJS hJE
      have hRc : R.length ≤ c3 := by omega
      go_wp2_with fail
      refine HJ1.out.mono ?_
      rintro e w6 ⟨rfl, hb6⟩
      have HB6 := hide (HBw5.out.trans (hb6.mono HBw5.out.size))
      have HSR6 := hide (HSR.out.low hb6)
      have HC16 : Hid (w6.cell? ⟨G, R.length * 2, none⟩ = some (.int .i64 7001)) := (hb6.cell (World.block_lt_of_cell? _ _ HC1.out)).trans HC1.out
      have HC26 : Hid (w6.cell? ⟨G, (R.length + 1) * 2, none⟩ = some (.int .i64 7002)) := (hb6.cell (World.block_lt_of_cell? _ _ HC2.out)).trans HC2.out
      clear hb6 HSR HC1 HC2 HBw5 HJ1
      go_wp2_with fail
      refine (HJ2.out w6 HB6.out).mono ?_
      rintro e w7 ⟨rfl, hb7⟩
      have HB7 := hide (HB6.out.trans (hb7.mono HB6.out.size))
      have HSR7 := hide (HSR6.out.low hb7)
      have HC17 : Hid (w7.cell? ⟨G, R.length * 2, none⟩ = some (.int .i64 7001)) := (hb7.cell (World.block_lt_of_cell? _ _ HC16.out)).trans HC16.out
      have HC27 : Hid (w7.cell? ⟨G, (R.length + 1) * 2, none⟩ = some (.int .i64 7002)) := (hb7.cell (World.block_lt_of_cell? _ _ HC26.out)).trans HC26.out
      have HAK := hide (alike_same (.slice (some ⟨G, 0, none⟩) R.length c3) (.slice ca R.length ccap) R w7 HSR7.out (HL.out.low HB7.out))
      clear hb7 HSR6 HC16 HC26 HB6 HJ2
      go_wp2_with fail
      refine (num_any JE _).mono ?_
      rintro e w8 ⟨rfl, hw8⟩
      subst hw8
      go_wp2_with fail
      refine HAK.out.mono ?_
      rintro e w9 ⟨rfl, hb9⟩
      have HB9 := hide (HB7.out.trans (hb9.mono HB7.out.size))
      have q1 : w9.cell? ⟨G, R.length * 2, none⟩ = some (.int .i64 7001) := (hb9.cell (World.block_lt_of_cell? _ _ HC17.out)).trans HC17.out
      have q2 : w9.cell? ⟨G, (R.length + 1) * 2, none⟩ = some (.int .i64 7002) := (hb9.cell (World.block_lt_of_cell? _ _ HC27.out)).trans HC27.out
      clear hb9 HAK HSR7 HC17 HC27 HB7
      have hi1 : (R.length : Int) < (N : Int) := by omega
      have hi2 : (R.length : Int) + 1 < (N : Int) := by omega
      clear hFl
      go_wp2
      go_ret
      exact ⟨by first | rfl | simp, HB9.out⟩
end Go.Proofs.Ytjjepgkcgbbmhaa

