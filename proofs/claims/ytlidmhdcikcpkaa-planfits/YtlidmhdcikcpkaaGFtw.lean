import Derived.Test.YtlidmhdcikcpkaaGFts
namespace Go.Proofs.Ytlidmhdcikcpkaa
open Go.RowKit Go.Maps
set_option maxRecDepth 20000
set_option linter.unusedVariables false
set_option linter.unusedSimpArgs false

theorem spEq (a b : Int) (W : World) : (Op.equalIn 10000 24 (.agg #[.int .i64 a, .int .i64 b]) (.agg #[.int .i64 a, .int .i64 b])).run Try.prog W = .ok true W := by
  go_simp

set_option maxHeartbeats 8000000 in
theorem fits_walk (v : Value) (S : List (Int × Int)) (n : Int) (w : World) (h : SR 2 w v (S.map spc)) (hok : Okp S) (hn : -9223372036854775808 ≤ n ∧ n ≤ 9223372036854775807) (hl : S.length ≤ 8796093021952) :
    Calls Try.prog 3 #[v, .int .i64 n] w fun e w' => e = .returned (.bool true) ∧ Below w.heap.size w w' := by
  have HS := hide h
  have HFT := hide (fun (v' : Value) W (hW : SR 2 W v' (S.map spc)) => pFit_any v' S n W hW hok hn)
  have HYT := hide (fun (v' : Value) W (hW : SR 2 W v' (S.map spc)) => yFit_any v' S n W hW hok hn)
  obtain ⟨ca, ccap, rfl, c1, c2⟩ := h.open
  have elc : (S.map spc).length = S.length := List.length_map ..
  rw [elc] at HS c1 ⊢
  clear h hok elc hn
  obtain ⟨F, hF⟩ : ∃ F, F = fit S n := ⟨_, rfl⟩
  rw [← hF] at HFT HYT
  clear hF
  go_enter Try.func3, Try.ntmps3
  go_wp2
  go_loopw [5, 6] (fun t i wr => ∃ (j : Nat) (ta : Option Addr) (tc : Nat) (P : List (Array Value)), t = .slice ta j tc ∧ i = .int .i64 (j : Int) ∧ j ≤ S.length ∧ Hid (P.length = j ∧ P = (S.take j).map spc) ∧ Hid (OR 24 2 wr w.heap.size (.slice ta j tc) P) ∧ Hid (Below w.heap.size w wr)) (fun _ i _ => S.length - (intOf i).toNat)
  case atStart => exact ⟨0, none, 0, [], rfl, rfl, Nat.zero_le _, ⟨rfl, rfl⟩, OR.nil _ _ _ _, Below.refl _ _⟩
  case round =>
    obtain ⟨j, ta, tc, P, rfl, rfl, hj, HP, HO, HB⟩ := hrel
    by_cases hlt : j < S.length
    · have hlt' : (j : Int) < (S.length : Int) := by omega
      obtain ⟨b0, o0, hla, hbl, hrg⟩ := (HS.out.low HB.out).row (i := j) (by rw [List.length_map]; exact hlt)
      rw [spc_get hlt] at hrg
      have HTK := hide (take_get (0, 0) hlt)
      obtain ⟨s, hs⟩ : ∃ s, s = S.getD j (0, 0) := ⟨_, rfl⟩
      rw [← hs] at hrg HTK
      obtain ⟨f0, t0⟩ := s
      have g0 := hrg 0 (.int .i64 f0) rfl
      have g1 := hrg 1 (.int .i64 t0) rfl
      rw [Nat.add_zero] at g0
      subst hla
      have HO3 := hide (HO.out.alloc (.cells #[.int .i64 f0, .int .i64 t0] 24))
      have HLn : Hid (P.length = j) := HP.out.1
      clear hs hrg
      go_wp2_with (at_builtin; refine wpRow rfl _ _ 22 24 2 16 _ rfl Try.underlying22 infoSp rfl (by omega) w.heap.size (.slice ta j tc) P #[.int .i64 f0, .int .i64 t0] wr.heap.size 1 (0, 0) rfl HO3.out rfl (heap_alloc_new _ _) rfl (by simp [Value.oneCell']) (by rw [HLn.out]; omega) (by rw [HLn.out]; omega) (by rw [size_alloc']; have := HB.out.size; omega) ?_)
      intro v3 w3 ho3 hg3 hat3
      have HO4 := hide ho3
      have HP4 : Hid ((P ++ [#[Value.int .i64 f0, Value.int .i64 t0]]).length = j + 1 ∧ P ++ [#[Value.int .i64 f0, Value.int .i64 t0]] = (S.take (j + 1)).map spc) := ⟨by rw [List.length_append, HLn.out]; rfl, by rw [HTK.out, List.map_append, ← HP.out.2]; rfl⟩
      have HB3 : Hid (Below w.heap.size w w3) := (HB.out.alloc HB.out.size _).grown hg3 (by rw [size_alloc']; have := HB.out.size; omega) (fun k hk => by have := (HO.out.lt k hk).1; omega)
      obtain ⟨a3, c3, hv3, z1, z2⟩ := ho3.shape
      rw [List.length_append, HLn.out, List.length_singleton] at hv3
      subst hv3
      clear ho3 hg3 hat3
      go_wp2
      go_roundw
      case rel => exact ⟨j + 1, a3, c3, _, rfl, by go_num, by omega, HP4.out, HO4.out, HB3.out⟩
      case measure => simp [intOf]; omega
    · have hje : j = S.length := by omega
      subst hje
      have HF := HO.out
      rw [HP.out.2, List.take_length] at HF
      have HO1 := hide HF
      clear HF
      have HC1 := hide (HFT.out _ wr HO1.out.sr)
      go_wp2_with fail
      refine HC1.out.mono ?_
      rintro e w1 ⟨rfl, hb1⟩
      have HB1 := hide (HB.out.trans (hb1.mono HB.out.size))
      have HO2 := hide (HO1.out.below hb1 (Nat.le_refl _)).sr
      have HS2 := hide (HS.out.low HB1.out)
      clear hb1 HC1 HO HO1
      go_wp2
      go_loopw [8] (fun i wr => ∃ (j n : Nat), i = .int .i64 (j : Int) ∧ j ≤ S.length ∧ wr = w1.drewN n) (fun i _ => S.length - (intOf i).toNat)
      case atStart => exact ⟨0, 0, rfl, Nat.zero_le _, rfl⟩
      case round =>
        obtain ⟨j, n9, rfl, hj, rfl⟩ := hrel
        by_cases hlt : j < S.length
        · have hlt' : (j : Int) < (S.length : Int) := by omega
          obtain ⟨b0, o0, hla, hbl, hrg⟩ := HS2.out.row (i := j) (by rw [List.length_map]; exact hlt)
          obtain ⟨b1, o1, hlb, hbl1, hrg1⟩ := HO2.out.row (i := j) (by rw [List.length_map]; exact hlt)
          rw [spc_get hlt] at hrg hrg1
          obtain ⟨s, hs⟩ : ∃ s, s = S.getD j (0, 0) := ⟨_, rfl⟩
          rw [← hs] at hrg hrg1
          obtain ⟨f0, t0⟩ := s
          have g0 := hrg 0 (.int .i64 f0) rfl
          have g1 := hrg 1 (.int .i64 t0) rfl
          have g2 := hrg1 0 (.int .i64 f0) rfl
          have g3 := hrg1 1 (.int .i64 t0) rfl
          rw [Nat.add_zero] at g0 g2
          have heq := spEq f0 t0
          subst hla hlb
          clear hs hrg hrg1
          go_wp2
          go_quiet (fail)
          go_wp2
          go_roundw
          case rel => exact ⟨j + 1, _, by go_num, by omega, rfl⟩
          case measure => simp [intOf]; omega
        · have hje : ¬ (j : Int) < (S.length : Int) := by omega
          have HC2 := hide (HYT.out _ (w1.drewN n9) (HS2.out.low (below_drewN (Below.refl _ _) _)))
          have HB2 : Hid (Below w.heap.size w (w1.drewN n9)) := below_drewN HB1.out _
          go_wp2_with fail
          refine HC2.out.mono ?_
          rintro e w2 ⟨rfl, hb2⟩
          have HB3 := hide (HB2.out.trans (hb2.mono HB2.out.size))
          clear hb2
          go_wp2
          go_ret
          exact ⟨rfl, HB3.out⟩
end Go.Proofs.Ytlidmhdcikcpkaa

