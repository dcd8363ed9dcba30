import Derived.Test.YtlidmhdcikcpkaaGDfn
import Derived.Test.YtlidmhdcikcpkaaGFts
import Derived.Test.YtlidmhdcikcpkaaGLnd
namespace Go.Proofs.Ytlidmhdcikcpkaa
open Go.RowKit Go.Maps
set_option maxRecDepth 20000
set_option linter.unusedVariables false
set_option linter.unusedSimpArgs false

theorem byteAt_any (v : Value) (l : List Int) (p : Nat) (w : World) (h : SB w v l) : Calls Try.prog 30 #[v, .int .i64 (p : Int)] w fun e w' => e = .returned (.int .u8 (l.getD p 0)) ∧ w' = w := by
  have H := hide h
  obtain ⟨ao, cap, rfl, h1, h2⟩ := h.open11
  clear h
  by_cases hp : p < l.length
  · have hp' : (p : Int) < (l.length : Int) := by omega
    obtain ⟨b, o, rfl, hc⟩ := H.out.byte (Below.refl _ _) hp
    obtain ⟨x, hx⟩ : ∃ x, x = l.getD p 0 := ⟨_, rfl⟩
    rw [← hx] at hc ⊢
    clear hx
    go_enter Try.func30, Try.ntmps30
    go_wp2
    go_ret
    exact ⟨rfl, rfl⟩
  · have hp' : ¬ (p : Int) < (l.length : Int) := by omega
    have e : l.getD p 0 = 0 := by simp only [List.getD, List.getElem?_eq_none (Nat.le_of_not_lt hp)]; rfl
    rw [e]
    clear e
    go_enter Try.func30, Try.ntmps30
    go_wp2
    go_ret
    exact ⟨rfl, rfl⟩

def spn (s : Sp) : Array Value := #[.int .i64 (s.1 : Int), .int .i64 (s.2 : Int)]
theorem spn_get {S : List Sp} {i : Nat} (h : i < S.length) : (S.map spn).getD i #[] = spn (S.getD i (0, 0)) := by simp [List.getD, h]

/-- The last struct's second number is written over. -/
theorem OR.free {T n : Nat} {w : World} {base g cap m : Nat} {R : List (Array Value)} (h : OR T n w base (.slice (some ⟨g, 0, none⟩) m cap) R) : ∀ o, w.frozen? ⟨g, o, none⟩ = false := by
  intro o
  rcases h.2.2 with ⟨he, _⟩ | ⟨g', cap', cur, he, k1, k2, _⟩
  · cases he
  · simp only [Value.slice.injEq, Option.some.injEq, Addr.mk.injEq] at he
    obtain ⟨⟨rfl, -, -⟩, -, -⟩ := he
    simp [World.frozen?, k2]

theorem OR.setLast {T : Nat} {w : World} {base g cap m : Nat} {R : List (Array Value)} {a b u : Value} (h : OR T 2 w base (.slice (some ⟨g, 0, none⟩) m cap) (R ++ [#[a, b]])) (hu : u.oneCell' = true) :
    OR T 2 (w.setCell ⟨g, R.length * 2 + 1, none⟩ u) base (.slice (some ⟨g, 0, none⟩) m cap) (R ++ [#[a, u]]) := by
  have hR : ∀ r ∈ R, r.size = 2 := fun r hr => h.1 r (List.mem_append_left _ hr)
  have hl : (flt R).length = R.length * 2 := flt_len R hR
  refine ⟨fun r hr => ?_, ?_⟩
  · rcases List.mem_append.1 hr with hr | hr
    · exact hR r hr
    · rw [List.mem_singleton.1 hr]; rfl
  obtain ⟨h1, h2⟩ := h.2
  have e1 : flt (R ++ [#[a, b]]) = flt R ++ [a, b] := by rw [flt_app]; rfl
  have e2 : flt (R ++ [#[a, u]]) = flt R ++ [a, u] := by rw [flt_app]; rfl
  rw [e1] at h1 h2
  rw [e2]
  have eset : (flt R ++ [a, b]).set (R.length * 2 + 1) u = flt R ++ [a, u] := by
    rw [List.set_append_right _ _ (by omega), hl, show R.length * 2 + 1 - R.length * 2 = 1 by omega]
    rfl
  refine ⟨by simpa using h1, ?_⟩
  rcases h2 with ⟨he, _⟩ | ⟨g', cap', cur, he, k1, k2, k3, k4, k5, k6⟩
  · cases he
  · simp only [Value.slice.injEq, Option.some.injEq, Addr.mk.injEq] at he
    obtain ⟨⟨rfl, -, -⟩, rfl, rfl⟩ := he
    refine .inr ⟨g, cap, cur.setIfInBounds (R.length * 2 + 1) u, ?_, k1, ?_, ?_, k4, ?_, ?_⟩
    · simp
    · simp [World.setCell, Array.getElem?_modify, k2]
    · simpa using k3
    · simpa using k5
    · rw [← eset, ← k6, Array.toList_setIfInBounds, List.take_set]
      simp

set_option maxHeartbeats 8000000 in
theorem changed_any (vo vn : Value) (O N : List Int) (w : World) (ho : SB w vo O) (hn : SB w vn N) (hl : N.length ≤ 1048576) :
    Calls Try.prog 24 #[vo, vn] w fun e w' => ∃ a c, e = .returned (.slice a (chS O N N.length).length c) ∧ OR 24 2 w' w.heap.size (.slice a (chS O N N.length).length c) ((chS O N N.length).map spn) ∧ Below w.heap.size w w' := by
  have HO := hide ho
  have HN := hide hn
  obtain ⟨oa, oc, rfl, o1, o2, -⟩ := ho.open11
  obtain ⟨na, nc, rfl, n1, n2, -⟩ := hn.open11
  clear ho hn
  go_enter Try.func24, Try.ntmps24
  go_wp2
  go_loopw [5, 6, 7, 8, 11] (fun t _ _ _ i wr => ∃ (j m : Nat) (ta : Option Addr) (tc : Nat) (P : List (Array Value)), t = .slice ta m tc ∧ i = .int .i64 (j : Int) ∧ j ≤ N.length ∧ m ≤ j ∧ Hid (P = (chS O N j).map spn ∧ (chS O N j).length = m) ∧ Hid (OR 24 2 wr w.heap.size (.slice ta m tc) P) ∧ Hid (Below w.heap.size w wr)) (fun _ _ _ _ i _ => N.length - (intOf i).toNat)
  case atStart => exact ⟨0, 0, none, 0, [], rfl, rfl, Nat.zero_le _, Nat.zero_le _, ⟨rfl, rfl⟩, OR.nil _ _ _ _, Below.refl _ _⟩
  case round =>
    obtain ⟨j, m, ta, tc, P, rfl, rfl, hj, hm, HP, HOR, HB⟩ := hrel
    by_cases hlt : j < N.length
    · have hlt' : (j : Int) < (N.length : Int) := by omega
      obtain ⟨b, o, rfl, hc⟩ := HN.out.byte HB.out hlt
      have HBY := hide (byteAt_any _ O j wr (HO.out.below HB.out))
      obtain ⟨x, hx⟩ : ∃ x, x = N.getD j 0 := ⟨_, rfl⟩
      obtain ⟨y, hy⟩ : ∃ y, y = O.getD j 0 := ⟨_, rfl⟩
      rw [← hx] at hc
      rw [← hy] at HBY
      have HX := hide hx
      have HY := hide hy
      clear hx hy
      by_cases hxy : x = y
      · have HC : Hid (chS O N (j + 1) = chS O N j) := if_pos (by rw [← HX.out, ← HY.out]; exact hxy)
        subst hxy
        go_wp2_with fail
        refine HBY.out.mono ?_
        rintro e w2 ⟨rfl, h2⟩
        rw [h2]
        clear h2 w2
        go_wp2
        go_roundw
        case rel => exact ⟨j + 1, m, ta, tc, P, rfl, by go_num, by omega, by omega, by show _ ∧ _; rw [HC.out]; exact HP.out, HOR.out, HB.out⟩
        case measure => simp [intOf]; omega
      · have hxb : (x == y) = false := by simpa using hxy
        have HC : Hid (chS O N (j + 1) = cs1 (chS O N j) j) := if_neg (by rw [← HX.out, ← HY.out]; exact hxy)
        have HIN := hide (ch_in (O := O) (N := N) (k := j))
        obtain ⟨S, hS⟩ : ∃ S, S = chS O N j := ⟨_, rfl⟩
        rw [← hS] at HP HC HIN
        clear hS
        have HOa := hide (HOR.out.alloc (.cells #[.int .i64 (j : Int), .int .i64 ((j : Int) + 1)] 24))
        by_cases hm0 : m = 0
        · subst hm0
          have HS0 : Hid (S = []) := List.eq_nil_of_length_eq_zero HP.out.2
          have HLn : Hid (P.length = 0) := by show _ = _; rw [HP.out.1, HS0.out]; rfl
          have HC2 : Hid (chS O N (j + 1) = [(j, j + 1)]) := by show _ = _; rw [HC.out, HS0.out]; rfl
          go_wp2_with fail
          refine HBY.out.mono ?_
          rintro e w2 ⟨rfl, h2⟩
          rw [h2]
          clear h2 w2
          go_wp2_with (at_builtin; refine wpRow rfl _ _ 22 24 2 16 _ rfl Try.underlying22 infoSp rfl (by omega) w.heap.size (.slice ta 0 tc) P #[.int .i64 (j : Int), .int .i64 ((j : Int) + 1)] wr.heap.size 1 (0, 0) rfl HOa.out rfl (heap_alloc_new _ _) rfl (by simp [Value.oneCell']) (by rw [HLn.out]; omega) (by rw [HLn.out]; omega) (by rw [size_alloc']; have := HB.out.size; omega) ?_)
          intro v3 w3 ho3 hg3 hat3
          have HB3 : Hid (Below w.heap.size w w3) := (HB.out.alloc HB.out.size _).grown hg3 (by rw [size_alloc']; have := HB.out.size; omega) (fun k hk => by have := (HOR.out.lt k hk).1; omega)
          obtain ⟨a3, c3, hv3, z1, z2⟩ := ho3.shape
          rw [List.length_append, HLn.out, List.length_singleton] at hv3
          subst hv3
          have HO4 := hide ho3
          have HP4 : Hid (P ++ [#[Value.int .i64 (j : Int), Value.int .i64 ((j : Int) + 1)]] = (chS O N (j + 1)).map spn ∧ (chS O N (j + 1)).length = 1) := by
            rw [HC2.out, HP.out.1, HS0.out]
            exact ⟨rfl, rfl⟩
          clear ho3 hg3 hat3
          go_wp2
          go_roundw
          case rel => exact ⟨j + 1, 1, a3, c3, _, rfl, by go_num, by omega, by omega, HP4.out, HO4.out, HB3.out⟩
          case measure => simp [intOf]; omega
        · have HNE : Hid (S ≠ []) := fun e => hm0 (by rw [← HP.out.2, e]; rfl)
          have HSP := hide (sl_split HNE.out)
          have HLS := hide (HIN.out _ (sl_mem HNE.out))
          obtain ⟨L, hL⟩ : ∃ L, L = sl S := ⟨_, rfl⟩
          obtain ⟨D, hD⟩ : ∃ D, D = S.dropLast := ⟨_, rfl⟩
          have HCX : Hid ((j ≤ L.2 + 8 → cs1 S j = D ++ [(L.1, j + 1)]) ∧ (¬ j ≤ L.2 + 8 → cs1 S j = S ++ [(j, j + 1)])) := by
            rw [hL, hD]
            exact ⟨fun q => if_pos ⟨HNE.out, q⟩, fun q => if_neg (fun r => q r.2)⟩
          rw [← hL, ← hD] at HSP
          rw [← hL] at HLS
          clear hL hD
          obtain ⟨f0, t0⟩ := L
          have HDL : Hid (D.length + 1 = m) := by show _ = _; have h1 := HP.out.2; rw [← HSP.out] at h1; simpa using h1
          have HPD : Hid (P = D.map spn ++ [#[.int .i64 (f0 : Int), .int .i64 (t0 : Int)]]) := by show _ = _; rw [HP.out.1, ← HSP.out, List.map_append]; rfl
          obtain ⟨g, hg⟩ : ∃ g, ta = some ⟨g, 0, none⟩ := by
            rcases HOR.out.2.2 with ⟨he, _⟩ | ⟨g, cap, cur, he, _⟩
            · simp only [Value.slice.injEq] at he; omega
            · simp only [Value.slice.injEq] at he; exact ⟨g, he.1⟩
          subst hg
          have hmc : m ≤ tc := by
            obtain ⟨a9, c9, h9, h8, h7⟩ := HOR.out.shape
            have e9 : P.length = m := by rw [HP.out.1, List.length_map]; exact HP.out.2
            rw [e9] at h8
            simp only [Value.slice.injEq] at h9
            omega
          have gT : wr.cell? ⟨g, (m - 1) * 2 + 1, none⟩ = some (.int .i64 (t0 : Int)) := by
            have hsr := HOR.out.sr
            have e9 : P.length = m := by rw [HP.out.1, List.length_map]; exact HP.out.2
            obtain ⟨b9, o9, h9, _, hr9⟩ := hsr.row (i := m - 1) (by omega)
            simp only [Option.some.injEq, Addr.mk.injEq] at h9
            obtain ⟨rfl, rfl, -⟩ := h9
            have e8 : P.getD (m - 1) #[] = #[.int .i64 (f0 : Int), .int .i64 (t0 : Int)] := by
              rw [HPD.out, show m - 1 = (D.map spn).length by rw [List.length_map]; have := HDL.out; omega]
              simp [List.getD]
            rw [e8] at hr9
            have := hr9 1 (.int .i64 (t0 : Int)) rfl
            rwa [Nat.zero_add] at this
          have gF : wr.frozen? ⟨g, (m - 1) * 2 + 1, none⟩ = false := HOR.out.free _
          have hm1 : ((m : Int) - 1) = ((m - 1 : Nat) : Int) := by omega
          have hm2 : (0 : Int) < (m : Int) := by omega
          have hm3 : m - 1 < m := by omega
          obtain ⟨M, hM⟩ : ∃ M, M = m - 1 := ⟨_, rfl⟩
          rw [← hM] at gT gF hm1 hm3
          have HM := hide hM
          have hts := HLS.out
          simp only at hts
          by_cases hnr : j ≤ t0 + 8
          · have hnr' : (j : Int) - (t0 : Int) ≤ 8 := by omega
            have HC2 : Hid (chS O N (j + 1) = D ++ [(f0, j + 1)]) := by show _ = _; rw [HC.out]; exact HCX.out.1 hnr
            have HOS : Hid (OR 24 2 (wr.setCell ⟨g, M * 2 + 1, none⟩ (.int .i64 ((j : Int) + 1))) w.heap.size (.slice (some ⟨g, 0, none⟩) m tc) (D.map spn ++ [#[.int .i64 (f0 : Int), .int .i64 ((j : Int) + 1)]])) := by
              have h1 := HOR.out
              rw [HPD.out] at h1
              have h2 := h1.setLast (u := .int .i64 ((j : Int) + 1)) rfl
              rw [List.length_map, show D.length = M by have := HDL.out; have := HM.out; omega] at h2
              exact h2
            have HBS : Hid (Below w.heap.size w (wr.setCell ⟨g, M * 2 + 1, none⟩ (.int .i64 ((j : Int) + 1)))) := HB.out.setCell (by have := (HOR.out.lt g rfl).1; exact this) _
            clear hM
            go_wp2_with fail
            refine HBY.out.mono ?_
            rintro e w2 ⟨rfl, h2⟩
            rw [h2]
            clear h2 w2
            go_wp2
            go_roundw
            case rel => exact ⟨j + 1, m, _, tc, _, rfl, by go_num, by omega, by omega, by show _ ∧ _; rw [HC2.out, List.map_append]; exact ⟨rfl, by have := HDL.out; simpa using this⟩, HOS.out, HBS.out⟩
            case measure => simp [intOf]; omega
          · have hnr' : ¬ (j : Int) - (t0 : Int) ≤ 8 := by omega
            have HC2 : Hid (chS O N (j + 1) = S ++ [(j, j + 1)]) := by show _ = _; rw [HC.out]; exact HCX.out.2 hnr
            have HLn : Hid (P.length = m) := by show _ = _; rw [HP.out.1, List.length_map]; exact HP.out.2
            clear hM
            go_wp2_with fail
            refine HBY.out.mono ?_
            rintro e w2 ⟨rfl, h2⟩
            rw [h2]
            clear h2 w2
            go_wp2_with (at_builtin; refine wpRow rfl _ _ 22 24 2 16 _ rfl Try.underlying22 infoSp rfl (by omega) w.heap.size (.slice (some ⟨g, 0, none⟩) m tc) P #[.int .i64 (j : Int), .int .i64 ((j : Int) + 1)] wr.heap.size 1 (0, 0) rfl HOa.out rfl (heap_alloc_new _ _) rfl (by simp [Value.oneCell']) (by rw [HLn.out]; omega) (by rw [HLn.out]; omega) (by rw [size_alloc']; have := HB.out.size; omega) ?_)
            intro v3 w3 ho3 hg3 hat3
            have HB3 : Hid (Below w.heap.size w w3) := (HB.out.alloc HB.out.size _).grown hg3 (by rw [size_alloc']; have := HB.out.size; omega) (fun k hk => by have := (HOR.out.lt k hk).1; omega)
            obtain ⟨a3, c3, hv3, z1, z2⟩ := ho3.shape
            rw [List.length_append, HLn.out, List.length_singleton] at hv3
            subst hv3
            have HO4 := hide ho3
            have HP4 : Hid (P ++ [#[Value.int .i64 (j : Int), Value.int .i64 ((j : Int) + 1)]] = (chS O N (j + 1)).map spn ∧ (chS O N (j + 1)).length = m + 1) := by
              rw [HC2.out, HP.out.1, List.map_append, List.length_append, HP.out.2]
              exact ⟨rfl, rfl⟩
            clear ho3 hg3 hat3
            go_wp2
            go_roundw
            case rel => exact ⟨j + 1, m + 1, a3, c3, _, rfl, by go_num, by omega, by omega, HP4.out, HO4.out, HB3.out⟩
            case measure => simp [intOf]; omega
    · have hje : j = N.length := by omega
      subst hje
      have HF := HOR.out
      rw [HP.out.1, ← HP.out.2] at HF
      have HF2 := hide HF
      have HLn := hide HP.out.2
      clear HF
      go_wp2
      go_ret
      exact ⟨ta, tc, by rw [HLn.out]; rfl, HF2.out, HB.out⟩
end Go.Proofs.Ytlidmhdcikcpkaa

