import Derived.Test.YtkmefeihkmbngaaDoorG24Lrb
import Derived.Maps.AppendAt
namespace Go.Proofs.YtkmefeihkmbngaaDoor
open Go.RowKit Go.Maps
set_option maxRecDepth 20000
set_option linter.unusedVariables false
set_option linter.unusedSimpArgs false

theorem pow_lt_iff {a b : Nat} : ((2 ^ a : Nat) : Int) < ((2 ^ b : Nat) : Int) ↔ a < b := by
  rw [Int.ofNat_lt]
  exact Nat.pow_lt_pow_iff_right (by omega)

theorem lE_pow {i n : Nat} (hi : i < 29) : lE ((257 + i : Nat) : Int) ((2 ^ n : Nat) : Int) = if n < LF i then 0 else 1 := by
  unfold lE ofE
  rw [if_pos (by omega)]
  have e : ((257 + i : Nat) : Int).toNat - 257 = i := by omega
  rw [e]
  by_cases h : n < LF i
  · rw [if_pos ⟨Int.natCast_nonneg _, pow_lt_iff.2 h⟩, if_pos h]
  · rw [if_neg (fun q => h (pow_lt_iff.1 q.2)), if_neg h]

theorem dE_pow {i n : Nat} (hi : i < 30) : dE (i : Int) ((2 ^ n : Nat) : Int) = if n < DF i then 0 else 1 := by
  unfold dE ofE
  rw [if_pos (by omega)]
  have e : ((i : Nat) : Int).toNat = i := by omega
  rw [e]
  by_cases h : n < DF i
  · rw [if_pos ⟨Int.natCast_nonneg _, pow_lt_iff.2 h⟩, if_pos h]
  · rw [if_neg (fun q => h (pow_lt_iff.1 q.2)), if_neg h]

theorem vlengthBits_any (s : Nat) (hs : s < 286) (w : World) : Calls Tryd.prog 23 #[.int .i64 (s : Int)] w fun e w' => e = .returned (.int .i64 (lfu s)) ∧ w' = w := by
  by_cases h : s < 257
  · have h' : (s : Int) < 257 := by omega
    have HE : Hid (lfu s = 0) := by show _ = _; unfold lfu; rw [if_pos h]
    rw [HE.out]
    clear HE h
    go_enter Tryd.func23, Tryd.ntmps23
    go_wp2
    go_ret
    exact ⟨rfl, rfl⟩
  · have h' : ¬ (s : Int) < 257 := by omega
    obtain ⟨i, rfl⟩ : ∃ i, s = 257 + i := ⟨s - 257, by omega⟩
    have HE : Hid (lfu (257 + i) = (LF i : Int)) := by show _ = _; unfold lfu; rw [if_neg h]; congr 2; omega
    rw [HE.out]
    have HX := hide (fun n w0 => xLengthOf_any ((257 + i : Nat) : Int) ((2 ^ n : Nat) : Int) w0)
    have HP := hide (fun n => lE_pow (i := i) (n := n) (by omega))
    have hle := (lfLe i (by omega)).1
    obtain ⟨F, hF⟩ : ∃ F, LF i = F := ⟨_, rfl⟩
    obtain ⟨S, hS⟩ : ∃ S, ((257 + i : Nat) : Int) = S := ⟨_, rfl⟩
    rw [hF] at HP hle ⊢
    rw [hS] at HX HP h' ⊢
    clear hF hS HE h
    go_enter Tryd.func23, Tryd.ntmps23
    go_wp2
    go_loopw [3] (fun t wr => ∃ n : Nat, n ≤ F ∧ t = .int .i64 (n : Int) ∧ wr = w) (fun t _ => 5 - (intOf t).toNat)
    case atStart => exact ⟨0, Nat.zero_le _, rfl, rfl⟩
    case round =>
      obtain ⟨n, hn, rfl, hw⟩ := hrel
      subst hw
      by_cases h5 : n < 5
      · have h5' : (n : Int) < 5 := by omega
        have HQ := hide (HX.out n wr)
        have HPn := hide (HP.out n)
        obtain ⟨w1, w2, w3⟩ := wrap_pow (F := n) (by omega)
        obtain ⟨q, hq⟩ : ∃ q, 2 ^ n = q := ⟨_, rfl⟩
        rw [hq] at w1 HQ HPn
        have hcv : IntKind.u64.wrap (n : Int) = (n : Int) := by rw [IntKind.wrap_u64]; omega
        have hmin : min n 64 = n := by omega
        rw [HPn.out] at HQ
        obtain ⟨V, hV⟩ : ∃ V, lV S (q : Int) = V := ⟨_, rfl⟩
        rw [hV] at HQ
        clear hq w2 w3 hV
        by_cases hnF : n < F
        · rw [if_pos hnF] at HQ
          go_wp2_with fail
          refine HQ.out.mono ?_
          rintro e w8 ⟨rfl, hw8⟩
          subst hw8
          go_wp2
          go_roundw
          case rel => exact ⟨n + 1, by omega, by go_num, by first | rfl | trivial⟩
          case measure => simp [intOf]; omega
        · rw [if_neg hnF] at HQ
          obtain rfl : n = F := by omega
          go_wp2_with fail
          refine HQ.out.mono ?_
          rintro e w8 ⟨rfl, hw8⟩
          subst hw8
          go_wp2
          go_ret
          exact ⟨rfl, rfl⟩
      · obtain rfl : n = 5 := by omega
        obtain rfl : F = 5 := by omega
        have h5' : ¬ ((5 : Nat) : Int) < 5 := by omega
        go_wp2
        go_ret
        exact ⟨rfl, rfl⟩

theorem vdistBits_any (i : Nat) (hs : i < 30) (w : World) : Calls Tryd.prog 24 #[.int .i64 (i : Int)] w fun e w' => e = .returned (.int .i64 (DF i : Int)) ∧ w' = w := by
  have HX := hide (fun n w0 => xDistOf_any (i : Int) ((2 ^ n : Nat) : Int) w0)
  have HP := hide (fun n => dE_pow (i := i) (n := n) (by omega))
  have hle := (dfLe i (by omega)).1
  obtain ⟨F, hF⟩ : ∃ F, DF i = F := ⟨_, rfl⟩
  rw [hF] at HP hle ⊢
  clear hF
  go_enter Tryd.func24, Tryd.ntmps24
  go_wp2
  go_loopw [3] (fun t wr => ∃ n : Nat, n ≤ F ∧ t = .int .i64 (n : Int) ∧ wr = w) (fun t _ => 13 - (intOf t).toNat)
  case atStart => exact ⟨0, Nat.zero_le _, rfl, rfl⟩
  case round =>
    obtain ⟨n, hn, rfl, hw⟩ := hrel
    subst hw
    by_cases h5 : n < 13
    · have h5' : (n : Int) < 13 := by omega
      have HQ := hide (HX.out n wr)
      have HPn := hide (HP.out n)
      obtain ⟨w1, w2, w3⟩ := wrap_pow (F := n) (by omega)
      obtain ⟨q, hq⟩ : ∃ q, 2 ^ n = q := ⟨_, rfl⟩
      rw [hq] at w1 HQ HPn
      have hcv : IntKind.u64.wrap (n : Int) = (n : Int) := by rw [IntKind.wrap_u64]; omega
      have hmin : min n 64 = n := by omega
      rw [HPn.out] at HQ
      obtain ⟨V, hV⟩ : ∃ V, dV (i : Int) (q : Int) = V := ⟨_, rfl⟩
      rw [hV] at HQ
      clear hq w2 w3 hV
      by_cases hnF : n < F
      · rw [if_pos hnF] at HQ
        go_wp2_with fail
        refine HQ.out.mono ?_
        rintro e w8 ⟨rfl, hw8⟩
        subst hw8
        go_wp2
        go_roundw
        case rel => exact ⟨n + 1, by omega, by go_num, by first | rfl | trivial⟩
        case measure => simp [intOf]; omega
      · rw [if_neg hnF] at HQ
        obtain rfl : n = F := by omega
        go_wp2_with fail
        refine HQ.out.mono ?_
        rintro e w8 ⟨rfl, hw8⟩
        subst hw8
        go_wp2
        go_ret
        exact ⟨rfl, rfl⟩
    · obtain rfl : n = 13 := by omega
      obtain rfl : F = 13 := by omega
      have h5' : ¬ ((13 : Nat) : Int) < 13 := by omega
      go_wp2
      go_ret
      exact ⟨rfl, rfl⟩

def spc (i : Nat) : List Value := [.int .i64 (DB i : Int), .int .i64 ((DB (i + 1) - 1 : Nat) : Int), .int .i64 (DF i : Int)]
def sps (k : Nat) : List Value := (List.range k).flatMap spc

theorem sps_succ (k : Nat) : sps (k + 1) = sps k ++ spc k := by simp [sps, List.range_succ, List.flatMap_append]

theorem sps_len (k : Nat) : (sps k).length = k * 3 := by
  induction k with
  | zero => rfl
  | succ k ih => rw [sps_succ, List.length_append, ih]; simp [spc]; omega

theorem sps_get {k i : Nat} (h : i < k) : (sps k)[i * 3]? = some (.int .i64 (DB i : Int)) ∧ (sps k)[i * 3 + 1]? = some (.int .i64 ((DB (i + 1) - 1 : Nat) : Int)) ∧ (sps k)[i * 3 + 2]? = some (.int .i64 (DF i : Int)) := by
  induction k with
  | zero => omega
  | succ k ih =>
    rw [sps_succ]
    by_cases e : i = k
    · subst e
      have hl := sps_len i
      refine ⟨?_, ?_, ?_⟩ <;> (rw [List.getElem?_append_right (by omega), hl]; simp [spc])
    · obtain ⟨h1, h2, h3⟩ := ih (by omega)
      have hl := sps_len k
      refine ⟨?_, ?_, ?_⟩ <;> (rw [List.getElem?_append_left (by omega)]; assumption)

theorem spc_one (k : Nat) : ∀ u ∈ spc k, u.oneCell' = true := by intro u hu; simp [spc] at hu; rcases hu with rfl | rfl | rfl <;> rfl

theorem infoQsp : (Tryd.prog.info? 63).map (fun i => (i.zero, i.size, i.bytes)) = some (some (.agg #[.int .i64 0, .int .i64 0, .int .i64 0]), 3, 24) := by kernel_rfl

theorem run_appQ (w : World) (base : Nat) (ty : TypeId) (v : Value) (n : Nat) (xs : List Value) (hown : w.ownsRow base 63 3 v n xs) (g : Nat) (news : List Value) (h1 : news.length = 3) (h2 : ∀ j u, news[j]? = some u → w.cell? ((⟨g, 0, none⟩ : Addr).add j) = some u) (h3 : ∀ u ∈ news, u.oneCell' = true) (h63 : n ≤ 1000) (hbase : base ≤ w.heap.size) :
    ∃ v' w', (Builtin.append_ #[60, 60] ty #[v, .slice (some ⟨g, 0, none⟩) 1 1]).run Tryd.prog w = .ok v' w' ∧ w'.ownsRow base 63 3 v' (n + 1) (xs ++ news) ∧ w.grownBy w' v.ownBlock := by
  obtain ⟨i, hi0, hz0, hz1, hz2⟩ := info_parts infoQsp
  obtain ⟨v', w', hr, ho, hg, -⟩ := run_append_own_at (P := Tryd.prog) w base 60 ty 63 i _ 3 24 Tryd.underlying60 hi0 hz0 hz1 hz2 rfl (by omega) v n xs hown ⟨g, 0, none⟩ 1 1 news (by omega) h2 h3 (by unfold maxLen; omega) (by omega) hbase
  exact ⟨v', w', hr, ho, hg⟩

theorem wpList_appQ {w : World} {ops : Array Oper} {rest : List Oper} {o : Oper} {a : Act} {Q : Exit → Act → World → Prop} (hgd : o.guard = none) (s x : Operand)
    (ho : o.op = .call { callee := .builtin .append, args := #[s, x], argTypes := #[60, 60] }) (base : Nat) (v : Value) (n g : Nat) (xs news : List Value) (hv : a.eval s = v) (hown : w.ownsRow base 63 3 v n xs) (hx : a.eval x = .slice (some ⟨g, 0, none⟩) 1 1)
    (h1 : news.length = 3) (h2 : ∀ j u, news[j]? = some u → w.cell? ((⟨g, 0, none⟩ : Addr).add j) = some u) (h3 : ∀ u ∈ news, u.oneCell' = true) (h63 : n ≤ 1000) (hbase : base ≤ w.heap.size)
    (h : ∀ v' w', w'.ownsRow base 63 3 v' (n + 1) (xs ++ news) → w.grownBy w' v.ownBlock → wpList Tryd.prog ops Q rest (a.put o.dst v') w') : wpList Tryd.prog ops Q (o :: rest) a w := by
  refine wpList_plain hgd fun K hK => ?_
  obtain ⟨v', w', hr, h4, h5⟩ := run_appQ w base o.type v n xs hown g news h1 h2 h3 h63 hbase
  unfold Oper.wp
  simp [execOp, ho, resolve, invoke, builtin, hv, hx, hr, Result.andThen]
  exact hK _ _ (h v' w' h4 h5)
end Go.Proofs.YtkmefeihkmbngaaDoor

