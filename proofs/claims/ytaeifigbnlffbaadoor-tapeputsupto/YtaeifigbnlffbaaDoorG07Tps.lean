import Derived.Test.YtaeifigbnlffbaaDoorG06Tpc
import Derived.BigQuiet
import Derived.Deep.QuietTactic
import Derived.OwnWalk
namespace Go.Proofs.YtaeifigbnlffbaaDoor
open Go.RowKit Go.Maps
set_option maxRecDepth 20000
set_option linter.unusedVariables false
set_option linter.unusedSimpArgs false

/-! The document's split and zeros. -/

theorem str_at (s : ByteArray) (i : Nat) (h : i < s.size) : s.data.toList[i]? = some (s[i]) := Lib.data_getElem? s i h

theorem byte47 (x : UInt8) : (x = 47) ↔ (x.toNat : Int) = 47 := by
  constructor
  · rintro rfl; rfl
  · intro h
    apply UInt8.toNat_inj.1
    show x.toNat = 47
    omega

theorem okAt_is (s : ByteArray) (i : Nat) (h : i < s.size) : okAt s.data.toList i = true ↔ (((s[i]).toNat : Int) = 47 ∧ (i : Int) ≤ 155 ∧ 1 ≤ (s.size : Int) - i - 1 ∧ (s.size : Int) - i - 1 ≤ 100) := by
  unfold okAt
  rw [str_at s i h, size_list]
  simp only [Bool.and_eq_true, decide_eq_true_eq, beq_iff_eq, Option.some.injEq, byte47]
  constructor
  · rintro ⟨⟨⟨a, b⟩, c⟩, d⟩
    exact ⟨a, by omega, c, d⟩
  · rintro ⟨a, b, c, d⟩
    exact ⟨⟨⟨a, by omega⟩, c⟩, d⟩

theorem cutB_of {s : ByteArray} {x : List UInt8 × List UInt8 × Bool} (h : cutN s.data.toList = x) {a b : ByteArray} (ha : a.data.toList = x.1) (hb : b.data.toList = x.2.1) : cutB s = (a, b, x.2.2) := by
  have e := cutB_list s
  rw [h] at e
  subst e
  rw [str_ext ha, str_ext hb]

set_option maxHeartbeats 4000000 in
theorem hsplit (s : ByteArray) (w : World) (hs : s.size ≤ 9000000000000000000) :
    Calls Tryd.prog 47 #[.string s] w fun e w' => e = .returned (.tuple #[.string (cutB s).1, .string (cutB s).2.1, .bool (cutB s).2.2]) ∧ ∃ n, w' = w.drewN n := by
  by_cases h1 : s.size ≤ 100
  · unfold cutB
    rw [if_pos h1]
    have h1' : (s.size : Int) ≤ 100 := by omega
    have hE : Hid (decide ((0 : Int) < (s.size : Int)) = decide (0 < s.size)) := by
      show _ = _
      by_cases h : 0 < s.size <;> simp [h] <;> omega
    go_enter Tryd.func47, Tryd.ntmps47
    go_wp2
    go_ret3
    refine ⟨?_, 0, rfl⟩
    rw [← hE.out]
    rfl
  · have h1' : ¬ (s.size : Int) ≤ 100 := by omega
    have hll : 100 < s.data.toList.length := by rw [size_list]; omega
    obtain ⟨c1, c2, c3, hcut⟩ : ∃ c1 c2 c3, cutB s = (c1, c2, c3) := ⟨_, _, _, rfl⟩
    have HCUT := hide hcut
    rw [hcut]
    clear hcut
    simp only
    go_enter Tryd.func47, Tryd.ntmps47
    go_wp2
    go_loopw [5] (fun i wx => ∃ k : Nat, 1 ≤ k ∧ k ≤ s.size ∧ i = .int .i64 k ∧ wx = w ∧ ∀ j, 1 ≤ j → j < k → okAt s.data.toList j = false) (fun i _ => s.size - (intOf i).toNat)
    case atStart => exact ⟨1, Nat.le_refl _, by omega, rfl, rfl, fun j a b => by omega⟩
    case round =>
      obtain ⟨k, hk1, hk2, rfl, rfl, hno⟩ := hrel
      by_cases hk : k < s.size
      · have hk' : (k : Int) < (s.size : Int) := by omega
        have HNO := hide hno
        clear hno
        by_cases q : ((s[k]).toNat : Int) = 47 ∧ (k : Int) ≤ 155 ∧ 1 ≤ (s.size : Int) - k - 1 ∧ (s.size : Int) - k - 1 ≤ 100
        · have hc := cutB_of (cutN_find hll hk1 ((okAt_is s k hk).2 q) HNO.out) (a := s.extract 0 k) (b := s.extract (k + 1) s.size) (by rw [ext_list]; simp) (by rw [ext_list, List.take_of_length_le (by rw [List.length_drop, size_list]; omega)])
          rw [HCUT.out] at hc
          simp only [Prod.mk.injEq] at hc
          have HC := hide hc
          obtain ⟨q1, q2, q3, q4⟩ := q
          have hw : IntKind.i64.wrap ((k : Int) + 1) = ((k + 1 : Nat) : Int) := by rw [IntKind.wrap_i64]; omega
          have h2 : k + 1 ≤ s.size := by omega
          have h3 : k ≤ s.size := by omega
          clear hc hll
          go_wp2
          go_quiet (fail)
          go_wp2
          go_ret3
          refine ⟨?_, _, rfl⟩
          rw [HC.out.1, HC.out.2.1, HC.out.2.2]
          rfl
        · have HN2 : Hid (okAt s.data.toList k = false) := by
            show _ = _
            cases hb : okAt s.data.toList k with
            | false => rfl
            | true => exact absurd ((okAt_is s k hk).1 hb) q
          have HREL : Hid (∀ j, 1 ≤ j → j < k + 1 → okAt s.data.toList j = false) := fun j a b => by
            by_cases e : j = k
            · rw [e]; exact HN2.out
            · exact HNO.out j a (by omega)
          clear hll
          by_cases q1 : ((s[k]).toNat : Int) = 47
          · by_cases q2 : (k : Int) ≤ 155
            · by_cases q3 : 1 ≤ (s.size : Int) - k - 1
              · have q4 : ¬ (s.size : Int) - k - 1 ≤ 100 := fun e => q ⟨q1, q2, q3, e⟩
                clear q
                go_wp2
                go_roundw
                case rel => exact ⟨k + 1, by omega, by omega, by go_num, trivial, HREL.out⟩
                case measure => simp [intOf]; omega
              · clear q
                go_wp2
                go_roundw
                case rel => exact ⟨k + 1, by omega, by omega, by go_num, trivial, HREL.out⟩
                case measure => simp [intOf]; omega
            · clear q
              go_wp2
              go_roundw
              case rel => exact ⟨k + 1, by omega, by omega, by go_num, trivial, HREL.out⟩
              case measure => simp [intOf]; omega
          · clear q
            go_wp2
            go_roundw
            case rel => exact ⟨k + 1, by omega, by omega, by go_num, trivial, HREL.out⟩
            case measure => simp [intOf]; omega
      · obtain rfl : k = s.size := by omega
        have hk' : ¬ (s.size : Int) < (s.size : Int) := by omega
        have hc := cutB_of (cutN_none hll (fun j a b => hno j a (by rw [size_list] at b; exact b))) (a := ⟨#[]⟩) (b := ⟨#[]⟩) rfl rfl
        rw [HCUT.out] at hc
        simp only [Prod.mk.injEq] at hc
        have HC := hide hc
        clear hno hc hll
        go_wp2
        go_ret3
        refine ⟨?_, 0, rfl⟩
        rw [HC.out.1, HC.out.2.1, HC.out.2.2]
        rfl

def zeroB (s : ByteArray) : Bool := s.data.toList.contains 0

theorem byte0 (x : UInt8) : (x = 0) ↔ (x.toNat : Int) = 0 := by
  constructor
  · rintro rfl; rfl
  · intro h
    apply UInt8.toNat_inj.1
    show x.toNat = 0
    omega

theorem zero_take (s : ByteArray) (k : Nat) (h : k < s.size) : (s.data.toList.take (k + 1)).contains 0 = ((s.data.toList.take k).contains 0 || decide ((s[k]).toNat = (0 : Int))) := by
  rw [List.take_add_one, str_at s k h]
  simp only [Option.toList_some, List.contains_append]
  congr 1
  by_cases e : s[k] = 0
  · simp [e]
  · have := (not_congr (byte0 s[k])).1 e
    have h2 : ¬ s[k].toNat = 0 := fun q => this (by omega)
    simp [h2, e]
    exact fun q => e q.symm

set_option maxHeartbeats 1000000 in
theorem hzeros (s : ByteArray) (w : World) (hs : s.size ≤ 9000000000000000000) :
    Calls Tryd.prog 48 #[.string s] w fun e w' => e = .returned (.bool (zeroB s)) ∧ w' = w := by
  go_enter Tryd.func48, Tryd.ntmps48
  go_wp2
  go_loopw [3] (fun i wx => ∃ k : Nat, k ≤ s.size ∧ i = .int .i64 k ∧ wx = w ∧ (s.data.toList.take k).contains 0 = false) (fun i _ => s.size - (intOf i).toNat)
  case atStart => exact ⟨0, Nat.zero_le _, rfl, rfl, rfl⟩
  case round =>
    obtain ⟨k, hk2, rfl, rfl, hno⟩ := hrel
    by_cases hk : k < s.size
    · have hk' : (k : Int) < (s.size : Int) := by omega
      have HZ := hide (zero_take s k hk)
      rw [hno, Bool.false_or] at HZ
      clear hno
      by_cases q : ((s[k]).toNat : Int) = 0
      · have HF : Hid (zeroB s = true) := by
          show _ = _
          have h1 := HZ.out
          rw [decide_eq_true q] at h1
          unfold zeroB
          rw [List.contains_iff_mem] at h1 ⊢
          exact List.mem_of_mem_take h1
        go_wp2
        go_ret
        exact ⟨by rw [HF.out]; rfl, rfl⟩
      · have HF : Hid ((s.data.toList.take (k + 1)).contains 0 = false) := by
          show _ = _
          rw [HZ.out]; exact decide_eq_false q
        go_wp2
        go_roundw
        case rel => exact ⟨k + 1, by omega, by go_num, trivial, HF.out⟩
        case measure => simp [intOf]; omega
    · obtain rfl : k = s.size := by omega
      have hk' : ¬ (s.size : Int) < (s.size : Int) := by omega
      rw [List.take_of_length_le (by rw [size_list]; exact Nat.le_refl _)] at hno
      have HNO := hide hno
      clear hno
      go_wp2
      go_ret
      exact ⟨by unfold zeroB; rw [HNO.out]; rfl, rfl⟩
end Go.Proofs.YtaeifigbnlffbaaDoor

