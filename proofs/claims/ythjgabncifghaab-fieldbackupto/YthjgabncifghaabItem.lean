import Derived.Test.YthjgabncifghaabBTwo
import Derived.Test.YthjgabncifghaabReads
import Derived.Deep.RegionHeld3
namespace Go.Proofs.Ythjgabncifghaab
open Go.RowKit Go.Maps
set_option maxRecDepth 20000
variable {X : Nat → Prop}

structure It where
  w : Int
  n : Int
  s : ByteArray

def absN (n : Int) : Int := if n < 0 then -(n + 1) else n

def fitN (x : It) : Int := if x.w = 1 then absN x.n % 256 else if x.w = 2 then absN x.n % 65536 else absN x.n % 4294967296

def encI (x : It) : List Int := if x.w = 1 then bytesLE (fitN x) 1 else if x.w = 2 then bytesLE (fitN x) 2 else if x.w = 4 then bytesLE (fitN x) 4 else strL x.s

def putSt (st : BSt) (x : It) : BSt := if x.w = 1 then numSt st (fitN x) 1 else if x.w = 2 then numSt st (fitN x) 2 else if x.w = 4 then numSt st (fitN x) 4 else textSt st x.s

theorem absN_in {n : Int} (h0 : -9223372036854775808 ≤ n) (h1 : n ≤ 9223372036854775807) : 0 ≤ absN n ∧ absN n ≤ 9223372036854775807 := by
  unfold absN
  split <;> omega

theorem le_bytesLE (v : Int) (n : Nat) (h0 : 0 ≤ v) (h1 : v < 256 ^ n) : le (bytesLE v n) = v := by
  induction n generalizing v with
  | zero => simp at h1; simp [bytesLE, le]; omega
  | succ n ih =>
    simp only [bytesLE, le]
    rw [ih (v / 256) (by omega) (by rw [Int.pow_succ] at h1; omega)]
    omega

theorem putSt_eq {st : BSt} {x : It} (h0 : -9223372036854775808 ≤ x.n) (h1 : x.n ≤ 9223372036854775807) (he : st.e = 0) : putSt st x = if st.m - st.l.length < (encI x).length then { st with e := 22 } else { st with l := st.l ++ encI x } := by
  have ha := absN_in h0 h1
  unfold putSt encI
  by_cases k1 : x.w = 1
  · simp only [k1, if_true]
    have hf : ¬ wide (fitN x) 1 := by unfold wide fitN; simp only [k1, if_true]; omega
    unfold numSt
    rw [if_neg (by simp [he]), if_neg hf, length_bytesLE]
  · by_cases k2 : x.w = 2
    · simp only [k2, if_true, if_neg (show ¬ (2 : Int) = 1 by omega)]
      have hf : ¬ wide (fitN x) 2 := by unfold wide fitN; simp only [k2, if_true, if_neg (show ¬ (2 : Int) = 1 by omega)]; omega
      unfold numSt
      rw [if_neg (by simp [he]), if_neg hf, length_bytesLE]
    · by_cases k4 : x.w = 4
      · simp only [k4, if_true, if_neg (show ¬ (4 : Int) = 1 by omega), if_neg (show ¬ (4 : Int) = 2 by omega)]
        have hf : ¬ wide (fitN x) 4 := by unfold wide fitN; simp only [k4, if_neg (show ¬ (4 : Int) = 1 by omega), if_neg (show ¬ (4 : Int) = 2 by omega)]; omega
        unfold numSt
        rw [if_neg (by simp [he]), if_neg hf, length_bytesLE]
      · simp only [k1, k2, k4, if_false]
        unfold textSt
        rw [if_neg (by simp [he]), length_strL]

theorem putSt_id {st : BSt} {x : It} (he : st.e ≠ 0) : putSt st x = st := by
  unfold putSt
  split
  · exact numSt_id _ _ st he
  · split
    · exact numSt_id _ _ st he
    · split
      · exact numSt_id _ _ st he
      · exact textSt_id _ st he

theorem str_back (s : ByteArray) : strOfNums (strL s) = s := by
  unfold strOfNums strL
  rw [List.map_map]
  have e : (s.data.toList.map ((fun n : Int => UInt8.ofNat n.toNat) ∘ fun b => (b.toNat : Int))) = s.data.toList := by
    rw [show ((fun n : Int => UInt8.ofNat n.toNat) ∘ fun b : UInt8 => (b.toNat : Int)) = id from by funext b; simp]
    simp
  rw [e]

theorem lfits_any (x : It) (h0 : -9223372036854775808 ≤ x.n) (h1 : x.n ≤ 9223372036854775807) (w : World) :
    Calls Try.prog 47 #[.agg #[.int .i64 x.w, .int .i64 x.n, .string x.s]] w fun e w' => e = .returned (.int .i64 (fitN x)) ∧ Below w.heap.size w w' := by
  obtain ⟨wd, n, s⟩ := x
  simp only [] at h0 h1 ⊢
  have HB : Hid (Below w.heap.size w (w.alloc (.cells #[.int .i64 wd, .int .i64 n, .string s] 24))) := (Below.refl _ _).alloc (Nat.le_refl _) _
  obtain ⟨A, HA, hA0, hA1⟩ : ∃ A, Hid (A = absN n) ∧ 0 ≤ A ∧ A ≤ 9223372036854775807 := ⟨_, rfl, (absN_in h0 h1).1, (absN_in h0 h1).2⟩
  have HF : Hid (fitN ⟨wd, n, s⟩ = if wd = 1 then A % 256 else if wd = 2 then A % 65536 else A % 4294967296) := by show _ = _; unfold fitN; rw [HA.out]
  by_cases hn : n < 0
  · have hA : -(n + 1) = A := by rw [HA.out]; unfold absN; rw [if_pos hn]
    by_cases k1 : wd = 1
    · subst k1
      go_enter Try.func47, Try.ntmps47
      go_wp2
      go_ret
      rw [HF.out]
      exact ⟨rfl, HB.out⟩
    · by_cases k2 : wd = 2
      · subst k2
        go_enter Try.func47, Try.ntmps47
        go_wp2
        go_ret
        rw [HF.out]
        exact ⟨rfl, HB.out⟩
      · have HF2 : Hid (fitN ⟨wd, n, s⟩ = A % 4294967296) := by show _ = _; rw [HF.out, if_neg k1, if_neg k2]
        go_enter Try.func47, Try.ntmps47
        go_wp2
        go_ret
        rw [HF2.out]
        exact ⟨rfl, HB.out⟩
  · have hA : n = A := by rw [HA.out]; unfold absN; rw [if_neg hn]
    have HAn := hide hA
    by_cases k1 : wd = 1
    · subst k1
      clear hA
      go_enter Try.func47, Try.ntmps47
      go_wp2
      go_ret
      rw [HF.out, ← HAn.out]
      exact ⟨rfl, HB.out⟩
    · by_cases k2 : wd = 2
      · subst k2
        clear hA
        go_enter Try.func47, Try.ntmps47
        go_wp2
        go_ret
        rw [HF.out, ← HAn.out]
        exact ⟨rfl, HB.out⟩
      · have HF2 : Hid (fitN ⟨wd, n, s⟩ = A % 4294967296) := by show _ = _; rw [HF.out, if_neg k1, if_neg k2]
        clear hA
        go_enter Try.func47, Try.ntmps47
        go_wp2
        go_ret
        rw [HF2.out, ← HAn.out]
        exact ⟨rfl, HB.out⟩
end Go.Proofs.Ythjgabncifghaab
