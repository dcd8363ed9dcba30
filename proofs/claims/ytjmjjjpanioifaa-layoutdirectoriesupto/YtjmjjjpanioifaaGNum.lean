import Derived.Test.YtjmjjjpanioifaaGNext
namespace Go.Proofs.Ytjmjjjpanioifaa
open Go.RowKit
set_option maxRecDepth 20000
variable {X : Nat → Prop}

def le : List Int → Int
  | [] => 0
  | b :: r => b + 256 * le r

theorem le_append (a : List Int) (c : Int) : le (a ++ [c]) = le a + 256 ^ a.length * c := by
  induction a with
  | nil => simp [le]
  | cons b r ih => simp only [List.cons_append, le, ih, List.length_cons, Int.pow_succ, Int.mul_add]; rw [Int.add_assoc, Int.mul_comm (256 ^ r.length) 256, Int.mul_assoc]

theorem le_take {l : List Int} {k : Nat} (h : k < l.length) : le (l.take (k + 1)) = le (l.take k) + 256 ^ k * l.getD k 0 := by
  rw [List.take_succ_eq_append_getElem h, le_append, List.length_take, Nat.min_eq_left (by omega)]
  simp [List.getD, h]

theorem le_bound {l : List Int} (h : Byt l) : 0 ≤ le l ∧ le l < 256 ^ l.length := by
  induction l with
  | nil => simp [le]
  | cons b r ih =>
    have h0 := h 0
    have hr := ih (fun i => by have := h (i + 1); simpa using this)
    simp at h0
    simp only [le, List.length_cons, Int.pow_succ]
    omega

theorem byt_take {l : List Int} (h : Byt l) (k : Nat) : Byt (l.take k) := by
  intro i
  by_cases hi : i < k
  · have : (l.take k).getD i 0 = l.getD i 0 := by simp [List.getD, hi]
    rw [this]; exact h i
  · have : (l.take k).getD i 0 = 0 := by
      have e : (l.take k)[i]? = none := List.getElem?_eq_none (by rw [List.length_take]; omega)
      simp [List.getD, e]
    rw [this]; decide

theorem byt_drop {l : List Int} (h : Byt l) (k : Nat) : Byt (l.drop k) := by
  intro i
  have : (l.drop k).getD i 0 = l.getD (k + i) 0 := by simp [List.getD]
  rw [this]; exact h _

theorem byt_nextL {st : CSt} (h : Byt st.d) (n : Int) : Byt (nextL st n) := by
  unfold nextL
  split
  · exact byt_take (byt_drop h _) _
  · intro i; simp

theorem Cu.byt {T : Nat} {w : World} {g : Nat} {st : CSt} (h : Cu X T w g st) : Byt st.d := by
  obtain ⟨v, _, _, _, _, h5, _⟩ := h
  exact h5

theorem nextL_len {st : CSt} (n : Nat) : (nextL st n).length ≤ n := by
  by_cases h : okN st n
  · exact Nat.le_of_eq (nextL_ok h).2
  · rw [nextL_no h]; exact Nat.zero_le _

theorem or_put {V c : Int} (k : Nat) (hV0 : 0 ≤ V) (hc0 : 0 ≤ c) (hc : c < 256) (hk : k < 4) (hV : V < 256 ^ k) : bits .or .i64 V (256 ^ k * c) = V + 256 ^ k * c := by
  have hw : ∀ n : Int, 0 ≤ n → n < 2 ^ 63 → IntKind.i64.wrap n = n := fun n h0 h1 => by rw [IntKind.wrap_i64]; omega
  have comm : ∀ x y : Int, bits .or .i64 x y = bits .or .i64 y x := by
    intro x y
    simp only [bits]
    rw [BitVec.or_comm]
  rw [comm]
  obtain rfl | rfl | rfl | rfl : k = 0 ∨ k = 1 ∨ k = 2 ∨ k = 3 := by omega
  · rw [bits_join .i64 63 (by decide) hw 0 (256 ^ 0 * c) V (by omega) (by omega) (by omega) hV0 (by omega) (by omega)]; omega
  · rw [bits_join .i64 63 (by decide) hw 8 (256 ^ 1 * c) V (by omega) (by omega) (by omega) hV0 (by omega) (by omega)]; omega
  · rw [bits_join .i64 63 (by decide) hw 16 (256 ^ 2 * c) V (by omega) (by omega) (by omega) hV0 (by omega) (by omega)]; omega
  · rw [bits_join .i64 63 (by decide) hw 24 (256 ^ 3 * c) V (by omega) (by omega) (by omega) hV0 (by omega) (by omega)]; omega

theorem shl_put {c : Int} (k : Nat) (hc0 : 0 ≤ c) (hc : c < 256) (hk : k < 4) : wrap64 (c * 2 ^ (8 * k)) = 256 ^ k * c := by
  obtain rfl | rfl | rfl | rfl : k = 0 ∨ k = 1 ∨ k = 2 ∨ k = 3 := by omega
  · rw [show c * 2 ^ (8 * 0) = 256 ^ 0 * c by omega]; exact IntWalk.wrap64_in _ ⟨by omega, by omega⟩
  · rw [show c * 2 ^ (8 * 1) = 256 ^ 1 * c by omega]; exact IntWalk.wrap64_in _ ⟨by omega, by omega⟩
  · rw [show c * 2 ^ (8 * 2) = 256 ^ 2 * c by omega]; exact IntWalk.wrap64_in _ ⟨by omega, by omega⟩
  · rw [show c * 2 ^ (8 * 3) = 256 ^ 3 * c by omega]; exact IntWalk.wrap64_in _ ⟨by omega, by omega⟩

theorem number_any {w : World} {g B : Nat} {st : CSt} (h : Cu X 124 w g st) (n : Nat) (hn : n ≤ 4) (hB : B ≤ g) :
    Calls Try.prog 77 #[.pointer (some ⟨g, 0, none⟩), .int .i64 (n : Int)] w fun e w' => e = .returned (.int .i64 (le (nextL st n))) ∧ Cu X 124 w' g (nextSt st n) ∧ Tch B g w w' := by
  have HB := hide (byt_nextL h.byt n)
  have HLn := nextL_len (st := st) n
  have HC := hide h
  go_enter Try.func77, Try.ntmps77
  go_wp2_with fail
  refine (next_any HC.out n hB).mono ?_
  rintro e w1 ⟨v, rfl, ⟨ao, cap, rfl, hm, hcell⟩, hcu, htc⟩
  have HF := hide (And.intro hcu htc)
  have HCE := hide hcell
  clear hcu htc hcell hm
  obtain ⟨l, HN⟩ : ∃ l, Hid (nextL st n = l) := ⟨_, rfl⟩
  rw [HN.out] at HB HLn HCE ⊢
  go_wp2
  go_loopw [5, 12] (fun x i wr => ∃ k : Nat, k ≤ l.length ∧ i = .int .i64 k ∧ x = .int .i64 (le (l.take k)) ∧ wr = w1) (fun _ i _ => l.length - (intOf i).toNat)
  case atStart => exact ⟨0, Nat.zero_le _, rfl, rfl, rfl⟩
  case round =>
    obtain ⟨k, hk, rfl, rfl, rfl⟩ := hrel
    by_cases hlt : k < l.length
    · have hne : l ≠ [] := fun e => by rw [e] at hlt; exact absurd hlt (Nat.not_lt_zero _)
      obtain ⟨b, o, rfl, hcl⟩ := HCE.out hne
      obtain ⟨c, hc, HD⟩ : ∃ c, wr.cell? ⟨b, o + k, none⟩ = some (.int .u8 c) ∧ Hid (c = l.getD k 0) := ⟨_, hcl k hlt, rfl⟩
      clear hcl
      have hc01 : 0 ≤ c ∧ c < 256 := by rw [HD.out]; exact HB.out k
      obtain ⟨V, HV, hV0, HV1⟩ : ∃ V, Hid (le (l.take k) = V) ∧ 0 ≤ V ∧ Hid (V < 256 ^ k) := by
        refine ⟨_, rfl, (le_bound (byt_take HB.out k)).1, ?_⟩
        have := (le_bound (byt_take HB.out k)).2
        rw [List.length_take, Nat.min_eq_left (by omega)] at this
        exact this
      rw [HV.out]
      have HO := hide (or_put k hV0 hc01.1 hc01.2 (by omega) HV1.out)
      have HT := hide (le_take hlt)
      rw [HV.out, ← HD.out] at HT
      obtain ⟨h0, h1⟩ := hc01
      go_wp2
      go_roundw
      case measure => simp [intOf]; omega
      case rel =>
        refine ⟨k + 1, by omega, by go_num, ?_, by trivial⟩
        rw [shl_put k h0 h1 (by omega), HO.out, HT.out]
    · go_wp2
      go_ret
      refine ⟨?_, HF.out⟩
      have e : l.take k = l := List.take_of_length_le (by omega)
      rw [e, HN.out]
      rfl

theorem rs_convert {w : World} {v : Value} {l : List Int} (h : RS w v l) : (convert 42 9 v).run Try.prog w = .ok (.string (strOfNums l)) w := by
  obtain ⟨ao, cap, rfl, hm, hc⟩ := h
  by_cases hl : l = []
  · subst hl
    cases ao with
    | none => exact run_convert_bytes_nil (P := Try.prog) w 42 5 Try.underlying42 Try.underlying5 0 cap 9 Try.underlying9
    | some a =>
      have h0 : (loadCells a 0).run Try.prog w = .ok (([] : List Int).map (Value.int .u8)).toArray w := by
        have := run_loadCells_list (P := Try.prog) w a [] (fun j v hj => by simp at hj)
        simpa using this
      show (convert 42 9 (.slice (some a) 0 cap)).run Try.prog w = _
      rw [run_convert_bytes_string w 42 9 5 _ 0 cap Try.underlying42 Try.underlying5 Try.underlying9, run_bytesToString w a 0 cap [] h0]
      rfl
  · obtain ⟨b, o, rfl, hcell⟩ := hc hl
    exact run_convert_bytes_arg (P := Try.prog) w 42 5 Try.underlying42 Try.underlying5 b o l.length cap l rfl hcell 9 Try.underlying9

theorem text_any {w : World} {g B : Nat} {st : CSt} (h : Cu X 124 w g st) (n : Int) (hB : B ≤ g) :
    Calls Try.prog 64 #[.pointer (some ⟨g, 0, none⟩), .int .i64 n] w fun e w' => e = .returned (.string (strOfNums (nextL st n))) ∧ Cu X 124 w' g (nextSt st n) ∧ Tch B g w w' := by
  have HC := hide h
  go_enter Try.func64, Try.ntmps64
  go_wp2_with fail
  refine (next_any HC.out n hB).mono ?_
  rintro e w1 ⟨v, rfl, hr, hcu, htc⟩
  have HF := hide (And.intro hcu htc)
  have hcv := rs_convert hr
  clear hr hcu htc
  go_wp2
  go_ret
  exact ⟨rfl, HF.out⟩

theorem u16_any {w : World} {g B : Nat} {st : CSt} (h : Cu X 124 w g st) (hB : B ≤ g) :
    Calls Try.prog 61 #[.pointer (some ⟨g, 0, none⟩)] w fun e w' => e = .returned (.int .i64 (le (nextL st (2 : Nat)))) ∧ Cu X 124 w' g (nextSt st (2 : Nat)) ∧ Tch B g w w' := by
  have HC := hide h
  go_enter Try.func61, Try.ntmps61
  go_wp2_with fail
  refine (number_any HC.out 2 (by omega) hB).mono ?_
  rintro e w1 ⟨rfl, hf⟩
  have HF := hide hf
  clear hf
  go_wp2
  go_ret
  exact ⟨rfl, HF.out⟩

theorem u32_any {w : World} {g B : Nat} {st : CSt} (h : Cu X 124 w g st) (hB : B ≤ g) :
    Calls Try.prog 62 #[.pointer (some ⟨g, 0, none⟩)] w fun e w' => e = .returned (.int .i64 (le (nextL st (4 : Nat)))) ∧ Cu X 124 w' g (nextSt st (4 : Nat)) ∧ Tch B g w w' := by
  have HC := hide h
  go_enter Try.func62, Try.ntmps62
  go_wp2_with fail
  refine (number_any HC.out 4 (by omega) hB).mono ?_
  rintro e w1 ⟨rfl, hf⟩
  have HF := hide hf
  clear hf
  go_wp2
  go_ret
  exact ⟨rfl, HF.out⟩

def seekSt (st : CSt) (n : Int) : CSt := if st.e ≠ 0 then st else if n < 0 then { st with e := 1 } else if (st.d.length : Int) < n then { st with e := 1 } else { st with p := n.toNat }

end Go.Proofs.Ytjmjjjpanioifaa

