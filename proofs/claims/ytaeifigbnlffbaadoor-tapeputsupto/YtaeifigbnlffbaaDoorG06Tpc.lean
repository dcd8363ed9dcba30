import Derived.Test.YtaeifigbnlffbaaDoorG03Tpn
import Derived.Test.YtaeifigbnlffbaaDoorG04Shf
import Derived.Test.YtaeifigbnlffbaaDoorG05Walk1
import Derived.BigQuiet
import Derived.OwnWalk
import Derived.Deep.QuietTactic
namespace Go.Proofs.YtaeifigbnlffbaaDoor
open Go.RowKit Go.Maps
set_option maxRecDepth 20000
set_option linter.unusedVariables false
set_option linter.unusedSimpArgs false

/-! How a name is cut, by the program and by the document. -/

def txsL : List Int := [0, 100, 157, 100, 265, 32, 297, 32, 345, 155]
def nmsL : List Int := [100, 8, 108, 8, 116, 8, 124, 12, 136, 12, 329, 8, 337, 8, 148, 8]

structure Tbs (w : World) : Prop where
  tx : ∀ (i : Nat) (v : Int), txsL[i]? = some v → w.cell? ⟨1, i, none⟩ = some (.int .i64 v)
  nm : ∀ (i : Nat) (v : Int), nmsL[i]? = some v → w.cell? ⟨0, i, none⟩ = some (.int .i64 v)

theorem Tbs.mono {w w' : World} (h : Tbs w) (hb : Below w.heap.size w w') : Tbs w' :=
  ⟨fun i v hv => (hb.cell (World.block_lt_of_cell? w _ (h.tx i v hv))).trans (h.tx i v hv), fun i v hv => (hb.cell (World.block_lt_of_cell? w _ (h.nm i v hv))).trans (h.nm i v hv)⟩

theorem indexByte_is (l : List UInt8) (c : UInt8) : Lib.indexByte l c = if l.findIdx (· == c) < l.length then (l.findIdx (· == c) : Int) else -1 := by
  induction l with
  | nil => rfl
  | cons b l ih =>
    unfold Lib.indexByte
    rw [List.findIdx_cons]
    by_cases h : b == c
    · simp [h]
    · rw [ih]
      have hb : (b == c) = false := by simpa using h
      simp only [hb, cond_false, List.length_cons]
      by_cases h2 : l.findIdx (· == c) < l.length
      · simp [h2] <;> omega
      · simp [h2]

theorem str_ext {s t : ByteArray} (h : s.data.toList = t.data.toList) : s = t := by
  cases s; cases t
  simp only at h
  congr 1
  exact Array.toList_inj.1 h

def cut1 (s : ByteArray) (c : UInt8) : ByteArray × ByteArray × Bool :=
  if s.data.toList.findIdx (· == c) < s.size then (s.extract 0 (s.data.toList.findIdx (· == c)), s.extract (s.data.toList.findIdx (· == c) + 1) s.size, true) else (s, ⟨#[]⟩, false)

set_option maxHeartbeats 1000000 in
theorem hsliCut (s : ByteArray) (c : UInt8) (w : World) (hs : s.size ≤ 9000000000000000000) :
    Calls Tryd.prog 74 #[.string s, .string ⟨#[c]⟩] w fun e w' => e = .returned (.tuple #[.string (cut1 s c).1, .string (cut1 s c).2.1, .bool (cut1 s c).2.2]) ∧ ∃ n, w' = w.drewN n := by
  have HI := hide (sh_stringslite_Index_one s c w)
  rw [indexByte_is] at HI
  have hl : s.data.toList.length = s.size := by rw [Array.length_toList]; rfl
  rw [hl] at HI
  obtain ⟨k, HK⟩ : ∃ k, Hid (k = s.data.toList.findIdx (· == c)) := ⟨_, rfl⟩
  rw [← HK.out] at HI
  unfold cut1
  rw [← HK.out]
  by_cases hk : k < s.size
  · rw [if_pos hk] at HI ⊢
    have h0 : (0 : Int) ≤ (k : Int) := by omega
    have hw : IntKind.i64.wrap ((k : Int) + 1) = ((k + 1 : Nat) : Int) := by rw [IntKind.wrap_i64]; omega
    have h1 : k + 1 ≤ s.size := by omega
    have h2 : k ≤ s.size := by omega
    clear hl
    go_enter Tryd.func74, Tryd.ntmps74
    go_wp2_with fail
    refine HI.out.mono ?_
    rintro e w1 ⟨rfl, hw1⟩
    have hw2 := hw1.symm
    clear hw1
    subst hw2
    go_wp2
    go_quiet (fail)
    go_wp2
    go_ret3
    exact ⟨rfl, _, rfl⟩
  · rw [if_neg hk] at HI ⊢
    clear hl
    go_enter Tryd.func74, Tryd.ntmps74
    go_wp2_with fail
    refine HI.out.mono ?_
    rintro e w1 ⟨rfl, hw1⟩
    have hw2 := hw1.symm
    clear hw1
    subst hw2
    go_wp2
    go_ret3
    exact ⟨rfl, 0, rfl⟩

theorem hstrCut (s : ByteArray) (c : UInt8) (w : World) (hs : s.size ≤ 9000000000000000000) :
    Calls Tryd.prog 56 #[.string s, .string ⟨#[c]⟩] w fun e w' => e = .returned (.tuple #[.string (cut1 s c).1, .string (cut1 s c).2.1, .bool (cut1 s c).2.2]) ∧ ∃ n, w' = w.drewN n := by
  have HI := hide (hsliCut s c w hs)
  go_enter Tryd.func56, Tryd.ntmps56
  go_wp2_with fail
  refine HI.out.mono ?_
  rintro e w1 ⟨rfl, n, hn⟩
  have HN := hide hn
  clear hn
  go_wp2
  go_ret3
  exact ⟨rfl, n, HN.out⟩

theorem ext_list (s : ByteArray) (a b : Nat) : (s.extract a b).data.toList = (s.data.toList.drop a).take (b - a) := by
  rw [ByteArray.data_extract, Array.toList_extract, List.extract_eq_take_drop]

theorem size_list (s : ByteArray) : s.data.toList.length = s.size := by rw [Array.length_toList]; rfl

def cutB (s : ByteArray) : ByteArray × ByteArray × Bool :=
  if s.size ≤ 100 then (⟨#[]⟩, s, decide (0 < s.size)) else
    if slash s.data.toList (max 1 (s.size - 101)) ≤ 155 ∧ slash s.data.toList (max 1 (s.size - 101)) + 1 < s.size then (s.extract 0 (slash s.data.toList (max 1 (s.size - 101))), s.extract (slash s.data.toList (max 1 (s.size - 101)) + 1) s.size, true) else (⟨#[]⟩, ⟨#[]⟩, false)

theorem cutB_list (s : ByteArray) : cutN s.data.toList = ((cutB s).1.data.toList, (cutB s).2.1.data.toList, (cutB s).2.2) := by
  unfold cutN cutB
  rw [size_list]
  by_cases h1 : s.size ≤ 100
  · rw [if_pos h1, if_pos h1]
  · rw [if_neg h1, if_neg h1]
    by_cases h2 : slash s.data.toList (max 1 (s.size - 101)) ≤ 155 ∧ slash s.data.toList (max 1 (s.size - 101)) + 1 < s.size
    · rw [if_pos h2, if_pos h2]
      simp only [ext_list, List.drop_zero, Nat.sub_zero]
      congr 2
      rw [List.take_of_length_le]
      rw [List.length_drop, size_list]; omega
    · rw [if_neg h2, if_neg h2]

theorem empty_is (s : ByteArray) : s.toList.isEmpty = decide (s.size = 0) := by
  have h : s.toList = s.data.toList := Lib.toList_data s
  rw [h, ← size_list]
  cases s.data.toList <;> simp

theorem slash_ext (s : ByteArray) (f : Nat) (hf : f ≤ s.size) : slash s.data.toList f = f + (s.extract f s.size).data.toList.findIdx (· == 47) := by
  unfold slash
  rw [ext_list, List.take_of_length_le]
  rw [List.length_drop, size_list]; omega

set_option maxHeartbeats 2000000 in
theorem hcut (s : ByteArray) (w : World) (T : Tbs w) (hs : s.size ≤ 9000000000000000000) :
    Calls Tryd.prog 41 #[.string s] w fun e w' => e = .returned (.tuple #[.string (cutB s).1, .string (cutB s).2.1, .bool (cutB s).2.2]) ∧ ∃ n, w' = w.drewN n := by
  have t1 := T.tx 1 100 rfl
  have t9 := T.tx 9 155 rfl
  unfold cutB
  by_cases h1 : s.size ≤ 100
  · rw [if_pos h1]
    have h1' : (s.size : Int) ≤ 100 := by omega
    have hE : Hid ((!s.toList.isEmpty) = decide (0 < s.size)) := by
      show _ = _
      rw [empty_is]
      by_cases h : s.size = 0
      · simp [h]
      · have : 0 < s.size := by omega
        simp [h, this]
    clear T t9
    go_enter Tryd.func41, Tryd.ntmps41
    go_wp2
    go_ret3
    refine ⟨?_, 0, rfl⟩
    rw [← hE.out]
    rfl
  · rw [if_neg h1]
    have h1' : ¬ (s.size : Int) ≤ 100 := by omega
    obtain ⟨f, HF⟩ : ∃ f, Hid (f = max 1 (s.size - 101)) := ⟨_, rfl⟩
    rw [← HF.out]
    have hf1 : f ≤ s.size := by rw [HF.out]; omega
    have hmx : max 1 ((s.size : Int) - 100 - 1) = (f : Int) := by rw [HF.out]; omega
    have HC := hide (hstrCut (s.extract f s.size) 47 w (by rw [ByteArray.size_extract]; omega))
    have HJ := hide (slash_ext s f hf1)
    obtain ⟨k, HK⟩ : ∃ k, Hid (k = (s.extract f s.size).data.toList.findIdx (· == 47)) := ⟨_, rfl⟩
    rw [← HK.out] at HJ
    unfold cut1 at HC
    rw [← HK.out] at HC
    have hz : (s.extract f s.size).size = s.size - f := by rw [ByteArray.size_extract]; omega
    rw [hz] at HC
    by_cases hk : k < s.size - f
    · rw [if_pos hk] at HC
      obtain ⟨bef, HBE⟩ : ∃ bef, Hid (bef = (s.extract f s.size).extract 0 k) := ⟨_, rfl⟩
      obtain ⟨aft, HAF⟩ : ∃ aft, Hid (aft = (s.extract f s.size).extract (k + 1) (s.size - f)) := ⟨_, rfl⟩
      rw [← HBE.out, ← HAF.out] at HC
      have hbs : bef.size = k := by rw [HBE.out, ByteArray.size_extract, hz]; omega
      have HA2 : Hid (aft = s.extract (slash s.data.toList f + 1) s.size) := by
        show _ = _
        apply str_ext
        rw [HAF.out, HJ.out]
        simp only [ext_list]
        rw [List.drop_take, List.drop_drop, List.take_take]
        congr 1
        omega
      have has : aft.size = s.size - (f + k + 1) := by rw [HA2.out, HJ.out, ByteArray.size_extract]; omega
      have hsum : (f : Int) + (bef.size : Int) = ((f + k : Nat) : Int) := by rw [hbs]; omega
      have hpz : (s.extract 0 (f + k)).size = f + k := by rw [ByteArray.size_extract]; omega
      have hemp := empty_is aft
      rw [HJ.out]
      rw [HJ.out] at HA2
      clear T hz HBE HAF
      by_cases hr : aft.size = 0
      · have hemp2 : aft.toList.isEmpty = true := by rw [hemp]; simp [hr]
        rw [if_neg (by omega)]
        clear hemp
        go_enter Tryd.func41, Tryd.ntmps41
        go_wp2_with fail
        refine HC.out.mono ?_
        rintro e w1 ⟨rfl, n, hn⟩
        have HN := hide hn
        have t19 : w1.cell? ⟨1, 9, none⟩ = some (.int .i64 155) := by rw [hn]; exact t9
        clear hn t9 HC
        go_wp2
        go_ret3
        exact ⟨rfl, n, HN.out⟩
      · have hemp2 : aft.toList.isEmpty = false := by rw [hemp]; simp [hr]
        clear hemp
        by_cases hp : f + k ≤ 155
        · rw [if_pos ⟨hp, by omega⟩, ← HA2.out]
          go_enter Tryd.func41, Tryd.ntmps41
          go_wp2_with fail
          refine HC.out.mono ?_
          rintro e w1 ⟨rfl, n, hn⟩
          have HN := hide hn
          have t19 : w1.cell? ⟨1, 9, none⟩ = some (.int .i64 155) := by rw [hn]; exact t9
          clear hn t9 HC
          go_wp2
          go_ret3
          exact ⟨rfl, n, HN.out⟩
        · rw [if_neg (by omega)]
          go_enter Tryd.func41, Tryd.ntmps41
          go_wp2_with fail
          refine HC.out.mono ?_
          rintro e w1 ⟨rfl, n, hn⟩
          have HN := hide hn
          have t19 : w1.cell? ⟨1, 9, none⟩ = some (.int .i64 155) := by rw [hn]; exact t9
          clear hn t9 HC
          go_wp2
          go_ret3
          exact ⟨rfl, n, HN.out⟩
    · rw [if_neg hk] at HC
      rw [HJ.out, if_neg (by omega)]
      have hpz : (s.extract 0 s.size).size = s.size := by rw [ByteArray.size_extract]; omega
      have hsum : (f : Int) + ((s.extract f s.size).size : Int) = ((s.size : Nat) : Int) := by rw [hz]; omega
      clear T
      go_enter Tryd.func41, Tryd.ntmps41
      go_wp2_with fail
      refine HC.out.mono ?_
      rintro e w1 ⟨rfl, n, hn⟩
      have HN := hide hn
      have t19 : w1.cell? ⟨1, 9, none⟩ = some (.int .i64 155) := by rw [hn]; exact t9
      clear hn t9 HC
      go_wp2
      go_ret3
      exact ⟨rfl, n, HN.out⟩
end Go.Proofs.YtaeifigbnlffbaaDoor

