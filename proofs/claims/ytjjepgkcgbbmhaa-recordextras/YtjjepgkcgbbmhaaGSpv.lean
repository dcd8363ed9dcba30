import Derived.Test.YtjjepgkcgbbmhaaGSpx
import Derived.Test.YtjjepgkcgbbmhaaGVgt
namespace Go.Proofs.Ytjjepgkcgbbmhaa
open Go.RowKit Go.Maps
set_option maxRecDepth 20000
set_option linter.unusedVariables false
set_option linter.unusedSimpArgs false

theorem nums_str' (s : ByteArray) : strOfNums (strL s) = s := by
  unfold strOfNums strL
  rw [List.map_map]
  have e : (s.data.toList.map ((fun n : Int => UInt8.ofNat n.toNat) ∘ fun b => (b.toNat : Int))) = s.data.toList := by
    rw [show ((fun n : Int => UInt8.ofNat n.toNat) ∘ fun b : UInt8 => (b.toNat : Int)) = id from by funext b; simp]
    simp
  rw [e]

theorem str_sub (s : ByteArray) (a b : Nat) (hab : a ≤ b) (hb : b ≤ s.size) : s.extract a b = strOfNums (sub (strL s) a (b - a)) := by
  have h1 : strL (s.extract a b) = sub (strL s) a (b - a) := by
    unfold strL sub
    have h2 : (s.extract a b).data.toList = (s.data.toList.drop a).take (b - a) := by
      rw [ByteArray.data_extract, Array.toList_extract]
    rw [h2, List.map_take, List.map_drop]
  rw [← h1, nums_str']

set_option maxHeartbeats 8000000 in
theorem vsplitExtra_any (s : ByteArray) (w : World) (hs : s.size ≤ 140737488351232) :
    Calls Try.prog 21 #[.string s] w fun e w' => ∃ a c, e = .returned (.tuple #[.slice a (spA (strL s)).1.length c, .int .i64 (spA (strL s)).2]) ∧ OX w' w.heap.size (.slice a (spA (strL s)).1.length c) (spA (strL s)).1 ∧ Below w.heap.size w w' := by
  obtain ⟨d, hd⟩ : ∃ d, d = strL s := ⟨_, rfl⟩
  have hdl : d.length = s.size := by rw [hd]; exact length_strL s
  have HBy : Hid (Byt d) := by rw [hd]; exact byt_strL s
  have HDE := hide hd
  by_cases hbig : (65535 : Int) < (s.size : Int)
  · have HA : Hid (spA (strL s) = ([], 124)) := by show _ = _; unfold spA; rw [if_pos (by rw [← hd]; omega)]
    clear hd
    go_enter Try.func21, Try.ntmps21
    go_wp2
    go_ret2
    rw [HA.out]
    exact ⟨none, 0, rfl, OX.nil _ _, Below.refl _ _⟩
  have HA : Hid (spA (strL s) = spl (d.length + 1) [] d) := by show _ = _; unfold spA; rw [if_neg (by rw [← hd]; omega), ← hd]
  have hd2 : d.length ≤ 65535 := by omega
  clear hd
  go_enter Try.func21, Try.ntmps21
  go_wp2_with (refine wpList_s2b rfl _ rfl s rfl (by omega) ?_)
  intro w1 c1 hsb hb1
  rw [← HDE.out] at hsb
  have HSB : Hid (SB w1 (.slice (some ⟨w.heap.size, 0, none⟩) s.size c1) d) := hsb
  have HB1 := hide hb1
  clear hsb hb1
  go_wp2
  go_loopw [5, 6, 7, 8] (fun t i _ _ wr => ∃ (p f : Nat) (T : List Xf) (ta : Option Addr) (tc : Nat), t = .slice ta T.length tc ∧ i = .int .i64 (p : Int) ∧ p ≤ d.length ∧ T.length ≤ p ∧ Hid (d.length - p < f ∧ spl f T (d.drop p) = spl (d.length + 1) [] d) ∧ Hid (OX wr w1.heap.size (.slice ta T.length tc) T) ∧ Hid (Below w1.heap.size w1 wr)) (fun _ i _ _ _ => d.length - (intOf i).toNat)
  case atStart => exact ⟨0, d.length + 1, [], none, 0, rfl, rfl, Nat.zero_le _, Nat.zero_le _, ⟨by omega, by rw [List.drop_zero]⟩, OX.nil _ _, Below.refl _ _⟩
  case round =>
    obtain ⟨p, f, T, ta, tc, rfl, rfl, hp, hTp, HSP, HO, HB⟩ := hrel
    have HNM : Hid (∀ (k n : Nat), k + n ≤ d.length → n ≤ 4 → 1 ≤ n → Calls Try.prog 41 #[.slice (some ⟨w.heap.size, 0, none⟩) s.size c1, .int .i64 (k : Int), .int .i64 (n : Int)] wr fun e w' => e = .returned (.int .i64 (fld d k n)) ∧ w' = wr) := fun k n h1 h2 h3 => vnumber_any _ d k n wr (SB.below HSB.out HB.out) HBy.out h1 h2 h3 (by omega)
    have HBw := hide (HB1.out.trans (HB.out.mono HB1.out.size))
    by_cases hlt : p < d.length
    case neg =>
      have hpe : p = d.length := by omega
      have hz : ¬ (p : Int) < (s.size : Int) := by omega
      have HE : Hid (spA (strL s) = (T, 0)) := by show _ = _; rw [HA.out, ← HSP.out.2, hpe, spl_end]
      clear hpe
      go_wp2
      go_ret2
      rw [HE.out]
      exact ⟨ta, tc, rfl, HO.out.base HB1.out.size, HBw.out⟩
    have hz : (p : Int) < (s.size : Int) := by omega
    obtain ⟨t1, t2⟩ := spl_turn (T := T) hlt HSP.out.1
    by_cases h4 : d.length - p < 4
    case pos =>
      have HE : Hid (spA (strL s) = ([], 122)) := by show _ = _; rw [HA.out, ← HSP.out.2, t1 (.inl h4)]
      have h4' : (s.size : Int) - (p : Int) < 4 := by omega
      clear t1 t2
      go_wp2
      go_ret2
      rw [HE.out]
      exact ⟨none, 0, rfl, OX.nil _ _, HBw.out⟩
    have h4' : ¬ (s.size : Int) - (p : Int) < 4 := by omega
    have hb := fld2 HBy.out (p + 2)
    obtain ⟨n, hn⟩ : ∃ n : Nat, n = (fld d (p + 2) 2).toNat := ⟨_, rfl⟩
    have HNI : Hid (fld d (p + 2) 2 = (n : Int)) := by show _ = _; omega
    obtain ⟨tag, htag⟩ : ∃ tag, tag = fld d p 2 := ⟨_, rfl⟩
    have HTG := hide htag
    have HN1 : Hid (Calls Try.prog 41 #[.slice (some ⟨w.heap.size, 0, none⟩) s.size c1, .int .i64 (p : Int), .int .i64 2] wr fun e w' => e = .returned (.int .i64 tag) ∧ w' = wr) := by rw [htag]; exact HNM.out p 2 (by omega) (by omega) (by omega)
    obtain ⟨p2, hp2⟩ : ∃ p2 : Nat, p2 = p + 2 := ⟨_, rfl⟩
    have HN2 : Hid (Calls Try.prog 41 #[.slice (some ⟨w.heap.size, 0, none⟩) s.size c1, .int .i64 (p2 : Int), .int .i64 2] wr fun e w' => e = .returned (.int .i64 (n : Int)) ∧ w' = wr) := by rw [← HNI.out, hp2]; exact HNM.out (p + 2) 2 (by omega) (by omega) (by omega)
    have ep2 : (p : Int) + 2 = (p2 : Int) := by omega
    have HP2 := hide hp2
    clear hp2
    rw [← hn] at t1 t2
    clear htag hb hn
    go_wp2_with fail
    refine HN1.out.mono ?_
    rintro e wa ⟨rfl, hwa⟩
    subst hwa
    go_wp2_with fail
    refine HN2.out.mono ?_
    rintro e wb ⟨rfl, hwb⟩
    subst hwb
    by_cases h5 : d.length - p - 4 < n
    case pos =>
      have HE : Hid (spA (strL s) = ([], 122)) := by show _ = _; rw [HA.out, ← HSP.out.2, t1 (.inr h5)]
      have h5' : (s.size : Int) - (p : Int) - 4 < (n : Int) := by omega
      clear t1 t2 ep2
      go_wp2
      go_ret2
      rw [HE.out]
      exact ⟨none, 0, rfl, OX.nil _ _, HBw.out⟩
    have h5' : ¬ (s.size : Int) - (p : Int) - 4 < (n : Int) := by omega
    obtain ⟨f', hf', hsp⟩ := t2 (by omega)
    obtain ⟨st, hst⟩ : ∃ st, st = strOfNums (sub d (p + 4) n) := ⟨_, rfl⟩
    rw [← HTG.out, ← hst] at hsp
    have HNX : Hid (d.length - (p + 4 + n) < f' ∧ spl f' (T ++ [(tag, st)]) (d.drop (p + 4 + n)) = spl (d.length + 1) [] d) := ⟨hf', by rw [← hsp]; exact HSP.out.2⟩
    obtain ⟨k1, hk1⟩ : ∃ k : Nat, k = p + 4 := ⟨_, rfl⟩
    obtain ⟨k2, hk2⟩ : ∃ k : Nat, k = p + 4 + n := ⟨_, rfl⟩
    have HXT : Hid (s.extract k1 k2 = st) := by show _ = _; rw [str_sub s k1 k2 (by omega) (by omega), hst, HDE.out, hk1, hk2, show p + 4 + n - (p + 4) = n by omega]
    have e1 : (p : Int) + 4 = (k1 : Int) := by omega
    have e2 : (k1 : Int) + (n : Int) = (k2 : Int) := by omega
    have e3 : k1 ≤ k2 := by omega
    have e4 : k2 ≤ s.size := by omega
    have hxt := HXT.out
    have HK2 := hide hk2
    have HGl := hide HB.out.size
    clear t1 t2 hf' hsp hst hk1 hk2 ep2
    go_wp2_with (at_builtin; refine wpExt rfl _ _ rfl w1.heap.size (.slice ta T.length tc) T tag st rfl HO.out _ rfl (by omega) HGl.out ?_)
    intro v3 w3 ho3 hg3
    have HB3 := hide (grow_ext HB.out (Nat.le_refl _) HO.out hg3)
    obtain ⟨a3, c3, hv3, j3, j4⟩ := ho3.shape
    subst hv3
    have HO3 := hide ho3
    clear ho3 hg3
    go_wp2
    go_roundw
    case rel => exact ⟨k2, f', T ++ [(tag, st)], a3, c3, rfl, by go_num, by omega, by rw [List.length_append]; simp; omega, by rw [HK2.out]; exact HNX.out, HO3.out, HB3.out⟩
    case measure => simp [intOf]; omega
end Go.Proofs.Ytjjepgkcgbbmhaa

