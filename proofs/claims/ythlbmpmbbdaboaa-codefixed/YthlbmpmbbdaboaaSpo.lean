import Derived.Test.YthlbmpmbbdaboaaLst
namespace Go.Proofs.Ythlbmpmbbdaboaa
open Go.RowKit Go.Maps
set_option maxRecDepth 20000

theorem set_rep (m : Int) (L : List Int) (k : Nat) (h : k < L.length) : (List.replicate k m ++ L.drop k).set k m = List.replicate (k + 1) m ++ L.drop (k + 1) := by
  rw [List.set_append_right _ _ (by simp)]
  have e : L.drop k = L[k] :: L.drop (k + 1) := List.drop_eq_getElem_cons h
  have e2 : (L.drop k).set 0 m = m :: L.drop (k + 1) := by rw [e]; rfl
  simp [List.replicate_succ', e2]

theorem len_rep (m : Int) (L : List Int) {k : Nat} (h : k ≤ L.length) : (List.replicate k m ++ L.drop k).length = L.length := by
  rw [List.length_append, List.length_replicate, List.length_drop]; omega

theorem Herd.setset {W w : World} {xs : List ((Nat → Nat) × Thing)} {i : Nat} {a b : (Nat → Nat) × Thing} (H : Herd W w ((xs.set i a).set i b)) : Herd W w (xs.set i b) := by
  rw [List.set_set] at H; exact H

theorem spoil_any {W w : World} {xs : List ((Nat → Nat) × Thing)} (H : Herd W w xs) (i : Nat) {K : Nat → Nat} {v : Value} {L : List Int} (hi : xs[i]? = some (K, ti v L)) (a : Option Addr) (n c : Nat) (hn : n ≤ L.length) (hnc : n ≤ c) (hcm : c ≤ 9223372036854775807) (ha : 0 < n → ∃ g c', v = .slice (some ⟨g, 0, none⟩) L.length c' ∧ a = some ⟨g, 0, none⟩) :
    Calls Try.prog 14 #[.slice a n c] w fun e w' => e = .returned (.tuple #[]) ∧ Herd W w' (xs.set i (K, ti v (List.replicate n 9 ++ L.drop n))) := by
  have HH : Hid (Herd W w (xs.set i (K, ti v (List.replicate 0 9 ++ L.drop 0)))) := by
    have e : xs.set i (K, ti v (List.replicate 0 9 ++ L.drop 0)) = xs := by
      apply List.ext_getElem?
      intro m
      rw [List.getElem?_set]
      by_cases c : i = m
      · subst c
        rw [if_pos rfl, hi, if_pos (List.getElem?_eq_some_iff.1 hi).1]
        simp
      · rw [if_neg c]
    rw [e]; exact H
  have hil := (List.getElem?_eq_some_iff.1 hi).1
  have HA := hide ha
  have HIL := hide hil
  clear H hi ha hil
  go_enter Try.func14, Try.ntmps14
  go_wp2
  go_loopw [2] (fun q wr => ∃ k : Nat, k ≤ n ∧ q = .int .i64 k ∧ Hid (Herd W wr (xs.set i (K, ti v (List.replicate k 9 ++ L.drop k))))) (fun q _ => n - (intOf q).toNat)
  case atStart => exact ⟨0, Nat.zero_le _, rfl, HH⟩
  case round =>
    clear HH
    obtain ⟨k, hk, rfl, HT⟩ := hrel
    by_cases hlt : k < n
    · have hlt' : (k : Int) < (n : Int) := by omega
      obtain ⟨g, c', hv, hag⟩ := HA.out (by omega)
      have hgi : (xs.set i (K, ti v (List.replicate k 9 ++ L.drop k)))[i]? = some (K, ti v (List.replicate k 9 ++ L.drop k)) := by
        rw [List.getElem?_set, if_pos rfl, if_pos HIL.out]
      obtain ⟨g', c2, hv', ⟨u, hu⟩, hf, h2⟩ := HT.out.iput i hgi (k := k) (by rw [len_rep _ _ (by omega)]; omega) 9
      rw [hv] at hv'
      simp only [Value.slice.injEq, Option.some.injEq, Addr.mk.injEq] at hv'
      obtain ⟨⟨rfl, -, -⟩, -, -⟩ := hv'
      rw [set_rep _ _ _ (by omega)] at h2
      have H2 := hide h2.setset
      subst hag
      clear h2 HT hgi
      go_wp2
      go_roundw
      case rel => exact ⟨k + 1, by omega, by go_num, H2⟩
      case measure => simp [intOf]; omega
    · obtain rfl : k = n := by omega
      have hlt' : ¬ (k : Int) < (k : Int) := by omega
      go_wp2
      (try simp only [Exit.inBlock, Exit.then]); refine bodyPost_end (results_none rfl _ _ _) rfl ?_
      exact ⟨rfl, HT.out⟩
end Go.Proofs.Ythlbmpmbbdaboaa
