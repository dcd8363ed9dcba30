import Derived.Test.YteiajeeincapoacParts
namespace Go.Proofs.Yteiajeeincapoac
open Go.RowKit Go.Maps

def partP (p : Nat × Nat × List Int) (a b : Nat) : Nat × Nat × List Int :=
  if b ≤ max a (p.1 + p.2.1) then (a, b - a, []) else (a, max a (p.1 + p.2.1) - a, (p.2.2.drop (max a (p.1 + p.2.1) - (p.1 + p.2.1))).take (b - max a (p.1 + p.2.1)))

theorem SB.cut {w : World} {x : Addr} {c : Nat} {d : List Int} (h : SB w (.slice (some x) d.length c) d) (lo n : Nat) (hn : lo + n ≤ d.length) (hp : 0 < n) : ∃ b o, x = ⟨b, o, none⟩ ∧ SB w (.slice (some ⟨b, o + lo, none⟩) n (c - lo)) ((d.drop lo).take n) := by
  obtain ⟨ao, cap, he, h1, h2, h3, h4⟩ := h
  simp only [Value.slice.injEq] at he
  obtain ⟨rfl, -, rfl⟩ := he
  obtain ⟨b, o, rfl⟩ := addr_lit (h4 x rfl 0 (by omega))
  have e : ((d.drop lo).take n).length = n := by simp; omega
  refine ⟨b, o, rfl, some ⟨b, o + lo, none⟩, c - lo, by rw [e], by rw [e]; omega, by unfold maxLen at h2 ⊢; omega, (fun h => by cases h), fun y hy i hi => ?_⟩
  cases hy
  rw [e] at hi
  have := h4 _ rfl (lo + i) (by omega)
  rw [Addr.add_lit] at this
  rw [Addr.add_lit, Nat.add_assoc, this]
  simp [List.getD, hi]

theorem part_any {w : World} {vd : Value} {d : List Int} {at' z a b : Nat} (hvd : SB w vd d) (hz : at' + z + d.length ≤ 16777216) (ha : at' ≤ a) (hab : a < b) (hb : b ≤ at' + z + d.length) :
    Calls Try.prog 56 #[.agg #[.int .i64 at', .int .i64 z, vd], .int .i64 a, .int .i64 b] w fun e w' => ∃ vd', e = .returned (.agg #[.int .i64 (partP (at', z, d) a b).1, .int .i64 (partP (at', z, d) a b).2.1, vd']) ∧
      SB w' vd' (partP (at', z, d) a b).2.2 ∧ (vd'.ownBlock = none ∨ vd'.ownBlock = vd.ownBlock) ∧ Below w.heap.size w w' := by
  have HV := hide hvd
  obtain ⟨ad, cd, hv, hd1, hd2, hd3, _⟩ := hvd
  subst hv
  unfold maxLen at hd2
  by_cases hc : b ≤ max a (at' + z)
  · have HP : Hid (partP (at', z, d) a b = (a, b - a, [])) := by show _ = _; unfold partP; rw [if_pos hc]
    have hba : (b : Int) - (a : Int) = ((b - a : Nat) : Int) := by omega
    by_cases hm : (a : Int) ≤ (at' : Int) + (z : Int)
    · have hcc : (b : Int) ≤ (at' : Int) + (z : Int) := by omega
      have HC := hide hba
      clear hc hba
      go_enter Try.func56, Try.ntmps56
      go_wp2
      (try simp only [Exit.inBlock, Exit.then])
      refine bodyPost_ret (v := .agg #[.int .i64 a, .int .i64 ((b : Int) - a), .slice none 0 0]) (by simp [results, Try.results56, go_sem]) rfl ?_
      refine ⟨.slice none 0 0, ?_, ?_, .inl rfl, ?_⟩
      · rw [HP.out, HC.out]
      · rw [HP.out]
        exact ⟨none, 0, rfl, Nat.le_refl _, Nat.zero_le _, fun _ => rfl, fun x hx => by cases hx⟩
      · exact ((Below.refl _ _).alloc (Nat.le_refl _) _).alloc (by simp) _
    · exfalso; omega
  · cases ad with
    | none => have := hd3 rfl; omega
    | some x =>
    by_cases hm : a < at' + z
    · have HP : Hid (partP (at', z, d) a b = (a, at' + z - a, (d.drop 0).take (b - (at' + z)))) := by
        show _ = _
        unfold partP
        rw [if_neg hc]
        simp only []
        rw [show max a (at' + z) = at' + z by omega, Nat.sub_self]
      obtain ⟨bb, o, rfl, hsb⟩ := HV.out.cut 0 (b - (at' + z)) (by omega) (by omega)
      have HSB := hide hsb
      have h1 : (a : Int) < (at' : Int) + (z : Int) := by omega
      have h2 : (at' : Int) + (z : Int) < (b : Int) := by omega
      have h3 : (b : Int) - ((at' : Int) + (z : Int)) ≤ (cd : Int) := by omega
      have h4 : ((b : Int) - ((at' : Int) + (z : Int))).toNat = b - (at' + z) := by omega
      have HC := hide (show (at' : Int) + (z : Int) - (a : Int) = ((at' + z - a : Nat) : Int) by omega)
      clear hc hsb hd3
      go_enter Try.func56, Try.ntmps56
      go_wp2
      (try simp only [Exit.inBlock, Exit.then])
      refine bodyPost_ret (v := .agg #[.int .i64 a, .int .i64 ((at' : Int) + z - a), .slice (some ⟨bb, o, none⟩) (b - (at' + z)) cd]) (by simp [results, Try.results56, go_sem]) rfl ?_
      have hb' : Below w.heap.size w _ := ((Below.refl w.heap.size w).alloc (Nat.le_refl _) (.cells #[.int .i64 at', .int .i64 z, .slice (some ⟨bb, o, none⟩) d.length cd] 73)).alloc (by simp) (.cells #[.int .i64 a, .int .i64 ((at' : Int) + z - a), .slice (some ⟨bb, o, none⟩) (b - (at' + z)) cd] 73)
      refine ⟨.slice (some ⟨bb, o, none⟩) (b - (at' + z)) cd, ?_, ?_, .inr rfl, hb'⟩
      · rw [HP.out, HC.out]
      · rw [HP.out]
        exact HSB.out.below hb'
    · have HP : Hid (partP (at', z, d) a b = (a, 0, (d.drop (a - (at' + z))).take (b - a))) := by
        show _ = _
        unfold partP
        rw [if_neg hc]
        simp only []
        rw [show max a (at' + z) = a by omega, Nat.sub_self]
      obtain ⟨bb, o, rfl, hsb⟩ := HV.out.cut (a - (at' + z)) (b - a) (by omega) (by omega)
      have HSB := hide hsb
      have h1 : ¬ (a : Int) < (at' : Int) + (z : Int) := by omega
      have h2 : (a : Int) < (b : Int) := by omega
      have h3 : (b : Int) - ((at' : Int) + (z : Int)) ≤ (cd : Int) := by omega
      have h4 : ((b : Int) - ((at' : Int) + (z : Int))).toNat = b - (at' + z) := by omega
      have h5 : ((a : Int) - ((at' : Int) + (z : Int))).toNat = a - (at' + z) := by omega
      have h6 : (a : Int) - ((at' : Int) + (z : Int)) ≤ (b : Int) - ((at' : Int) + (z : Int)) := by omega
      have h7 : (0 : Int) ≤ (a : Int) - ((at' : Int) + (z : Int)) := by omega
      have h8 : ¬ cd = a - (at' + z) := by omega
      have h9 : b - (at' + z) - (a - (at' + z)) = b - a := by omega
      clear hc hsb hd3
      go_enter Try.func56, Try.ntmps56
      go_wp2
      (try simp only [Exit.inBlock, Exit.then])
      refine bodyPost_ret (v := .agg #[.int .i64 a, .int .i64 0, .slice (some ⟨bb, o + (a - (at' + z)), none⟩) (b - a) (cd - (a - (at' + z)))]) (by simp [results, Try.results56, go_sem]) rfl ?_
      have hb' : Below w.heap.size w _ := ((Below.refl w.heap.size w).alloc (Nat.le_refl _) (.cells #[.int .i64 at', .int .i64 z, .slice (some ⟨bb, o, none⟩) d.length cd] 73)).alloc (by simp) (.cells #[.int .i64 a, .int .i64 0, .slice (some ⟨bb, o + (a - (at' + z)), none⟩) (b - a) (cd - (a - (at' + z)))] 73)
      refine ⟨.slice (some ⟨bb, o + (a - (at' + z)), none⟩) (b - a) (cd - (a - (at' + z))), ?_, ?_, .inr rfl, hb'⟩
      · rw [HP.out]; rfl
      · rw [HP.out]
        exact HSB.out.below hb'
end Go.Proofs.Yteiajeeincapoac
